/- The reference's arena: Free. -/
import Derived.Test.YtbaepjjanjhliaaRef01Y
namespace Go.Proofs.Ytbaepjjanjhliaa.ref01
set_option linter.unusedVariables false
open Go.RowKit
attribute [local go_sem ↓] Go.wp_at_zero Go.wp_at_succ
attribute [local go_sem] ag.upon_value ag.upon_skip ag.upon_enter

abbrev ints (l : List Int) : List Value := l.map (Value.int .i64)
def calm (_ : Nat → Value) (w w' : World) : Prop := Below w.heap.size w w'
/-- in the midst of a statement that makes a new struct: the struct that came in, and the variable of the result -/
def Mid (w wr : World) (room : Int) (vT vU vF : Value) (W : World) : Prop :=
  (W.cell? ⟨w.heap.size, 0, none⟩ = some (.int .i64 room) ∧ W.cell? ⟨w.heap.size, 1, none⟩ = some vT ∧ W.cell? ⟨w.heap.size, 2, none⟩ = some vU ∧ W.cell? ⟨w.heap.size, 3, none⟩ = some vF) ∧
    (∃ a b c d, Flds W (w.heap.size + 1) TR [a, b, c, d]) ∧ wr.heap.size ≤ W.heap.size ∧ Below w.heap.size w W
theorem Mid.later {w wr : World} {room : Int} {vT vU vF : Value} {W W' : World} (h : Mid w wr room vT vU vF W) (hb : Below W.heap.size W W') : Mid w wr room vT vU vF W' := by
  obtain ⟨⟨h0, h1, h2, h3⟩, ⟨a, b, c, d, hf⟩, h5, h6⟩ := h
  exact ⟨⟨cell_later hb h0, cell_later hb h1, cell_later hb h2, cell_later hb h3⟩, ⟨a, b, c, d, hf.later hb⟩, Nat.le_trans h5 hb.size, h6.trans (hb.mono h6.size)⟩
theorem Mid.grown {w wr : World} {room : Int} {vT vU vF : Value} {W W' : World} (h : Mid w wr room vT vU vF W) {row : Option Nat} (hg : W.grownBy W' row) (hr : ∀ g, row = some g → wr.heap.size ≤ g) (hw : w.heap.size + 1 < wr.heap.size) : Mid w wr room vT vU vF W' := by
  obtain ⟨⟨h0, h1, h2, h3⟩, ⟨a, b, c, d, hf⟩, h5, h6⟩ := h
  have hne : ∀ b, b < wr.heap.size → some b ≠ row := fun b hb e => by have := hr b e.symm; omega
  have hc : ∀ o, W'.cell? ⟨w.heap.size, o, none⟩ = W.cell? ⟨w.heap.size, o, none⟩ := fun o => World.cell?_of_block (hg.block _ (Nat.lt_of_lt_of_le (Nat.lt_of_succ_lt hw) h5) (hne _ (Nat.lt_of_succ_lt hw)))
  exact ⟨⟨(hc _).trans h0, (hc _).trans h1, (hc _).trans h2, (hc _).trans h3⟩, ⟨a, b, c, d, hf.grown hg (hne _ hw)⟩, Nat.le_trans h5 hg.size, h6.grown hg h6.size (fun g e => by have := hr g e; omega)⟩
/-- the store into the result's variable -/
def tRes (w : World) (_ : Nat → Value) (W W' : World) : Prop := W.grownBy W' (some (w.heap.size + 1)) ∧ ∃ a b c d, Flds W' (w.heap.size + 1) TR [a, b, c, d]
theorem Mid.res {w wr : World} {room : Int} {vT vU vF : Value} {f : Nat → Value} {W W' : World} (h : Mid w wr room vT vU vF W) (ht : tRes w f W W') : Mid w wr room vT vU vF W' := by
  obtain ⟨⟨h0, h1, h2, h3⟩, ⟨a, b, c, d, hf⟩, h5, h6⟩ := h
  have hc : ∀ o, W'.cell? ⟨w.heap.size, o, none⟩ = W.cell? ⟨w.heap.size, o, none⟩ := fun o => World.cell?_of_block (ht.1.block _ (Nat.lt_of_succ_lt hf.lt) (by simp))
  exact ⟨⟨(hc _).trans h0, (hc _).trans h1, (hc _).trans h2, (hc _).trans h3⟩, ht.2, Nat.le_trans h5 ht.1.size, h6.grown ht.1 h6.size (fun g e => by cases e; omega)⟩

theorem grown_trans {a b c : World} {row : Option Nat} (h : a.grownBy b row) (h' : b.grownBy c row) : a.grownBy c row :=
  ⟨h'.os.trans h.os, h'.tape.trans h.tape, h'.output.trans h.output, Nat.le_trans h.size h'.size, fun k hk hne => (h'.block k (Nat.lt_of_lt_of_le hk h.size) hne).trans (h.block k hk hne)⟩
theorem tRes_of {W : World} {b : Nat} {q0 q1 q2 q3 : Value} (h : Flds W b TR [q0, q1, q2, q3]) (v0 v1 v2 v3 : Value) :
    W.grownBy ((((W.setCell ⟨b, 0, none⟩ v0).setCell ⟨b, 1, none⟩ v1).setCell ⟨b, 2, none⟩ v2).setCell ⟨b, 3, none⟩ v3) (some b) ∧ Flds ((((W.setCell ⟨b, 0, none⟩ v0).setCell ⟨b, 1, none⟩ v1).setCell ⟨b, 2, none⟩ v2).setCell ⟨b, 3, none⟩ v3) b TR [v0, v1, v2, v3] :=
  ⟨grown_trans (grown_trans (grown_trans (grown_setCell W ⟨b, 0, none⟩ v0) (grown_setCell _ ⟨b, 1, none⟩ v1)) (grown_setCell _ ⟨b, 2, none⟩ v2)) (grown_setCell _ ⟨b, 3, none⟩ v3), (((h.set 0 v0).set 1 v1).set 2 v2).set 3 v3⟩
theorem owns_le {w : World} {B : Nat} {e : TypeId} {k : Nat} {a : Option Addr} {n cap : Nat} {xs : List Value} (h : w.ownsRow B e k (.slice a n cap) n xs) : n ≤ cap := by
  rcases h.2 with ⟨e, rfl⟩ | ⟨g, c, cur, e, _, _, hn, _⟩
  · exact Nat.zero_le _
  · simp only [Value.slice.injEq] at e; obtain ⟨-, -, rfl⟩ := e; exact hn
def vBox (wr : World) (T : TypeId) (m : Nat) (xs : List Value) (v : Value) (W : World) : Prop := ∃ g, v = .slice (some ⟨g, 0, none⟩) m m ∧ Flds W g T xs ∧ wr.heap.size ≤ g
def vRow (wr : World) (T : TypeId) (m : Nat) (xs : List Value) (v : Value) (W : World) : Prop :=
  (∃ a c, v = .slice a m c) ∧ W.ownsRow wr.heap.size T 1 v m xs ∧ ∀ g, v.ownBlock = some g → wr.heap.size ≤ g
theorem vBox.later {wr : World} {T : TypeId} {m : Nat} {xs : List Value} {v : Value} {W W' : World} (h : vBox wr T m xs v W) (hb : Below W.heap.size W W') : vBox wr T m xs v W' := by
  obtain ⟨g, e, hf, hg⟩ := h; exact ⟨g, e, hf.later hb, hg⟩
theorem vRow.later {wr : World} {T : TypeId} {m : Nat} {xs : List Value} {v : Value} {W W' : World} (h : vRow wr T m xs v W) (hb : Below W.heap.size W W') : vRow wr T m xs v W' := ⟨h.1, owns_below h.2.1 hb, h.2.2⟩
theorem vRow.at {wr : World} {T : TypeId} {m : Nat} {xs : List Value} {v : Value} {W : World} (h : vRow wr T m xs v W) : ∀ g, v.ownBlock = some g → wr.heap.size ≤ g ∧ g < W.heap.size := fun g e => ⟨h.2.2 g e, (h.2.1.lt g e).2⟩
theorem vBox.at {wr : World} {T : TypeId} {m : Nat} {xs : List Value} {v : Value} {W : World} (h : vBox wr T m xs v W) : ∀ g, v.ownBlock = some g → wr.heap.size ≤ g ∧ g < W.heap.size := by
  obtain ⟨g, rfl, hf, hg⟩ := h
  intro g' e; cases e; exact ⟨hg, hf.lt⟩
theorem vBox.res {w wr : World} {T : TypeId} {m : Nat} {xs : List Value} {v : Value} {f : Nat → Value} {W W' : World} (h : vBox wr T m xs v W) (ht : tRes w f W W') (hw : w.heap.size + 1 < wr.heap.size) : vBox wr T m xs v W' := by
  obtain ⟨g, e, hf, hg⟩ := h
  exact ⟨g, e, hf.grown ht.1 (by simp; omega), hg⟩
theorem vRow.res {w wr : World} {T : TypeId} {m : Nat} {xs : List Value} {v : Value} {f : Nat → Value} {W W' : World} (h : vRow wr T m xs v W) (ht : tRes w f W W') (hw : w.heap.size + 1 < wr.heap.size) : vRow wr T m xs v W' := by
  refine ⟨h.1, h.2.1.kept ht.1 ?_, h.2.2⟩
  cases hv : v.ownBlock with
  | none => exact .inl rfl
  | some g => right; have := h.2.2 g hv; simp; omega
theorem owns_res {w W1 : World} {va : Value} {T : TypeId} {n : Nat} {xs : List Value} {f : Nat → Value} {W W' : World} (h : W.ownsRow W1.heap.size T 1 va n xs) (ht : tRes w f W W') (hw : w.heap.size + 1 < W1.heap.size) : W'.ownsRow W1.heap.size T 1 va n xs := by
  refine h.kept ht.1 ?_
  cases hv : va.ownBlock with
  | none => exact .inl rfl
  | some g => right; have := (h.lt g hv).1; simp; omega
def Ap (v u : Value) : Prop := ∀ g, v.ownBlock = some g → u.ownBlock ≠ some g
theorem Ap.symm {v u : Value} (h : Ap v u) : Ap u v := fun g hu hv => h g hv hu
theorem Ap.or {v u : Value} (h : Ap v u) : v.ownBlock = none ∨ v.ownBlock ≠ u.ownBlock := by
  cases hv : v.ownBlock with
  | none => exact .inl rfl
  | some g => exact .inr (fun e => h g hv e.symm)
theorem apBox {W wr : World} {u : Value} {m c : Nat} (hu : ∀ g, u.ownBlock = some g → wr.heap.size ≤ g ∧ g < W.heap.size) : Ap (.slice (some ⟨W.heap.size, 0, none⟩) m c) u := by
  intro g hg hug
  have := hu g hug
  simp only [Value.ownBlock, Option.some.injEq] at hg
  omega
/-- the row of uses, which no operation touches -/
def RowAt (g n : Nat) (xs : List Value) (W : World) : Prop := g < W.heap.size ∧ ∀ j, j < n * 1 → W.cell? ⟨g, j, none⟩ = xs[j]?
theorem RowAt.grown {g n : Nat} {xs : List Value} {W W' : World} (h : RowAt g n xs W) {row : Option Nat} (hg : W.grownBy W' row) (hne : some g ≠ row) : RowAt g n xs W' :=
  ⟨Nat.lt_of_lt_of_le h.1 hg.size, fun j hj => (World.cell?_of_block (hg.block g h.1 hne)).trans (h.2 j hj)⟩
theorem RowAt.later {g n : Nat} {xs : List Value} {W W' : World} (h : RowAt g n xs W) (hb : Below W.heap.size W W') : RowAt g n xs W' := h.grown ⟨hb.os, hb.tape, hb.output, hb.size, fun k hk _ => hb.block k hk⟩ (row := none) (by simp)
def R5 (i j : Nat) (v u : Value) : Prop := if (i = 10 ∧ (j = 8 ∨ j = 5)) ∨ (j = 10 ∧ (i = 8 ∨ i = 5)) then Ap v u else True
theorem R5.none {i j : Nat} {v u : Value} (h : ¬ ((i = 10 ∧ (j = 8 ∨ j = 5)) ∨ (j = 10 ∧ (i = 8 ∨ i = 5)))) : R5 i j v u := by unfold R5; rw [if_neg h]; trivial
theorem R5.mk {i j : Nat} {v u : Value} (h : (i = 10 ∧ (j = 8 ∨ j = 5)) ∨ (j = 10 ∧ (i = 8 ∨ i = 5))) (ha : Ap v u) : R5 i j v u := by unfold R5; rw [if_pos h]; exact ha
theorem R5.out {i j : Nat} {v u : Value} (hr : R5 i j v u) (h : (i = 10 ∧ (j = 8 ∨ j = 5)) ∨ (j = 10 ∧ (i = 8 ∨ i = 5))) : Ap v u := by unfold R5 at hr; rwa [if_pos h] at hr
def tApp (wr : World) (n : Nat) (xs : List Value) (f : Nat → Value) (W W' : World) : Prop := W'.ownsRow wr.heap.size 3 1 (f 8) n xs ∧ W.grownBy W' (f 8).ownBlock ∧ ∀ g t, Flds W g t [] → Flds W' g t []
theorem tApp_nil {wr : World} {n : Nat} {xs : List Value} {f : Nat → Value} {v : Value} {W W' : World} (hv : vBox wr 3 0 [] v W) (ht : tApp wr n xs f W W') : vBox wr 3 0 [] v W' := by
  obtain ⟨g, e, hf, hg⟩ := hv
  exact ⟨g, e, ht.2.2 g _ hf, hg⟩
theorem tApp_box {wr : World} {n : Nat} {xs ys : List Value} {f : Nat → Value} {v : Value} {W W' : World} (hv : vBox wr 3 1 ys v W) (ht : tApp wr n xs f W W') (hr : 8 ≠ 10 → R5 8 10 (f 8) v ∨ R5 10 8 v (f 8)) : vBox wr 3 1 ys v W' := by
  obtain ⟨g, e, hf, hg⟩ := hv
  have ha : Ap v (f 8) := by
    rcases hr (by decide) with h | h
    · exact (h.out (by omega)).symm
    · exact h.out (by omega)
  refine ⟨g, e, hf.grown ht.2.1 (fun e' => ?_), hg⟩
  subst e
  exact ha g rfl e'.symm
theorem tApp_same {wr : World} {n : Nat} {xs : List Value} {f : Nat → Value} {v : Value} {W W' : World} (hv : vRow wr 3 (0 + n) xs v W) (ht : tApp wr n xs f W W') (e : v = f 8) : vRow wr 3 (0 + n) xs v W' := by
  refine ⟨hv.1, ?_, hv.2.2⟩
  rw [e, Nat.zero_add]; exact ht.1
def vAgg (wr : World) (v0 v1 v2 : Value) (m : Nat) (xs : List Value) (v : Value) (W : World) : Prop := ∃ a c, v = .agg #[v0, v1, v2, .slice a m c] ∧ vRow wr 3 m xs (.slice a m c) W
theorem vAgg.later {wr : World} {v0 v1 v2 : Value} {m : Nat} {xs : List Value} {v : Value} {W W' : World} (h : vAgg wr v0 v1 v2 m xs v W) (hb : Below W.heap.size W W') : vAgg wr v0 v1 v2 m xs v W' := by
  obtain ⟨a, c, e, h⟩ := h; exact ⟨a, c, e, h.later hb⟩
theorem vAgg.res {w wr : World} {v0 v1 v2 : Value} {m : Nat} {xs : List Value} {v : Value} {f : Nat → Value} {W W' : World} (h : vAgg wr v0 v1 v2 m xs v W) (ht : tRes w f W W') (hw : w.heap.size + 1 < wr.heap.size) : vAgg wr v0 v1 v2 m xs v W' := by
  obtain ⟨a, c, e, h⟩ := h; exact ⟨a, c, e, h.res ht hw⟩
def vRes (w wr : World) (v0 v1 v2 : Value) (m : Nat) (xs : List Value) (_ : Value) (W : World) : Prop := ∃ a c, Flds W (w.heap.size + 1) TR [v0, v1, v2, .slice a m c] ∧ vRow wr 3 m xs (.slice a m c) W
theorem vRes.later {w wr : World} {v0 v1 v2 : Value} {m : Nat} {xs : List Value} {v : Value} {W W' : World} (h : vRes w wr v0 v1 v2 m xs v W) (hb : Below W.heap.size W W') : vRes w wr v0 v1 v2 m xs v W' := by
  obtain ⟨a, c, e, h⟩ := h; exact ⟨a, c, e.later hb, h.later hb⟩

set_option maxRecDepth 100000 in
set_option maxHeartbeats 800000 in
theorem free_yes (room : Int) (aT : Option Addr) (cT : Nat) (aU : Option Addr) (us : List Bool) (cU : Nat) (aF : Option Addr) (fr : List Int) (cF : Nat) (w : World)
    (hr : Row w (.slice aU us.length cU) 1 us.length (us.map Value.bool)) (hF : Row w (.slice aF fr.length cF) 1 fr.length (ints fr)) (hm : us.length ≤ 1048576) (hmf : fr.length ≤ 1048576) (k : Nat) (hk : k < us.length) (hb : has us k = true) :
    Calls Try.prog 11 #[st room aT us.length cT aU us.length cU aF fr.length cF, .int .i64 k] w fun e w' =>
      (∃ aU' cU' aF' cF', e = .returned (.tuple #[st room aT us.length cT aU' us.length cU' aF' (fr.length + 1) cF', .bool true]) ∧ Row w' (.slice aU' us.length cU') 1 us.length ((us.set k false).map Value.bool) ∧ New w aU aU' ∧
        Row w' (.slice aF' (fr.length + 1) cF') 1 (fr.length + 1) (ints (fr ++ [(k : Int)])) ∧ New w aF aF' ∧ fr.length + 1 ≤ cF') ∧ Below w.heap.size w w' := by
  obtain ⟨i0, hi, hz0, hz1, hz2⟩ := info_parts infoInt
  obtain ⟨j0, hj, hy0, hy1, hy2⟩ := info_parts infoBool
  have hH := fun W (hB : Below w.heap.size w W) => has_any room aT us.length cT aU us cU aF fr.length cF W (hr.later hB) hm k
  rw [hb] at hH
  have HH := Lib.hid hH; have HU := Lib.hid hr; have HF := Lib.hid hF
  have hd0 : (0 : Int) ≤ (k : Int) := by omega
  have hd1 : (k : Int) < (us.length : Int) := by omega
  have h63 : 0 + us.length ≤ maxLen := by unfold maxLen; omega
  have h64 : (0 + us.length) * 1 ≤ 140737488355328 := by omega
  have h65 : 0 + fr.length ≤ maxLen := by unfold maxLen; omega
  have h66 : (0 + fr.length) * 8 ≤ 140737488355328 := by omega
  have h67 : fr.length + 1 ≤ maxLen := by unfold maxLen; omega
  have h68 : (fr.length + 1) * 8 ≤ 140737488355328 := by omega
  clear hH hr hF
  go_enter Try.func11, Try.ntmps11
  go_wp2_with (first
    | (go_at_call 14; refine (HH.out _ (((Below.refl _ _).alloc (Nat.le_refl _) _).alloc (by simp) _)).mono ?_; rintro e w1 ⟨rfl, hb1⟩; obtain ⟨B1, B2⟩ := boxes _ _ _ _ _ _ _ _ _ hb1; have c0 := B1.cell 0; have c1 := B1.cell 1; have c2 := B1.cell 2; have c3 := B1.cell 3; have hz := B2.lt; have hzz := B1.lt; simp only [List.getElem?_cons_zero, List.getElem?_cons_succ] at c0 c1 c2 c3; have HB2 := Lib.hid B2; have HB1 := Lib.hid hb1; clear B1 B2 hb1)
    | (at_builtin; refine wpList_append_row _ rfl (.tmp 12) (.tmp 14) 27 (by rfl) w1.heap.size 4 j0 (.bool false) 1 1 Try.underlying27 hj hy0 hy1 hy2 rfl (by decide) (.slice (some ⟨w1.heap.size, 0, none⟩) 0 0) 0 [] (by rfl) (owns_of_flds (m := 0) (Flds.new w1 4 []) rfl (Nat.le_refl _) (by decide)) (.slice aU us.length cU) us.length (us.map Value.bool) (by rfl) ?crow (one_bool us) h63 h64 ?cbase ?_))
  case crow => exact HU.out.later (((Below.refl _ w).alloc (Nat.le_refl _) _).alloc (by simp) _ |>.trans (HB1.out.mono (by simp; omega)) |>.alloc (by omega) _)
  case cbase => simp
  intro a' cap' w2 hap
  have hb2 : Below w1.heap.size w1 w2 := ((Below.refl _ w1).alloc (Nat.le_refl _) _).trans ((hap.full (fun a c e => by cases e; exact Nat.le_refl _)).mono (by simp))
  obtain ⟨g, rfl, hg1, hg2, hgc, hgf⟩ := owns_cellAt (show w2.ownsRow w1.heap.size 4 1 (.slice a' us.length cap') us.length (us.map Value.bool) by simpa using hap.own) (by omega)
  have gk := (hgc k (by omega)).trans (show (us.map Value.bool)[k]? = some (.bool us[k]) by rw [List.getElem?_map, List.getElem?_eq_getElem (by omega)]; rfl)
  have gf := hgf k
  have hne1 : w.heap.size ≠ g := by omega
  have hne2 : w.heap.size + 1 ≠ g := by omega
  have hB1 : Below w.heap.size w w1 := (((Below.refl _ w).alloc (Nat.le_refl _) _).alloc (by simp) _).trans (HB1.out.mono (by simp; omega))
  have hB2 : Below w.heap.size w w2 := hB1.trans (hb2.mono hB1.size)
  have hws : ∀ u, w2.heap.size = (w2.setCell ⟨g, k, none⟩ u).heap.size := fun u => by simp [World.setCell]
  have hmid : Mid w w2 room (.slice aT us.length cT) (.slice aU us.length cU) (.slice aF fr.length cF) (w2.setCell ⟨g, k, none⟩ (.bool false)).drew := by
    have hgr := grown_setCell w2 ⟨g, k, none⟩ (.bool false)
    have hne : ∀ b, b = w.heap.size ∨ b = w.heap.size + 1 → some b ≠ some g := fun b h e => by cases e; omega
    have hc : ∀ o v, w2.cell? ⟨w.heap.size, o, none⟩ = some v → (w2.setCell ⟨g, k, none⟩ (.bool false)).cell? ⟨w.heap.size, o, none⟩ = some v := fun o v h => (World.cell?_setCell_other _ _ _ _ (by intro e; cases e; exact hne1 rfl)).trans h
    exact ⟨⟨hc _ _ (cell_later hb2 c0), hc _ _ (cell_later hb2 c1), hc _ _ (cell_later hb2 c2), hc _ _ (cell_later hb2 c3)⟩, ⟨_, _, _, _, ((HB2.out.later hb2).other _ _ hne2).drew 1⟩, by show _ ≤ (w2.setCell _ _).heap.size; rw [← hws]; exact Nat.le_refl _, (hB2.setCell (p := ⟨g, k, none⟩) (by show w.heap.size ≤ g; omega) _).drew⟩
  have hrowU : ∀ j, j < us.length * 1 → (w2.setCell ⟨g, k, none⟩ (.bool false)).cell? ⟨g, j, none⟩ = ((us.set k false).map Value.bool)[j]? := by
    have h := row_set hgc (by simp) hk (.bool false)
    rw [← List.map_set] at h
    exact h
  have HM := Lib.hid hmid; have HRU := Lib.hid hrowU
  clear hmid hrowU hws hB1 hB2 hgc hgf hap hb2 c0 c1 c2 c3
  go_wp2
  have hw2 : w.heap.size + 1 < w2.heap.size := by omega
  refine ag.region_ag (fun W => Mid w w2 room (.slice aT us.length cT) (.slice aU us.length cU) (.slice aF fr.length cF) W ∧ RowAt g us.length ((us.set k false).map Value.bool) W) R5
    [.val (.pointer (some ⟨w.heap.size, 0, none⟩)), .val (.int .i64 room), .val (.pointer (some ⟨w.heap.size, 1, none⟩)), .val (.slice aT us.length cT), .val (.slice (some ⟨g, 0, none⟩) us.length cap'), .sat (vBox w2 3 0 []) calm, .val (.pointer (some ⟨w.heap.size, 3, none⟩)), .val (.slice aF fr.length cF),
      .sat (vRow w2 3 (0 + fr.length) (ints fr)) calm, .val (.int .i64 k), .sat (vBox w2 3 1 [.int .i64 k]) calm, .sat (vRow w2 3 (fr.length + 1) (ints fr ++ [.int .i64 k])) (tApp w2 fr.length (ints fr)),
      .sat (vAgg w2 (.int .i64 room) (.slice aT us.length cT) (.slice (some ⟨g, 0, none⟩) us.length cap') (fr.length + 1) (ints fr ++ [.int .i64 k])) calm, .sat (vRes w w2 (.int .i64 room) (.slice aT us.length cT) (.slice (some ⟨g, 0, none⟩) us.length cap') (fr.length + 1) (ints fr ++ [.int .i64 k])) (tRes w), .val (.bool true)]
    (by kernel_rfl) (by kernel_rfl) rfl ⟨HM.out, by show g < (w2.setCell _ _).heap.size; simp [World.setCell]; exact hg2, HRU.out⟩ ?hst ?hk ?hwalk
  case hst =>
    simp only [ag.Stab, ag.Row2, ag.Ok2, and_true]
    repeat' apply And.intro
    all_goals first
      | exact fun h => absurd rfl h
      | exact fun _ _ f v W W' hS hv _ ht => hv.later ht
      | exact fun _ _ f v W W' hS hv _ ht => hv.res ht hw2
      | exact fun _ _ f v W W' hS hv _ ht => tApp_nil hv ht
      | exact fun _ _ f v W W' hS hv hr ht => tApp_same hv ht ((hr 8 (by kernel_rfl) _ _ rfl).2.1 rfl)
      | exact fun _ _ f v W W' hS hv hr ht => tApp_box hv ht (hr 8 (by kernel_rfl) _ _ rfl).1
      | exact fun _ h => absurd (h.symm.trans (show _ = true by kernel_rfl)) (by decide)
      | trivial
  case hk =>
    simp only [ag.Keeps, and_true]
    repeat' apply And.intro
    all_goals first
      | exact fun f W W' hS _ ht => ⟨hS.1.later ht, hS.2.later ht⟩
      | exact fun f W W' hS _ ht => ⟨hS.1.res ht, hS.2.grown ht.1 (by simp; omega)⟩
      | exact fun f W W' hS hd ht => ⟨hS.1.grown ht.2.1 (fun b hb => ((hd 8 (by kernel_rfl) _ _ rfl : vRow w2 3 (0 + fr.length) (ints fr) (f 8) W).at b hb).1) hw2, hS.2.grown ht.2.1 (fun e => by have := ((hd 8 (by kernel_rfl) _ _ rfl : vRow w2 3 (0 + fr.length) (ints fr) (f 8) W).at g e.symm).1; omega)⟩
  case hwalk =>
    iterate 5
      refine ag.walk_val (by rfl) (fun W hS hE => ?_) ?_
      rotate_left; simp only [Act.put, List.setIfInBounds_toArray, List.set_cons_zero, List.set_cons_succ]; rotate_left
      · obtain ⟨hc0, hc1, hc2, hc3⟩ := hS.1.1
        clear hS hE
        unfold ag.does
        go_simp
        try exact ⟨rfl, rfl⟩
    refine ag.walk_sat (by rfl) (fun W hS hE => ?_) (fun x5 => ?_)
    rotate_left; simp only [Act.put, List.setIfInBounds_toArray, List.set_cons_zero, List.set_cons_succ]; rotate_left
    · clear hE
      unfold ag.does
      go_simp
      refine ⟨⟨_, rfl, Flds.new W 3 [], hS.1.2.2.1⟩, (Below.refl _ _).alloc (Nat.le_refl _) _, ?_⟩
      simp only [ag.News]
      refine ⟨fun _ u hu _ => R5.none (by omega), fun _ u hu _ => R5.none (by omega), fun _ u hu _ => R5.mk (by omega) (apBox hu.at), fun _ u hu _ => R5.none (by omega), fun _ u hu _ => R5.none (by omega), fun _ u hu _ => R5.none (by omega), trivial⟩
    iterate 2
      refine ag.walk_val (by rfl) (fun W hS hE => ?_) ?_
      rotate_left; simp only [Act.put, List.setIfInBounds_toArray, List.set_cons_zero, List.set_cons_succ]; rotate_left
      · obtain ⟨hc0, hc1, hc2, hc3⟩ := hS.1.1
        clear hS hE
        unfold ag.does
        go_simp
        try exact ⟨rfl, rfl⟩
    refine ag.walk_sat (by rfl) (fun W hS hE => ?_) (fun x8 => ?_)
    rotate_left; simp only [Act.put, List.setIfInBounds_toArray, List.set_cons_zero, List.set_cons_succ]; rotate_left
    · obtain ⟨g5, e5, hF5, hg5⟩ : vBox w2 3 0 [] x5 W := hE.get (by kernel_rfl)
      clear hE
      subst e5
      have hrF := HF.out.later hS.1.2.2.2
      refine does_append (.tmp 24) (.tmp 26) 26 (by rfl) w2.heap.size 3 i0 (.int .i64 0) 1 8 Try.underlying26 hi hz0 hz1 hz2 rfl (by decide) (.slice (some ⟨g5, 0, none⟩) 0 0) 0 [] (by rfl) (owns_of_flds (m := 0) hF5 rfl hg5 (by decide))
        (.slice aF fr.length cF) fr.length (ints fr) (by rfl) hrF (one_int fr) h65 h66 hS.1.2.2.1 (fun v' W' hap => ?_)
      refine ⟨⟨hap.form, hap.own, fun g' hv => ?_⟩, hap.full (fun a c e => by cases e; exact Nat.le_refl _), ?_⟩
      · rcases hap.lies with h | h | h
        · rw [h] at hv; cases hv
        · rw [h] at hv; cases hv; exact hg5
        · rw [h] at hv; cases hv; exact hS.1.2.2.1
      · simp only [ag.News]
        refine ⟨fun _ u hu _ => R5.none (by omega), fun _ u hu _ => R5.none (by omega), fun _ u hu hd => R5.mk (by omega) ?_, fun _ u hu _ => R5.none (by omega), fun _ u hu _ => R5.none (by omega), fun _ u hu _ => R5.none (by omega), trivial⟩
        have hp : Ap (.slice (some ⟨g5, 0, none⟩) 0 0) u := by
          rcases hd (5, .slice (some ⟨g5, 0, none⟩) 0 0) (List.mem_filter.2 ⟨by simp, by kernel_rfl⟩) (by show (5 : Nat) ≠ 10; decide) with h | h
          · exact h.out (by omega)
          · exact (h.out (by omega)).symm
        intro g' hv hug
        rcases hap.lies with h | h | h
        · rw [h] at hv; cases hv
        · rw [h] at hv; cases hv; exact hp _ rfl hug
        · rw [h] at hv; cases hv; have := (hu.at _ hug).2; omega
    iterate 1
      refine ag.walk_val (by rfl) (fun W hS hE => ?_) ?_
      rotate_left; simp only [Act.put, List.setIfInBounds_toArray, List.set_cons_zero, List.set_cons_succ]; rotate_left
      · obtain ⟨hc0, hc1, hc2, hc3⟩ := hS.1.1
        clear hS hE
        unfold ag.does
        go_simp
        try exact ⟨rfl, rfl⟩
    refine ag.walk_sat (by rfl) (fun W hS hE => ?_) (fun x10 => ?_)
    rotate_left; simp only [Act.put, List.setIfInBounds_toArray, List.set_cons_zero, List.set_cons_succ]; rotate_left
    · clear hE
      unfold ag.does
      go_simp
      refine ⟨⟨_, rfl, Flds.new W 3 [.int .i64 k], hS.1.2.2.1⟩, (Below.refl _ _).alloc (Nat.le_refl _) _, ?_⟩
      simp only [ag.News]
      refine ⟨fun _ u hu _ => R5.mk (by omega) (apBox hu.at), fun _ u hu _ => R5.mk (by omega) (apBox hu.at), fun _ u hu _ => R5.none (by omega), fun _ u hu _ => R5.none (by omega), fun _ u hu _ => R5.none (by omega), fun _ u hu _ => R5.none (by omega), trivial⟩
    refine ag.walk_sat (by rfl) (fun W hS hE => ?_) (fun x11 => ?_)
    rotate_left; simp only [Act.put, List.setIfInBounds_toArray, List.set_cons_zero, List.set_cons_succ]; rotate_left
    · obtain ⟨g5, e5, hF5, hg5⟩ : vBox w2 3 1 [.int .i64 k] x10 W := hE.get (by kernel_rfl)
      have h8 : vRow w2 3 (0 + fr.length) (ints fr) x8 W := hE.tail.get (by kernel_rfl)
      clear hE
      subst e5
      have h8o := h8.2.1
      rw [Nat.zero_add] at h8o
      refine does_append (.tmp 27) (.tmp 29) 26 (by rfl) w2.heap.size 3 i0 (.int .i64 0) 1 8 Try.underlying26 hi hz0 hz1 hz2 rfl (by decide) x8 fr.length (ints fr) (by rfl) h8o
        (.slice (some ⟨g5, 0, none⟩) 1 1) 1 [.int .i64 k] (by rfl) (Row.of_flds hF5 rfl 1) (one_int [(k : Int)]) h67 h68 hS.1.2.2.1 (fun v' W' hap => ?_)
      refine ⟨⟨hap.form, hap.own, fun g' hv => ?_⟩, (by unfold tApp; rw [ag.lookX_filter (by kernel_rfl)]; exact ⟨hap.old, hap.grown, hap.empty⟩), ag.News.none (fun k u => R5.none (by omega)) _ _⟩
      rcases hap.lies with h | h | h
      · rw [h] at hv; cases hv
      · rw [h] at hv; exact (h8.at g' hv).1
      · rw [h] at hv; cases hv; exact hS.1.2.2.1
    refine ag.walk_sat (by rfl) (fun W hS hE => ?_) (fun x12 => ?_)
    rotate_left; simp only [Act.put, List.setIfInBounds_toArray, List.set_cons_zero, List.set_cons_succ]; rotate_left
    · have h11 : vRow w2 3 (fr.length + 1) (ints fr ++ [.int .i64 k]) x11 W := hE.get (by kernel_rfl)
      clear hE
      obtain ⟨a, c, e⟩ := h11.1
      subst e
      unfold ag.does
      go_simp
      exact ⟨⟨a, c, rfl, h11⟩, Below.refl _ _, ag.News.none (fun k u => R5.none (by omega)) _ _⟩
    refine ag.walk_sat (by rfl) (fun W hS hE => ?_) (fun x13 => ?_)
    rotate_left; simp only [Act.put]; rotate_left
    · obtain ⟨a, c, e, h11⟩ : vAgg w2 (.int .i64 room) (.slice aT us.length cT) (.slice (some ⟨g, 0, none⟩) us.length cap') (fr.length + 1) (ints fr ++ [.int .i64 k]) x12 W := hE.get (by kernel_rfl)
      clear hE
      subst e
      obtain ⟨q0, q1, q2, q3, hfl⟩ := hS.1.2.1
      have z0 := hfl.cell 0; have z1 := hfl.cell 1; have z2 := hfl.cell 2; have z3 := hfl.cell 3
      have y0 := hfl.frozen 0; have y1 := hfl.frozen 1; have y2 := hfl.frozen 2; have y3 := hfl.frozen 3
      simp only [List.getElem?_cons_zero, List.getElem?_cons_succ] at z0 z1 z2 z3
      have HFL := Lib.hid hfl; have H11 := Lib.hid h11
      clear hfl h11 hS
      unfold ag.does
      go_simp
      have ht := tRes_of HFL.out (.int .i64 room) (.slice aT us.length cT) (.slice (some ⟨g, 0, none⟩) us.length cap') (.slice a (fr.length + 1) c)
      exact ⟨⟨a, c, ht.2, H11.out.res (f := fun _ => undef) ⟨ht.1, _, _, _, _, ht.2⟩ hw2⟩, ⟨ht.1, _, _, _, _, ht.2⟩, ag.News.none (fun k u => R5.none (by omega)) _ _⟩
    refine ag.walk_val (by rfl) (fun W hS hE => ?_) ?_
    rotate_left; simp only [Act.put, List.setIfInBounds_toArray, List.set_cons_zero, List.set_cons_succ]; rotate_left
    · clear hS hE
      unfold ag.does
      go_simp
      try exact ⟨rfl, rfl⟩
    refine ag.walk_nil (fun W hS hF' hP => ?_)
    obtain ⟨⟨a, c, hfl, h11⟩, -⟩ := hF'
    have z0 := hfl.cell 0; have z1 := hfl.cell 1; have z2 := hfl.cell 2; have z3 := hfl.cell 3
    simp only [List.getElem?_cons_zero, List.getElem?_cons_succ] at z0 z1 z2 z3
    have HS := Lib.hid hS; have H11 := Lib.hid h11
    clear hfl h11 hS hP HM HRU HH HB1 HB2
    go_wp2
    refine bodyPost_ret (v := .tuple #[st room aT us.length cT (some ⟨g, 0, none⟩) us.length cap' a (fr.length + 1) c, .bool true]) (by simp [results, Try.results11, go_sem, z0, z1, z2, z3]) rfl ⟨⟨_, _, _, _, rfl, ?_, New.fresh (by omega), ?_, ?_, owns_le H11.out.2.1⟩, HS.out.1.2.2.2⟩
    · exact row_of_cells (by simp) HS.out.2.2
    · have := Row.of_owns H11.out.2.1
      rw [show ints fr ++ [Value.int .i64 (k : Int)] = ints (fr ++ [(k : Int)]) by simp] at this
      exact this
    · rintro ⟨b, o, sp⟩ rfl
      have := H11.out.2.2 b rfl; show w.heap.size ≤ b; omega

end Go.Proofs.Ytbaepjjanjhliaa.ref01
