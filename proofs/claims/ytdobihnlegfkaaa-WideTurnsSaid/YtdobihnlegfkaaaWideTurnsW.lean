/- The law WideTurns, walked. -/
import Derived.Test.YtdobihnlegfkaaaWide
import Derived.Test.YtdobihnlegfkaaaOwn
namespace Go.Proofs.Ytdobihnlegfkaaa.wide
set_option linter.unusedVariables false
open Go.RowKit
attribute [local go_sem ↓] Go.wp_at_zero Go.wp_at_succ
attribute [local go_sem] ag.upon_value ag.upon_skip ag.upon_enter
attribute [local go_sem high] run_eqlW run_neqW run_min_keep

theorem sp1 : isInt (hiW 9223372036854775808) (loW 9223372036854775808) = false := by decide +kernel
theorem sp2 : isInt (hiW 9223372036854775807) (loW 9223372036854775807) = true := by decide +kernel
theorem sp3 : wrap64 (loW 9223372036854775807) = 9223372036854775807 := by decide +kernel

/-- the walk's spelling of a literal of wide numbers -/
theorem row_two {W : World} {g : Nat} (a b : Int) (h : Flds W g TW (enc a ++ enc b)) (cap : Nat) : Row W (.slice (some ⟨g, 0, none⟩) [a, b].length cap) 2 [a, b].length (cells [a, b]) :=
  Row.of_flds h rfl cap

theorem plus_sp (W : World) : Calls Try.prog 31 #[.slice (some ⟨W.heap.size, 0, none⟩) 2 2] (W.alloc (.cells #[.int .i64 (hiW 9223372036854775808), .int .u64 (loW 9223372036854775808), .int .i64 (hiW (-1)), .int .u64 (loW (-1))] TW)) fun e w' => e = .returned (agg 9223372036854775807) ∧ Below (W.alloc (.cells #[.int .i64 (hiW 9223372036854775808), .int .u64 (loW 9223372036854775808), .int .i64 (hiW (-1)), .int .u64 (loW (-1))] TW)).heap.size (W.alloc (.cells #[.int .i64 (hiW 9223372036854775808), .int .u64 (loW 9223372036854775808), .int .i64 (hiW (-1)), .int .u64 (loW (-1))] TW)) w' :=
  plus_any _ _ [9223372036854775808, -1] _ (row_two 9223372036854775808 (-1) (Flds.new W TW (enc 9223372036854775808 ++ enc (-1))) 2) (by decide)
theorem int_sp (w : World) : Calls Try.prog 27 #[agg 9223372036854775807] w fun e w' => e = .returned (.tuple #[.int .i64 9223372036854775807, .bool true]) ∧ Below w.heap.size w w' := by
  have h := int_any (hiW 9223372036854775807) (loW 9223372036854775807) (loW_bd _) w
  rw [sp2, sp3] at h
  exact h
set_option maxHeartbeats 1000000 in
theorem wide_speaks (w : World) :
    Calls Try.prog 24 #[] w fun e w' => e = .returned (.bool true) ∧ Below w.heap.size w w' := by
  go_enter Try.func24, Try.ntmps24
  go_wp2_with fail
  refine (of_any _ _ (by decide)).mono ?_; rintro e w1 ⟨rfl, hb1⟩
  go_wp2_with fail
  refine (of_any _ _ (by decide)).mono ?_; rintro e w2 ⟨rfl, hb2⟩
  go_wp2_with fail
  have hF := Flds.new w2 TW (enc 9223372036854775807 ++ enc 1)
  refine (plus_any _ _ [9223372036854775807, 1] _ (row_two _ _ hF _) (by decide)).mono ?_
  rintro e w3 ⟨rfl, hb3⟩
  rw [show [(9223372036854775807 : Int), 1].sum = 9223372036854775808 from rfl]
  have hB2 := hb1.trans (hb2.mono hb1.size)
  have hB3 : Below w.heap.size w w3 := (hB2.alloc hB2.size _).trans (hb3.mono (by simp; exact Nat.le_succ_of_le hB2.size))
  clear hb1 hb2 hB2 hF hb3
  go_wp2_with fail
  refine (int_any _ _ (loW_bd _) _).mono ?_; rintro e w4 ⟨rfl, hb4⟩
  rw [sp1]
  have c0 := cell_later hb4 (cells_new w3 [.int .i64 (hiW 9223372036854775808), .int .u64 (loW 9223372036854775808)] TW 0)
  have c1 := cell_later hb4 (cells_new w3 [.int .i64 (hiW 9223372036854775808), .int .u64 (loW 9223372036854775808)] TW 1)
  have hB4 : Below w.heap.size w w4 := (hB3.alloc hB3.size _).trans (hb4.mono (by simp; exact Nat.le_succ_of_le hB3.size))
  clear hb4
  go_wp2
  go_region_held3 (fun W => W.cell? ⟨w3.heap.size, 0, none⟩ = some (.int .i64 (hiW 9223372036854775808)) ∧ W.cell? ⟨w3.heap.size, 1, none⟩ = some (.int .u64 (loW 9223372036854775808)) ∧ Below w.heap.size w W)
    (first | exact ⟨c0, c1, hB4.drew⟩ | exact keep2 (by assumption) hb5 | exact keep2 (by assumption) ((Below.refl _ _).alloc (Nat.le_refl _) _) | exact keep2 (by assumption) hb6 | exact keep2 (by assumption) hb7)
    (first
      | (go_at_call 33; refine (of_any _ _ (by decide)).mono ?_; rintro e w5 ⟨rfl, hb5⟩)
      | (go_at_call 31; refine (plus_sp _).mono ?_; rintro e w6 ⟨rfl, hb6⟩)
      | (go_at_call 27; refine (int_sp _).mono ?_; rintro e w7 ⟨rfl, hb7⟩))
  go_wp2
  go_ret
  exact ⟨rfl, And.right (And.right (by assumption))⟩

theorem infoW : (Try.prog.info? 49).map (fun i => (i.zero, i.size, i.bytes)) = some (some (.agg #[.int .i64 0, .int .u64 0]), 2, 16) := by kernel_rfl

/-- two slices lie apart -/
def Ap (v u : Value) : Prop := ∀ g, v.ownBlock = some g → u.ownBlock ≠ some g
theorem Ap.symm {v u : Value} (h : Ap v u) : Ap u v := fun g hu hv => h g hv hu
theorem Ap.nil (u : Value) : Ap (.slice none 0 0) u := fun g h => by cases h
theorem Ap.or {v u : Value} (h : Ap v u) : v.ownBlock = none ∨ v.ownBlock ≠ u.ownBlock := by
  cases hv : v.ownBlock with
  | none => exact .inl rfl
  | some g => exact .inr (fun e => h g hv e.symm)
def calm (_ : Nat → Value) (w w' : World) : Prop := Below w.heap.size w w'

theorem tdiv2 (x : Int) : (0 ≤ x → x.tdiv 2 = x / 2) ∧ (x < 0 → x.tdiv 2 = -((-x) / 2)) := by
  refine ⟨fun h => Int.tdiv_eq_ediv_of_nonneg h, fun h => ?_⟩
  have h1 : (-x).tdiv 2 = (-x) / 2 := Int.tdiv_eq_ediv_of_nonneg (by omega)
  rw [← h1, Int.neg_tdiv, Int.neg_neg]
theorem tdiv2_bd (x : Int) (h : -9223372036854775808 ≤ x ∧ x ≤ 9223372036854775807) : (-4611686018427387904 ≤ x.tdiv 2 ∧ x.tdiv 2 ≤ 4611686018427387904) ∧ (-4611686018427387905 ≤ x - x.tdiv 2 ∧ x - x.tdiv 2 ≤ 4611686018427387905) := by
  obtain ⟨h1, h2⟩ := tdiv2 x
  rcases Int.lt_or_le x 0 with hx | hx
  · rw [h2 hx]; omega
  · rw [h1 hx]; omega
/-- the two halves that are taken away -/
def halves (x : Int) : List Int := [-(x.tdiv 2), -(x - x.tdiv 2)]
structure Inv (w0 : World) (L : List Int) (k : Nat) (va vb vc : Value) (W : World) : Prop where
  a : W.ownsRow w0.heap.size TW 2 va k (cells (L.take k))
  b : W.ownsRow w0.heap.size TW 2 vb k (cells (L.take k).reverse)
  c : W.ownsRow w0.heap.size TW 2 vc (2 * k) (cells ((L.take k).flatMap halves))
  ab : Ap va vb
  ac : Ap va vc
  bc : Ap vb vc
  bel : Below w0.heap.size w0 W

/-- in the midst of a statement: what is loaded, and the three rows; the first one is appended to -/
def Mid (w0 wr : World) (va : Value) (na : Nat) (xa : List Value) (vb : Value) (nb : Nat) (xb : List Value) (vc : Value) (nc : Nat) (xc : List Value) (bl off : Nat) (x : Int) (W : World) : Prop :=
  W.cell? ⟨bl, off, none⟩ = some (.int .i64 x) ∧ (W.ownsRow w0.heap.size TW 2 va na xa ∧ W.ownsRow w0.heap.size TW 2 vb nb xb ∧ W.ownsRow w0.heap.size TW 2 vc nc xc) ∧
    wr.heap.size ≤ W.heap.size ∧ Below w0.heap.size w0 W

def vOf (x : Int) (v : Value) (_ : World) : Prop := v = agg x
def vBox (wr : World) (m : Nat) (l : List Int) (v : Value) (W : World) : Prop := ∃ g, v = .slice (some ⟨g, 0, none⟩) m m ∧ Flds W g TW (cells l) ∧ wr.heap.size ≤ g
def vNew (w0 wr : World) (va : Value) (m : Nat) (l : List Int) (v : Value) (W : World) : Prop :=
  (∃ a c, v = .slice a m c) ∧ W.ownsRow w0.heap.size TW 2 v m (cells l) ∧ ∀ g, v.ownBlock = some g → va.ownBlock = some g ∨ wr.heap.size ≤ g
def tNew (w0 : World) (va : Value) (k : Nat) (xs : List Value) (_ : Nat → Value) (W W' : World) : Prop := W'.ownsRow w0.heap.size TW 2 va k xs ∧ W.grownBy W' va.ownBlock

theorem vBox.later {wr : World} {m : Nat} {l : List Int} {v : Value} {W W' : World} (h : vBox wr m l v W) (hb : Below W.heap.size W W') : vBox wr m l v W' := by
  obtain ⟨g, e, hf, hg⟩ := h
  exact ⟨g, e, hf.later hb, hg⟩
theorem vBox.grown {wr : World} {m : Nat} {l : List Int} {v va : Value} {W W' : World} (h : vBox wr m l v W) (hb : W.grownBy W' va.ownBlock) (hlt : ∀ g, va.ownBlock = some g → g < wr.heap.size) : vBox wr m l v W' := by
  obtain ⟨g, e, hf, hg⟩ := h
  exact ⟨g, e, hf.grown hb (fun e => by have := hlt g e.symm; omega), hg⟩
theorem vNew.later {w0 wr : World} {va : Value} {m : Nat} {l : List Int} {v : Value} {W W' : World} (h : vNew w0 wr va m l v W) (hb : Below W.heap.size W W') : vNew w0 wr va m l v W' :=
  ⟨h.1, owns_below h.2.1 hb, h.2.2⟩
theorem vNew.grown {w0 wr : World} {va vx : Value} {m : Nat} {l : List Int} {v : Value} {W W' : World} (h : vNew w0 wr va m l v W) (hn : va.ownBlock = none) (hb : W.grownBy W' vx.ownBlock) (hlt : ∀ g, vx.ownBlock = some g → g < wr.heap.size) : vNew w0 wr va m l v W' := by
  refine ⟨h.1, h.2.1.kept hb ?_, h.2.2⟩
  cases hv : v.ownBlock with
  | none => exact .inl rfl
  | some g =>
    right
    intro e
    have h1 := hlt g e.symm
    rcases h.2.2 g hv with h2 | h2
    · rw [hn] at h2; cases h2
    · omega
section
variable {w0 wr : World} {va : Value} {na : Nat} {xa : List Value} {vb : Value} {nb : Nat} {xb : List Value} {vc : Value} {nc : Nat} {xc : List Value} {bl off : Nat} {x : Int} {W W' : World}
theorem Mid.later (h : Mid w0 wr va na xa vb nb xb vc nc xc bl off x W) (hb : Below W.heap.size W W') : Mid w0 wr va na xa vb nb xb vc nc xc bl off x W' := by
  obtain ⟨h1, ⟨h2, h3, h4⟩, h5, h6⟩ := h
  exact ⟨cell_later hb h1, ⟨owns_below h2 hb, owns_below h3 hb, owns_below h4 hb⟩, Nat.le_trans h5 hb.size, h6.trans (hb.mono h6.size)⟩
theorem Mid.grown (h : Mid w0 wr va na xa vb nb xb vc nc xc bl off x W) {f : Nat → Value} (ht : tNew w0 va na xa f W W') (hbl : bl < w0.heap.size) (hab : Ap va vb) (hac : Ap va vc) : Mid w0 wr va na xa vb nb xb vc nc xc bl off x W' := by
  obtain ⟨h1, ⟨h2, h3, h4⟩, h5, h6⟩ := h
  have hg : ∀ g, va.ownBlock = some g → w0.heap.size ≤ g := fun g hv => (h2.lt g hv).1
  refine ⟨?_, ⟨ht.1, h3.kept ht.2 (Ap.or hab.symm), h4.kept ht.2 (Ap.or hac.symm)⟩, Nat.le_trans h5 ht.2.size, h6.grown ht.2 h6.size hg⟩
  rw [World.cell?_of_block (ht.2.block bl (World.block_lt_of_cell? W _ h1) (fun e => by have := hg bl e.symm; omega))]
  exact h1
end

/-- in the midst of the last statement -/
def Fin (w0 wr : World) (v6 : Value) (n6 : Nat) (x6 : List Value) (v7 : Value) (n7 : Nat) (x7 : List Value) (p q : Nat) (S h k : Int) (W : World) : Prop :=
  (W.cell? ⟨p, 0, none⟩ = some (.int .i64 (hiW S)) ∧ W.cell? ⟨p, 1, none⟩ = some (.int .u64 (loW S)) ∧ W.cell? ⟨q, 0, none⟩ = some (.int .i64 h) ∧ W.cell? ⟨q, 1, none⟩ = some (.int .u64 k)) ∧
    (W.ownsRow w0.heap.size TW 2 v6 n6 x6 ∧ W.ownsRow w0.heap.size TW 2 v7 n7 x7) ∧ wr.heap.size ≤ W.heap.size ∧ Below w0.heap.size w0 W
def tEnd (w0 : World) (n : Nat) (xs : List Value) (f : Nat → Value) (W W' : World) : Prop := W'.ownsRow w0.heap.size TW 2 (f 7) n xs ∧ W.grownBy W' (f 7).ownBlock ∧ ∀ g t, Flds W g t [] → Flds W' g t []
def vStr (s : ByteArray) (v : Value) (_ : World) : Prop := v = .string s
section
variable {w0 wr : World} {v6 : Value} {n6 : Nat} {x6 : List Value} {v7 : Value} {n7 : Nat} {x7 : List Value} {p q : Nat} {S h k : Int} {W W' : World}
theorem Fin.later (hF : Fin w0 wr v6 n6 x6 v7 n7 x7 p q S h k W) (hb : Below W.heap.size W W') : Fin w0 wr v6 n6 x6 v7 n7 x7 p q S h k W' := by
  obtain ⟨⟨h1, h2, h3, h4⟩, ⟨h5, h6⟩, h7, h8⟩ := hF
  exact ⟨⟨cell_later hb h1, cell_later hb h2, cell_later hb h3, cell_later hb h4⟩, ⟨owns_below h5 hb, owns_below h6 hb⟩, Nat.le_trans h7 hb.size, h8.trans (hb.mono h8.size)⟩
theorem Fin.grown (hF : Fin w0 wr v6 n6 x6 v7 n7 x7 p q S h k W) {row : Option Nat} (hg : W.grownBy W' row) (hrow : ∀ g, row = some g → wr.heap.size ≤ g) (hp : p < wr.heap.size) (hq : q < wr.heap.size) (h06 : ∀ g, v6.ownBlock = some g → g < wr.heap.size) (h07 : ∀ g, v7.ownBlock = some g → g < wr.heap.size) (hw : w0.heap.size ≤ wr.heap.size) : Fin w0 wr v6 n6 x6 v7 n7 x7 p q S h k W' := by
  obtain ⟨⟨h1, h2, h3, h4⟩, ⟨h5, h6⟩, h7, h8⟩ := hF
  have hne : ∀ b, b < wr.heap.size → some b ≠ row := fun b hb e => by have := hrow b e.symm; omega
  have hc : ∀ b o, b < wr.heap.size → W'.cell? ⟨b, o, none⟩ = W.cell? ⟨b, o, none⟩ := fun b o hb => World.cell?_of_block (hg.block b (by omega) (hne b hb))
  refine ⟨⟨(hc _ _ hp).trans h1, (hc _ _ hp).trans h2, (hc _ _ hq).trans h3, (hc _ _ hq).trans h4⟩, ⟨h5.kept hg ?_, h6.kept hg ?_⟩, Nat.le_trans h7 hg.size, h8.grown hg h8.size (fun g e => by have := hrow g e; omega)⟩
  · cases hv : v6.ownBlock with
    | none => exact .inl rfl
    | some g => exact .inr (hne g (h06 g hv))
  · cases hv : v7.ownBlock with
    | none => exact .inl rfl
    | some g => exact .inr (hne g (h07 g hv))
end
theorem halves_sum (L : List Int) : (L.flatMap halves).sum = -L.sum := by
  induction L with
  | nil => rfl
  | cons x L ih => rw [List.flatMap_cons, List.sum_append, ih]; simp [halves]; omega
theorem halves_len (L : List Int) : (L.flatMap halves).length = 2 * L.length := by
  induction L with
  | nil => rfl
  | cons x L ih => rw [List.flatMap_cons, List.length_append, ih]; simp [halves]; omega
/-- the rows of the last statement lie apart from one another -/
def R17 (i j : Nat) (v u : Value) : Prop := if (i = 9 ∧ (j = 7 ∨ j = 5)) ∨ (j = 9 ∧ (i = 7 ∨ i = 5)) then Ap v u else True
theorem R17.none {i j : Nat} {v u : Value} (h : ¬ ((i = 9 ∧ (j = 7 ∨ j = 5)) ∨ (j = 9 ∧ (i = 7 ∨ i = 5)))) : R17 i j v u := by unfold R17; rw [if_neg h]; trivial
theorem R17.mk {i j : Nat} {v u : Value} (h : (i = 9 ∧ (j = 7 ∨ j = 5)) ∨ (j = 9 ∧ (i = 7 ∨ i = 5))) (ha : Ap v u) : R17 i j v u := by unfold R17; rw [if_pos h]; exact ha
theorem R17.out {i j : Nat} {v u : Value} (hr : R17 i j v u) (h : (i = 9 ∧ (j = 7 ∨ j = 5)) ∨ (j = 9 ∧ (i = 7 ∨ i = 5))) : Ap v u := by unfold R17 at hr; rwa [if_pos h] at hr

/-- the rows of the first statement lie apart from one another -/
def R8 (i j : Nat) (v u : Value) : Prop := if (i = 7 ∧ (j = 13 ∨ j = 15)) ∨ (j = 7 ∧ (i = 13 ∨ i = 15)) then Ap v u else True

theorem R8.none {i j : Nat} {v u : Value} (h : ¬ ((i = 7 ∧ (j = 13 ∨ j = 15)) ∨ (j = 7 ∧ (i = 13 ∨ i = 15)))) : R8 i j v u := by unfold R8; rw [if_neg h]; trivial
theorem R8.mk {i j : Nat} {v u : Value} (h : (i = 7 ∧ (j = 13 ∨ j = 15)) ∨ (j = 7 ∧ (i = 13 ∨ i = 15))) (ha : Ap v u) : R8 i j v u := by unfold R8; rw [if_pos h]; exact ha
theorem R8.out {i j : Nat} {v u : Value} (hr : R8 i j v u) (h : (i = 7 ∧ (j = 13 ∨ j = 15)) ∨ (j = 7 ∧ (i = 13 ∨ i = 15))) : Ap v u := by unfold R8 at hr; rwa [if_pos h] at hr
theorem apNew {v va u : Value} {W wr : World} (lies : v.ownBlock = none ∨ v.ownBlock = va.ownBlock ∨ v.ownBlock = some W.heap.size) (hla : ∀ g, va.ownBlock = some g → g < wr.heap.size) (hu : ∀ g, u.ownBlock = some g → wr.heap.size ≤ g ∧ g < W.heap.size) : Ap v u := by
  intro g hg hug
  have := hu g hug
  rcases lies with h | h | h
  · rw [h] at hg; cases hg
  · rw [h] at hg; have := hla g hg; omega
  · rw [h] at hg; cases hg; omega
theorem apBox {W wr : World} {u : Value} {m c : Nat} (hu : ∀ g, u.ownBlock = some g → wr.heap.size ≤ g ∧ g < W.heap.size) : Ap (.slice (some ⟨W.heap.size, 0, none⟩) m c) u := by
  intro g hg hug
  have := hu g hug
  simp only [Value.ownBlock, Option.some.injEq] at hg
  omega
theorem vBox.at {wr W : World} {m : Nat} {l : List Int} {u : Value} (h : vBox wr m l u W) : ∀ g, u.ownBlock = some g → wr.heap.size ≤ g ∧ g < W.heap.size := by
  obtain ⟨g, rfl, hf, hg⟩ := h
  intro g' e
  cases e
  exact ⟨hg, hf.lt⟩
theorem vNew.at {w0 wr W : World} {m : Nat} {l : List Int} {u : Value} (h : vNew w0 wr (.slice none 0 0) m l u W) : ∀ g, u.ownBlock = some g → wr.heap.size ≤ g ∧ g < W.heap.size := by
  intro g e
  refine ⟨?_, (h.2.1.lt g e).2⟩
  rcases h.2.2 g e with h | h
  · cases h
  · exact h
theorem one_enc (l : List Int) : ∀ u ∈ cells l, u.oneCell' = true := by
  intro u hu
  simp only [cells, List.mem_flatMap, enc] at hu
  obtain ⟨x, -, hu⟩ := hu
  simp at hu
  rcases hu with rfl | rfl <;> rfl
theorem one_enc1 (x : Int) : ∀ u ∈ enc x, u.oneCell' = true := by
  intro u hu
  simp only [enc, List.mem_cons, List.not_mem_nil, or_false] at hu
  rcases hu with rfl | rfl <;> rfl
theorem cells_one (x : Int) : cells [x] = enc x := by simp [cells]

theorem tEnd_nil {w0 wr : World} {n : Nat} {xs : List Value} {f : Nat → Value} {v : Value} {W W' : World} (hv : vBox wr 0 [] v W) (ht : tEnd w0 n xs f W W') : vBox wr 0 [] v W' := by
  obtain ⟨g, e, hf, hg⟩ := hv
  exact ⟨g, e, ht.2.2 g _ hf, hg⟩
theorem tEnd_box {w0 wr : World} {n : Nat} {xs : List Value} {f : Nat → Value} {v : Value} {S : Int} {W W' : World} (hv : vBox wr 1 [S] v W) (ht : tEnd w0 n xs f W W') (hr : 7 ≠ 9 → R17 7 9 (f 7) v ∨ R17 9 7 v (f 7)) : vBox wr 1 [S] v W' := by
  obtain ⟨g, e, hf, hg⟩ := hv
  have ha : Ap v (f 7) := by
    rcases hr (by decide) with h | h
    · exact (h.out (by omega)).symm
    · exact h.out (by omega)
  refine ⟨g, e, hf.grown ht.2.1 (fun e' => ?_), hg⟩
  subst e
  exact ha g rfl e'.symm
theorem tEnd_same {w0 wr : World} {n : Nat} {l : List Int} {f : Nat → Value} {v : Value} {W W' : World} (hv : vNew w0 wr (.slice none 0 0) (0 + n) l v W) (ht : tEnd w0 n (cells l) f W W') (e : v = f 7) : vNew w0 wr (.slice none 0 0) (0 + n) l v W' := by
  refine ⟨hv.1, ?_, hv.2.2⟩
  rw [e, Nat.zero_add]
  exact ht.1

set_option maxRecDepth 100000 in
set_option maxHeartbeats 800000 in
theorem turns_walk (a0 : Option Addr) (cap : Nat) (ls : List Int) (s : ByteArray) (w : World) (hr : Row w (.slice a0 ls.length cap) 1 ls.length (ls.map (Value.int .i64))) (hcap : ls.length ≤ cap) (hm : cap ≤ 9223372036854775807)
    (hb : ∀ x ∈ ls, -9223372036854775808 ≤ x ∧ x ≤ 9223372036854775807) (hs : s.size ≤ 9223372036854775807) :
    Calls Try.prog 9 #[.slice a0 ls.length cap, .string s] w fun e w' => e = .returned (.bool true) ∧ Below w.heap.size w w' := by
  obtain ⟨i0, hi, hz0, hz1, hz2⟩ := info_parts infoW
  obtain ⟨L, hLl, hLr, hLb⟩ : ∃ L : List Int, L.length = min ls.length 30 ∧ Row w (.slice a0 L.length cap) 1 L.length (L.map (Value.int .i64)) ∧ ∀ x ∈ L, -9223372036854775808 ≤ x ∧ x ≤ 9223372036854775807 := by
    refine ⟨ls.take 30, by simp [Nat.min_comm], ?_, fun x hx => hb x (List.mem_of_mem_take hx)⟩
    obtain ⟨a, c, e, hl, h⟩ := hr
    simp only [Value.slice.injEq] at e
    obtain ⟨rfl, -, rfl⟩ := e
    refine ⟨_, _, rfl, by simp, ?_⟩
    rcases h with h | ⟨b, off, rfl, hc⟩
    · left; rw [List.length_take]; omega
    · by_cases h0 : (ls.take 30).length = 0
      · exact .inl h0
      · refine .inr ⟨b, off, rfl, fun j hj => ?_⟩
        have hj' : j < ls.length ∧ j < 30 := by simp at hj; omega
        rw [hc j (by omega), List.map_take, List.getElem?_take, if_pos hj'.2]
  have HR := Lib.hid hLr; have HB := Lib.hid hLb
  have e1 : min (ls.length : Int) 30 = (L.length : Int) := by omega
  have e2 : (L.length : Int) ≤ (cap : Int) := by omega
  have hL30 : L.length ≤ 30 := by omega
  clear hr hb hLr hLb hLl
  go_enter Try.func9, Try.ntmps9
  go_wp2_with (go_at_call 24; refine (wide_speaks _).mono ?_; rintro e w1 ⟨rfl, hb1⟩)
  go_loopw [5, 6, 7, 8] (fun va vb vc i wr => ∃ k : Nat, k ≤ L.length ∧ i = .int .i64 k ∧ Inv w L k va vb vc wr) (fun _ _ _ i _ => L.length - (intOf i).toNat)
  case atStart => exact ⟨0, Nat.zero_le _, rfl, { a := owns_nil _ _ _ _, b := owns_nil _ _ _ _, c := owns_nil _ _ _ _, ab := Ap.nil _, ac := Ap.nil _, bc := Ap.nil _, bel := hb1 }⟩
  case round =>
    obtain ⟨k, hk, rfl, hI⟩ := hrel
    have hd0 : (0 : Int) ≤ (k : Int) := by omega
    by_cases hlt : k < L.length
    · have hd1 : (k : Int) < (L.length : Int) := by omega
      obtain ⟨b, off, cap', ea, hc⟩ := HR.out.pos (by omega)
      simp only [Value.slice.injEq] at ea
      obtain ⟨rfl, -, rfl⟩ := ea
      have hu := List.getElem?_eq_getElem hlt
      have gw := (hc k (by omega)).trans (show (L.map (Value.int .i64))[k]? = some (.int .i64 L[k]) by rw [List.getElem?_map, hu]; rfl)
      have hbl := World.block_lt_of_cell? w _ gw
      have hxb := HB.out L[k] (List.getElem_mem hlt)
      obtain ⟨x, hx⟩ : ∃ x, L[k] = x := ⟨_, rfl⟩
      rw [hx] at gw hxb hu
      have HX := Lib.hid hu; have HXB := Lib.hid hxb
      have hmid : Mid w wr u5 k (cells (L.take k)) u6 k (cells (L.take k).reverse) u7 (2 * k) (cells ((L.take k).flatMap halves)) b (off + k) x wr.drew := ⟨cell_later hI.bel.drew gw, ⟨hI.a, hI.b, hI.c⟩, Nat.le_refl _, hI.bel.drew⟩
      have hla : ∀ g, u5.ownBlock = some g → g < wr.heap.size := fun g hg => (hI.a.lt g hg).2
      have HM := Lib.hid hmid; have HI := Lib.hid hI; have HLA := Lib.hid hla; have HBL := Lib.hid hbl
      have h63 : k + 1 ≤ maxLen := by unfold maxLen; omega
      have h64 : (k + 1) * 16 ≤ 140737488355328 := by omega
      have h65 : 1 + k ≤ maxLen := by unfold maxLen; omega
      have h66 : (1 + k) * 16 ≤ 140737488355328 := by omega
      clear hmid hI hla hbl hxb hu hc gw hx hb1
      go_wp2
      refine ag.region_ag (Mid w wr u5 k (cells (L.take k)) u6 k (cells (L.take k).reverse) u7 (2 * k) (cells ((L.take k).flatMap halves)) b (off + k) x) R8
        [.val u5, .val (.slice (some ⟨b, off, none⟩) L.length cap), .val (.int .i64 k), .val (.pointer (some ⟨b, off + k, none⟩)), .val (.int .i64 x), .sat (vOf x) calm, .sat (vBox wr 1 [x]) calm, .sat (vNew w wr u5 (k + 1) (L.take k ++ [x])) (tNew w u5 k (cells (L.take k))),
          .val (.slice (some ⟨b, off, none⟩) L.length cap), .val (.int .i64 k), .val (.pointer (some ⟨b, off + k, none⟩)), .val (.int .i64 x), .sat (vOf x) calm, .sat (vBox wr 1 [x]) calm, .val u6, .sat (vNew w wr (.slice none 0 0) (1 + k) (x :: (L.take k).reverse)) calm, .cpy 7, .cpy 15]
        (by kernel_rfl) (by kernel_rfl) rfl HM.out ?hst ?hk ?hwalk
      case hst =>
        simp only [ag.Stab, ag.Row2, ag.Ok2, and_true]
        repeat' apply And.intro
        all_goals first
          | exact fun h => absurd rfl h
          | exact fun _ _ _ _ _ _ hv _ _ => hv
          | exact fun _ f v W W' hS hv _ ht => hv.later ht
          | exact fun _ f v W W' hS hv _ ht => hv.grown ht.2 HLA.out
          | exact fun _ f v W W' hS hv _ ht => hv.grown rfl ht.2 HLA.out
          | trivial
      case hk =>
        simp only [ag.Keeps, and_true]
        repeat' apply And.intro
        all_goals first
          | exact fun f W W' hS _ ht => hS.later ht
          | exact fun f W W' hS _ ht => hS.grown ht HBL.out HI.out.ab HI.out.ac
      case hwalk =>
        iterate 5
          refine ag.walk_val (by rfl) (fun W hS hE => ?_) ?_
          rotate_left; simp only [Act.put, List.setIfInBounds_toArray, List.set_cons_zero, List.set_cons_succ]; rotate_left
          · have hc := hS.1
            clear hS hE
            unfold ag.does
            go_simp
            try exact ⟨rfl, rfl⟩
        refine ag.walk_sat (by rfl) (fun W hS hE => ?_) (fun x5 => ?_)
        rotate_left; simp only [Act.put, List.setIfInBounds_toArray, List.set_cons_zero, List.set_cons_succ]; rotate_left
        · clear hE
          unfold ag.does
          go_simp
          refine (of_any x W HXB.out).mono ?_
          rintro e W' ⟨rfl, hb'⟩
          exact ⟨_, rfl, rfl, hb', ag.News.none (fun k u => R8.none (by omega)) _ _⟩
        refine ag.walk_sat (by rfl) (fun W hS hE => ?_) (fun x6 => ?_)
        rotate_left; simp only [Act.put, List.setIfInBounds_toArray, List.set_cons_zero, List.set_cons_succ]; rotate_left
        · have h5 : x5 = agg x := hE.get (by kernel_rfl)
          clear hE
          subst h5
          unfold ag.does
          go_simp
          exact ⟨⟨_, rfl, Flds.new W TW (cells [x]), hS.2.2.1⟩, (Below.refl _ _).alloc (Nat.le_refl _) _, ag.News.none (fun k u => R8.none (by omega)) _ _⟩
        refine ag.walk_sat (by rfl) (fun W hS hE => ?_) (fun x7 => ?_)
        rotate_left; simp only [Act.put, List.setIfInBounds_toArray, List.set_cons_zero, List.set_cons_succ]; rotate_left
        · obtain ⟨g, e6, hF, hg⟩ : vBox wr 1 [x] x6 W := hE.get (by kernel_rfl)
          clear hE
          subst e6
          refine does_append (.tmp 26) (.tmp 32) 45 (by rfl) w.heap.size TW i0 (.agg #[.int .i64 0, .int .u64 0]) 2 16 Try.underlying45 hi hz0 hz1 hz2 rfl (by decide) u5 k (cells (L.take k)) (by rfl) hS.2.1.1
            (.slice (some ⟨g, 0, none⟩) 1 1) 1 (cells [x]) (by rfl) (Row.of_flds hF rfl 1) (one_enc _) h63 h64 hS.2.2.2.size (fun v' W' hap => ?_)
          refine ⟨⟨hap.form, by rw [cells_append]; exact hap.own, fun g hv => ?_⟩, ⟨hap.old, hap.grown⟩, ?_⟩
          · rcases hap.lies with h | h | h
            · rw [h] at hv; cases hv
            · exact .inl (h ▸ hv)
            · rw [h] at hv; cases hv; exact .inr hS.2.2.1
          · simp only [ag.News]
            refine ⟨fun _ u hu _ => R8.none (by omega), fun _ u hu _ => R8.none (by omega), fun _ u hu _ => R8.none (by omega), fun _ u hu _ => R8.none (by omega), fun _ u hu _ => R8.mk (by omega) (apNew hap.lies HLA.out hu.at), fun _ u hu _ => R8.mk (by omega) (apNew hap.lies HLA.out hu.at), trivial⟩
        iterate 4
          refine ag.walk_val (by rfl) (fun W hS hE => ?_) ?_
          rotate_left; simp only [Act.put, List.setIfInBounds_toArray, List.set_cons_zero, List.set_cons_succ]; rotate_left
          · have hc := hS.1
            clear hS hE
            unfold ag.does
            go_simp
            try exact ⟨rfl, rfl⟩
        refine ag.walk_sat (by rfl) (fun W hS hE => ?_) (fun x12 => ?_)
        rotate_left; simp only [Act.put, List.setIfInBounds_toArray, List.set_cons_zero, List.set_cons_succ]; rotate_left
        · clear hE
          unfold ag.does
          go_simp
          refine (of_any x W HXB.out).mono ?_
          rintro e W' ⟨rfl, hb'⟩
          exact ⟨_, rfl, rfl, hb', ag.News.none (fun k u => R8.none (by omega)) _ _⟩
        refine ag.walk_sat (by rfl) (fun W hS hE => ?_) (fun x13 => ?_)
        rotate_left; simp only [Act.put, List.setIfInBounds_toArray, List.set_cons_zero, List.set_cons_succ]; rotate_left
        · have h5 : x12 = agg x := hE.get (by kernel_rfl)
          clear hE
          subst h5
          unfold ag.does
          go_simp
          refine ⟨⟨_, rfl, Flds.new W TW (cells [x]), hS.2.2.1⟩, (Below.refl _ _).alloc (Nat.le_refl _) _, ?_⟩
          simp only [ag.News]
          refine ⟨fun _ u hu _ => R8.none (by omega), fun _ u hu _ => R8.none (by omega), fun _ u hu _ => R8.mk (by omega) ?_, fun _ u hu _ => R8.none (by omega), fun _ u hu _ => R8.none (by omega), fun _ u hu _ => R8.none (by omega), trivial⟩
          intro g hg hug
          have h1 := (hu.2.1.lt g hug).2
          simp only [Value.ownBlock, Option.some.injEq] at hg
          omega
        refine ag.walk_val (by rfl) (fun W hS hE => ?_) ?_
        rotate_left; simp only [Act.put, List.setIfInBounds_toArray, List.set_cons_zero, List.set_cons_succ]; rotate_left
        · clear hS hE
          unfold ag.does
          go_simp
          try exact ⟨rfl, rfl⟩
        refine ag.walk_sat (by rfl) (fun W hS hE => ?_) (fun x15 => ?_)
        rotate_left; simp only [Act.put, List.setIfInBounds_toArray, List.set_cons_zero, List.set_cons_succ]; rotate_left
        · obtain ⟨g, e6, hF, hg⟩ : vBox wr 1 [x] x13 W := hE.get (by kernel_rfl)
          clear hE
          subst e6
          refine does_append (.tmp 39) (.tmp 40) 45 (by rfl) w.heap.size TW i0 (.agg #[.int .i64 0, .int .u64 0]) 2 16 Try.underlying45 hi hz0 hz1 hz2 rfl (by decide) (.slice (some ⟨g, 0, none⟩) 1 1) 1 (cells [x]) (by rfl) (owns_of_flds (m := 1) hF rfl (Nat.le_trans HI.out.bel.size hg) (by decide))
            u6 k (cells (L.take k).reverse) (by rfl) (Row.of_owns hS.2.1.2.1) (one_enc _) h65 h66 hS.2.2.2.size (fun v' W' hap => ?_)
          refine ⟨⟨hap.form, by rw [← List.singleton_append, cells_append]; exact hap.own, fun g' hv => ?_⟩, hap.full (fun a c e => by cases e; omega), ?_⟩
          · rcases hap.lies with h | h | h
            · rw [h] at hv; cases hv
            · rw [h] at hv; cases hv; exact .inr hg
            · rw [h] at hv; cases hv; exact .inr hS.2.2.1
          · simp only [ag.News]
            refine ⟨fun _ u hu _ => R8.none (by omega), fun _ u hu _ => R8.none (by omega), fun _ u hu hd => R8.mk (by omega) ?_, fun _ u hu _ => R8.none (by omega), fun _ u hu _ => R8.none (by omega), fun _ u hu _ => R8.none (by omega), trivial⟩
            have hp : Ap (.slice (some ⟨g, 0, none⟩) 1 1) u := by
              rcases hd (13, .slice (some ⟨g, 0, none⟩) 1 1) (List.mem_filter.2 ⟨by simp, by kernel_rfl⟩) (by show (13 : Nat) ≠ 7; decide) with h | h
              · exact h.out (by omega)
              · exact (h.out (by omega)).symm
            intro g' hv hug
            rcases hap.lies with h | h | h
            · rw [h] at hv; cases hv
            · rw [h] at hv; cases hv; exact hp _ rfl hug
            · rw [h] at hv; cases hv; have := (hu.2.1.lt _ hug).2; omega
        iterate 2
          refine ag.walk_cpy (by kernel_rfl) (by rfl) (by rfl) (fun W hS hE => ?_) ?_
          rotate_left; simp only [Act.put, List.setIfInBounds_toArray, List.set_cons_zero, List.set_cons_succ]; rotate_left
          · clear hS hE
            unfold ag.does
            go_simp
            rfl
        simp only [ag.lookX, Nat.reduceAdd, Nat.reduceEqDiff, if_false, if_true]
        refine ag.walk_nil (fun W hS hF hP => ?_)
        obtain ⟨-, -, f15, -, -, f7, -, -⟩ := hF
        have hap : Ap x7 x15 := by
          rcases hP.1 (7, x7) (by simp) with h | h
          · exact (h.out (by omega)).symm
          · exact h.out (by omega)
        clear hP HM
        have hlc : ∀ g, u7.ownBlock = some g → g < wr.heap.size := fun g hg => (HI.out.c.lt g hg).2
        have hac : Ap x7 u7 := by
          intro g hg hug
          rcases f7.2.2 g hg with h | h
          · exact HI.out.ac g h hug
          · have := hlc g hug; omega
        have hbc : Ap x15 u7 := by
          intro g hg hug
          have := (f15.at g hg).1
          have := hlc g hug; omega
        have e1' : L.take k ++ [x] = L.take (k + 1) := by
          rw [List.take_succ_eq_append_getElem hlt]; congr 2
          have := HX.out; rw [List.getElem?_eq_getElem hlt] at this; cases this; rfl
        have e2' : x :: (L.take k).reverse = (L.take (k + 1)).reverse := by rw [← e1']; simp
        have hA := f7.2.1; have hB := f15.2.1
        rw [e1'] at hA; rw [e2', Nat.add_comm 1 k] at hB
        have hC := hS.2.1.2.2
        have hmid2 : Mid w W u7 (2 * k) (cells ((L.take k).flatMap halves)) x7 (k + 1) (cells (L.take (k + 1))) x15 (k + 1) (cells (L.take (k + 1)).reverse) b (off + k) x W.drew := ⟨hS.1, ⟨hC, hA, hB⟩, Nat.le_refl _, hS.2.2.2.drew⟩
        have HM2 := Lib.hid hmid2; have HAC := Lib.hid hac; have HBC := Lib.hid hbc; have HAB := Lib.hid hap
        have HLX := Lib.hid (show (∀ g, x7.ownBlock = some g → g < W.heap.size) ∧ (∀ g, x15.ownBlock = some g → g < W.heap.size) from ⟨fun g hg => (hA.lt g hg).2, fun g hg => (hB.lt g hg).2⟩)
        have h67 : 2 * k + 2 ≤ maxLen := by unfold maxLen; omega
        have h68 : (2 * k + 2) * 16 ≤ 140737488355328 := by omega
        have hl7 : ∀ g, u7.ownBlock = some g → g < W.heap.size := fun g hg => (hC.lt g hg).2
        have HL7 := Lib.hid hl7
        have hxb := HXB.out
        obtain ⟨q, hqd⟩ : ∃ q, x.tdiv 2 = q := ⟨_, rfl⟩
        obtain ⟨hqb, hrb⟩ := tdiv2_bd x hxb
        rw [hqd] at hqb hrb
        have hq : IntKind.i64.wrap (x.tdiv 2) = q := by rw [hqd]; exact IntWalk.i64_in _ ⟨by omega, by omega⟩
        have hq2 : IntKind.i64.wrap (-q) = -q := IntWalk.i64_in _ ⟨by omega, by omega⟩
        have hq3 : IntKind.i64.wrap (x - q) = x - q := IntWalk.i64_in _ ⟨by omega, by omega⟩
        have hq4 : IntKind.i64.wrap (-(x - q)) = -(x - q) := IntWalk.i64_in _ ⟨by omega, by omega⟩
        have hhv : halves x = [-q, -(x - q)] := by unfold halves; rw [hqd]
        have HHV := Lib.hid hhv
        clear hqd hhv
        clear hmid2 hac hbc hap hA hB hC f7 f15 hS e1' e2' HI HLA hlc hl7
        go_wp2
        refine ag.region_ag (Mid w W u7 (2 * k) (cells ((L.take k).flatMap halves)) x7 (k + 1) (cells (L.take (k + 1))) x15 (k + 1) (cells (L.take (k + 1)).reverse) b (off + k) x) (fun _ _ _ _ => True)
          [.val u7, .val (.slice (some ⟨b, off, none⟩) L.length cap), .val (.int .i64 k), .val (.pointer (some ⟨b, off + k, none⟩)), .val (.int .i64 x), .val (.int .i64 q), .val (.int .i64 (-q)), .sat (vOf (-q)) calm,
            .val (.slice (some ⟨b, off, none⟩) L.length cap), .val (.int .i64 k), .val (.pointer (some ⟨b, off + k, none⟩)), .val (.int .i64 x), .val (.slice (some ⟨b, off, none⟩) L.length cap), .val (.int .i64 k), .val (.pointer (some ⟨b, off + k, none⟩)), .val (.int .i64 x), .val (.int .i64 q), .val (.int .i64 (x - q)), .val (.int .i64 (-(x - q))), .sat (vOf (-(x - q))) calm,
            .sat (vBox W 2 [-q, -(x - q)]) calm, .sat (vNew w W u7 (2 * k + 2) ((L.take k).flatMap halves ++ [-q, -(x - q)])) (tNew w u7 (2 * k) (cells ((L.take k).flatMap halves))), .cpy 21]
          (by kernel_rfl) (by kernel_rfl) rfl HM2.out ?hst2 ?hk2 ?hwalk2
        case hwalk2 =>
          iterate 7
            refine ag.walk_val (by rfl) (fun W hS hE => ?_) ?_
            rotate_left; simp only [Act.put, List.setIfInBounds_toArray, List.set_cons_zero, List.set_cons_succ]; rotate_left
            · have hc := hS.1
              clear hS hE
              unfold ag.does
              go_simp
              try exact ⟨rfl, rfl⟩
          refine ag.walk_sat (by rfl) (fun W2 hS hE => ?_) (fun y7 => ?_)
          rotate_left; simp only [Act.put, List.setIfInBounds_toArray, List.set_cons_zero, List.set_cons_succ]; rotate_left
          · clear hE
            unfold ag.does
            go_simp
            refine (of_any (-q) W2 (by omega)).mono ?_
            rintro e W' ⟨rfl, hb'⟩
            exact ⟨_, rfl, rfl, hb', ag.News.none (fun _ _ => trivial) _ _⟩
          iterate 11
            refine ag.walk_val (by rfl) (fun W hS hE => ?_) ?_
            rotate_left; simp only [Act.put, List.setIfInBounds_toArray, List.set_cons_zero, List.set_cons_succ]; rotate_left
            · have hc := hS.1
              clear hS hE
              unfold ag.does
              go_simp
              try exact ⟨rfl, rfl⟩
          refine ag.walk_sat (by rfl) (fun W2 hS hE => ?_) (fun y19 => ?_)
          rotate_left; simp only [Act.put, List.setIfInBounds_toArray, List.set_cons_zero, List.set_cons_succ]; rotate_left
          · clear hE
            unfold ag.does
            go_simp
            refine (of_any (-(x - q)) W2 (by omega)).mono ?_
            rintro e W' ⟨rfl, hb'⟩
            exact ⟨_, rfl, rfl, hb', ag.News.none (fun _ _ => trivial) _ _⟩
          refine ag.walk_sat (by rfl) (fun W2 hS hE => ?_) (fun y20 => ?_)
          rotate_left; simp only [Act.put, List.setIfInBounds_toArray, List.set_cons_zero, List.set_cons_succ]; rotate_left
          · have h19 : y19 = agg (-(x - q)) := hE.get (by kernel_rfl)
            have h7 : y7 = agg (-q) := hE.tail.get (by kernel_rfl)
            clear hE
            subst h19 h7
            unfold ag.does
            go_simp
            exact ⟨⟨_, rfl, Flds.new W2 TW (cells [-q, -(x - q)]), hS.2.2.1⟩, (Below.refl _ _).alloc (Nat.le_refl _) _, ag.News.none (fun _ _ => trivial) _ _⟩
          refine ag.walk_sat (by rfl) (fun W2 hS hE => ?_) (fun y21 => ?_)
          rotate_left; simp only [Act.put, List.setIfInBounds_toArray, List.set_cons_zero, List.set_cons_succ]; rotate_left
          · obtain ⟨g, e6, hF, hg⟩ : vBox W 2 [-q, -(x - q)] y20 W2 := hE.get (by kernel_rfl)
            clear hE
            subst e6
            refine does_append (.tmp 42) (.tmp 62) 45 (by rfl) w.heap.size TW i0 (.agg #[.int .i64 0, .int .u64 0]) 2 16 Try.underlying45 hi hz0 hz1 hz2 rfl (by decide) u7 (2 * k) (cells ((L.take k).flatMap halves)) (by rfl) hS.2.1.1
              (.slice (some ⟨g, 0, none⟩) 2 2) 2 (cells [-q, -(x - q)]) (by rfl) (Row.of_flds hF rfl 2) (one_enc _) h67 h68 hS.2.2.2.size (fun v' W' hap => ?_)
            refine ⟨⟨hap.form, by rw [cells_append]; exact hap.own, fun g hv => ?_⟩, ⟨hap.old, hap.grown⟩, ag.News.none (fun _ _ => trivial) _ _⟩
            rcases hap.lies with h | h | h
            · rw [h] at hv; cases hv
            · exact .inl (h ▸ hv)
            · rw [h] at hv; cases hv; exact .inr hS.2.2.1
          refine ag.walk_cpy (by kernel_rfl) (by rfl) (by rfl) (fun W hS hE => ?_) ?_
          rotate_left; simp only [Act.put, List.setIfInBounds_toArray, List.set_cons_zero, List.set_cons_succ]; rotate_left
          · clear hS hE
            unfold ag.does
            go_simp
            rfl
          simp only [ag.lookX, Nat.reduceAdd, Nat.reduceEqDiff, if_false, if_true]
          refine ag.walk_nil (fun W2 hS hF hP => ?_)
          obtain ⟨-, f21, -⟩ := hF
          clear hP HM2
          have e3 : (L.take k).flatMap halves ++ [-q, -(x - q)] = (L.take (k + 1)).flatMap halves := by
            rw [List.take_succ_eq_append_getElem hlt, List.flatMap_append, ← HHV.out]
            have := HX.out; rw [List.getElem?_eq_getElem hlt] at this; cases this; simp
          have hC := f21.2.1
          rw [e3, show 2 * k + 2 = 2 * (k + 1) by omega] at hC
          have hI' : Inv w L (k + 1) x7 x15 y21 W2 := {
            a := hS.2.1.2.1
            b := hS.2.1.2.2
            c := hC
            ab := HAB.out
            ac := fun g hg hug => by
              rcases f21.2.2 g hug with h | h
              · exact HAC.out g hg h
              · have := HLX.out.1 g hg; omega
            bc := fun g hg hug => by
              rcases f21.2.2 g hug with h | h
              · exact HBC.out g hg h
              · have := HLX.out.2 g hg; omega
            bel := hS.2.2.2 }
          have HI' := Lib.hid hI'
          clear hI' hC e3 f21 hS
          go_wp2
          go_roundw
          case rel => exact ⟨k + 1, by omega, by go_num, HI'.out⟩
          case measure => simp [intOf]; omega
        case hst2 =>
          simp only [ag.Stab, ag.Row2, ag.Ok2, and_true]
          repeat' apply And.intro
          all_goals first
            | exact fun h => absurd rfl h
            | exact fun _ _ _ _ _ _ hv _ _ => hv
            | exact fun _ f v W W' hS hv _ ht => hv.later ht
            | exact fun _ f v W W' hS hv _ ht => hv.grown ht.2 HL7.out
            | exact fun _ f v W W' hS hv _ ht => hv.grown rfl ht.2 HL7.out
            | trivial
        case hk2 =>
          simp only [ag.Keeps, and_true]
          repeat' apply And.intro
          all_goals first
            | exact fun f W W' hS _ ht => hS.later ht
            | exact fun f W W' hS _ ht => hS.grown ht HBL.out HAC.out.symm HBC.out.symm
    · obtain rfl : k = L.length := by omega
      obtain ⟨a5, c5, rfl⟩ := owns_shape hI.a
      obtain ⟨a6, c6, rfl⟩ := owns_shape hI.b
      have hA := Row.of_owns hI.a
      have hBr := Row.of_owns hI.b
      rw [List.take_length] at hA hBr
      have hP5 := plus_any a5 c5 L wr hA (by omega)
      have HI := Lib.hid hI; have HP5 := Lib.hid hP5; have HBR := Lib.hid hBr
      clear hI hA hP5 hBr
      by_cases h16 : s.size = 16
      · have d1 : decide ((s.size : Int) < 16) = false := by simp; omega
        have d2 : decide ((16 : Int) < (s.size : Int)) = false := by simp; omega
        go_wp2_with (first | (go_at_call 31; with_reducible refine HP5.out.mono ?_; rintro e w2 ⟨rfl, hb2⟩) | (go_at_call 29; refine (get_yes s h16 _).mono ?_; rintro e w3 ⟨rfl, hb3⟩))
        have hW : Fin w (w3.alloc (.cells #[.int .i64 (wrap64 (hiK s)), .int .u64 (loK s)] 49)) (.slice a6 L.length c6) L.length (cells L.reverse) u7 (2 * L.length) (cells (L.flatMap halves)) w2.heap.size w3.heap.size L.sum (wrap64 (hiK s)) (loK s) (w3.alloc (.cells #[.int .i64 (wrap64 (hiK s)), .int .u64 (loK s)] 49)).drew := by
          have hI := HI.out
          have b1 : Below wr.heap.size wr (w3.alloc (.cells #[.int .i64 (wrap64 (hiK s)), .int .u64 (loK s)] 49)) := ((hb2.alloc hb2.size _).trans (hb3.mono (by simp; exact Nat.le_succ_of_le hb2.size))).alloc (Nat.le_trans (Nat.le_succ_of_le hb2.size) (by have := hb3.size; simpa using this)) _
          have b2 : Below w3.heap.size w3 (w3.alloc (.cells #[.int .i64 (wrap64 (hiK s)), .int .u64 (loK s)] 49)) := (Below.refl _ _).alloc (Nat.le_refl _) _
          have hb := hI.b; have hc := hI.c
          rw [List.take_length] at hb hc
          exact ⟨⟨cell_later b2.drew (cell_later hb3 (cells_new w2 [_, _] _ 0)), cell_later b2.drew (cell_later hb3 (cells_new w2 [_, _] _ 1)), cells_new w3 [_, _] _ 0, cells_new w3 [_, _] _ 1⟩, ⟨owns_below hb b1.drew, owns_below hc b1.drew⟩, Nat.le_refl _, (hI.bel.trans (b1.mono hI.bel.size)).drew⟩
        obtain ⟨Wz, hWz⟩ : ∃ Wz, w3.alloc (.cells #[.int .i64 (wrap64 (hiK s)), .int .u64 (loK s)] 49) = Wz := ⟨_, rfl⟩
        have hsz : w3.heap.size < Wz.heap.size := by rw [← hWz]; simp
        have hsz2 : w2.heap.size < Wz.heap.size := by have := hb3.size; simp at this; omega
        have hlt6 : ∀ g, (Value.slice a6 L.length c6).ownBlock = some g → g < Wz.heap.size := fun g hg => by
          have h1 := (HI.out.b.lt g hg).2; have h2 := hb2.size; omega
        have hlt7 : ∀ g, u7.ownBlock = some g → g < Wz.heap.size := fun g hg => by
          have h1 := (HI.out.c.lt g hg).2; have h2 := hb2.size; omega
        have hszw : w.heap.size ≤ Wz.heap.size := by have h1 := HI.out.bel.size; have h2 := hb2.size; omega
        rw [hWz] at hW ⊢
        have hkey := key_raw (wrap64 (hiK s)) (loK s) (loK_bd s h16)
        rw [key_back s h16] at hkey
        have hH0 : hiW 0 = 0 := by simp [hiW, wrap64]
        have hL0 : loW 0 = 0 := by simp [loW]
        have HW := Lib.hid hW; have HS1 := Lib.hid hsz; have HS2 := Lib.hid hsz2; have H6 := Lib.hid hlt6; have H7 := Lib.hid hlt7; have HSW := Lib.hid hszw; have HKEY := Lib.hid hkey
        have h71 : 0 + 2 * L.length ≤ maxLen := by unfold maxLen; omega
        have h72 : (0 + 2 * L.length) * 16 ≤ 140737488355328 := by omega
        have h73 : 2 * L.length + 1 ≤ maxLen := by unfold maxLen; omega
        have h74 : (2 * L.length + 1) * 16 ≤ 140737488355328 := by omega
        clear hW hsz hsz2 hlt6 hlt7 hszw hkey hWz hb2 hb3 HI HP5 HBR
        refine ag.region_ag (Fin w Wz (.slice a6 L.length c6) L.length (cells L.reverse) u7 (2 * L.length) (cells (L.flatMap halves)) w2.heap.size w3.heap.size L.sum (wrap64 (hiK s)) (loK s)) R17
          [.val (agg L.sum), .val (.slice a6 L.length c6), .sat (vOf L.sum) calm, .val (.bool true), .val (.bool true), .sat (vBox Wz 0 []) calm, .val u7, .sat (vNew w Wz (.slice none 0 0) (0 + 2 * L.length) (L.flatMap halves)) calm, .val (agg L.sum), .sat (vBox Wz 1 [L.sum]) calm,
            .sat (vNew w Wz (.slice none 0 0) (2 * L.length + 1) (L.flatMap halves ++ [L.sum])) (tEnd w (2 * L.length) (cells (L.flatMap halves))), .sat (vOf 0) calm, .val (.agg #[.int .i64 0, .int .u64 0]), .val (.bool true), .val (.bool true), .val (.bool true), .val (.int .i64 0), .val (.int .i64 0), .val (.bool true), .val (.bool true), .val (.bool true),
            .val (.int .i64 0), .val (.bool true), .val (.bool true), .val (.agg #[.int .i64 (wrap64 (hiK s)), .int .u64 (loK s)]), .sat (vStr s) calm, .val (.string s), .val (.bool true), .val (.bool true), .val (.bool true), .val undef, .val undef, .val undef, .val undef, .val undef, .val undef, .val undef, .val (.bool true), .val (.bool true), .val (.bool true)]
          (by kernel_rfl) (by kernel_rfl) rfl HW.out ?hst3 ?hk3 ?hwalk3
        case hst3 =>
          simp only [ag.Stab, ag.Row2, ag.Ok2, and_true]
          repeat' apply And.intro
          all_goals first
            | exact fun h => absurd rfl h
            | exact fun _ _ _ _ _ _ hv _ _ => hv
            | exact fun _ f v W W' hS hv _ ht => hv.later ht
            | exact fun _ f v W W' hS hv _ ht => tEnd_nil hv ht
            | exact fun _ f v W W' hS hv hr ht => tEnd_box hv ht (hr 7 (by kernel_rfl) _ _ rfl).1
            | exact fun _ f v W W' hS hv hr ht => tEnd_same hv ht ((hr 7 (by kernel_rfl) _ _ rfl).2.1 rfl)
            | trivial
        case hk3 =>
          simp only [ag.Keeps, and_true]
          repeat' apply And.intro
          all_goals first
            | exact fun f W W' hS _ ht => hS.later ht
            | exact fun f W W' hS hd ht => hS.grown ht.2.1 (fun g hg => ((hd 7 (by kernel_rfl) _ _ rfl : vNew w Wz (.slice none 0 0) (0 + 2 * L.length) (L.flatMap halves) (f 7) W).at g hg).1) HS2.out HS1.out H6.out H7.out HSW.out
        case hwalk3 =>
          iterate 2
            refine ag.walk_val (by rfl) (fun W hS hE => ?_) ?_
            rotate_left; simp only [Act.put, List.setIfInBounds_toArray, List.set_cons_zero, List.set_cons_succ]; rotate_left
            · obtain ⟨hc0, hc1, hc2, hc3⟩ := hS.1
              clear hS hE
              unfold ag.does
              go_simp
              try exact ⟨rfl, rfl⟩
          refine ag.walk_sat (by rfl) (fun W hS hE => ?_) (fun x2 => ?_)
          rotate_left; simp only [Act.put, List.setIfInBounds_toArray, List.set_cons_zero, List.set_cons_succ]; rotate_left
          · clear hE
            have h6 := Row.of_owns hS.2.1.1
            have hp := plus_any a6 c6 L.reverse W (by rw [List.length_reverse]; exact h6) (by rw [List.length_reverse]; omega)
            rw [List.length_reverse, List.sum_reverse] at hp
            clear h6
            have HP := Lib.hid hp
            clear hp
            unfold ag.does
            go_simp
            refine HP.out.mono ?_
            rintro e W' ⟨rfl, hb'⟩
            exact ⟨_, rfl, rfl, hb', ag.News.none (fun k u => R17.none (by omega)) _ _⟩
          refine ag.walk_val (by rfl) (fun W hS hE => ?_) ?_
          rotate_left; simp only [Act.put, List.setIfInBounds_toArray, List.set_cons_zero, List.set_cons_succ]; rotate_left
          · have h2 : x2 = agg L.sum := hE.get (by kernel_rfl)
            clear hE hS
            subst h2
            unfold ag.does
            go_simp
            try exact ⟨rfl, rfl⟩
          iterate 1
            refine ag.walk_val (by rfl) (fun W hS hE => ?_) ?_
            rotate_left; simp only [Act.put, List.setIfInBounds_toArray, List.set_cons_zero, List.set_cons_succ]; rotate_left
            · obtain ⟨hc0, hc1, hc2, hc3⟩ := hS.1
              clear hS hE
              unfold ag.does
              go_simp
              try exact ⟨rfl, rfl⟩
          refine ag.walk_sat (by rfl) (fun W hS hE => ?_) (fun x5 => ?_)
          rotate_left; simp only [Act.put, List.setIfInBounds_toArray, List.set_cons_zero, List.set_cons_succ]; rotate_left
          · clear hE
            unfold ag.does
            go_simp
            refine ⟨⟨_, rfl, Flds.new W TW [], hS.2.2.1⟩, (Below.refl _ _).alloc (Nat.le_refl _) _, ?_⟩
            simp only [ag.News]
            refine ⟨fun _ u hu _ => R17.none (by omega), fun _ u hu _ => R17.none (by omega), fun _ u hu _ => R17.none (by omega), fun _ u hu _ => R17.mk (by omega) (apBox hu.at), fun _ u hu _ => R17.none (by omega), fun _ u hu _ => R17.none (by omega), fun _ u hu _ => R17.none (by omega), trivial⟩
          iterate 1
            refine ag.walk_val (by rfl) (fun W hS hE => ?_) ?_
            rotate_left; simp only [Act.put, List.setIfInBounds_toArray, List.set_cons_zero, List.set_cons_succ]; rotate_left
            · obtain ⟨hc0, hc1, hc2, hc3⟩ := hS.1
              clear hS hE
              unfold ag.does
              go_simp
              try exact ⟨rfl, rfl⟩
          refine ag.walk_sat (by rfl) (fun W hS hE => ?_) (fun x7 => ?_)
          rotate_left; simp only [Act.put, List.setIfInBounds_toArray, List.set_cons_zero, List.set_cons_succ]; rotate_left
          · obtain ⟨g, e6, hF, hg⟩ : vBox Wz 0 [] x5 W := hE.get (by kernel_rfl)
            clear hE
            subst e6
            refine does_append (.tmp 82) (.tmp 83) 45 (by rfl) w.heap.size TW i0 (.agg #[.int .i64 0, .int .u64 0]) 2 16 Try.underlying45 hi hz0 hz1 hz2 rfl (by decide) (.slice (some ⟨g, 0, none⟩) 0 0) 0 [] (by rfl) (owns_of_flds (m := 0) hF rfl (Nat.le_trans HSW.out hg) (by decide))
              u7 (2 * L.length) (cells (L.flatMap halves)) (by rfl) (Row.of_owns hS.2.1.2) (one_enc _) h71 h72 hS.2.2.2.size (fun v' W' hap => ?_)
            refine ⟨⟨hap.form, hap.own, fun g' hv => ?_⟩, hap.full (fun a c e => by cases e; exact Nat.le_refl _), ?_⟩
            · rcases hap.lies with h | h | h
              · rw [h] at hv; cases hv
              · rw [h] at hv; cases hv; exact .inr hg
              · rw [h] at hv; cases hv; exact .inr hS.2.2.1
            · simp only [ag.News]
              refine ⟨fun _ u hu _ => R17.none (by omega), fun _ u hu _ => R17.none (by omega), fun _ u hu _ => R17.none (by omega), fun _ u hu hd => R17.mk (by omega) ?_, fun _ u hu _ => R17.none (by omega), fun _ u hu _ => R17.none (by omega), fun _ u hu _ => R17.none (by omega), trivial⟩
              have hp : Ap (.slice (some ⟨g, 0, none⟩) 0 0) u := by
                rcases hd (5, .slice (some ⟨g, 0, none⟩) 0 0) (List.mem_filter.2 ⟨by simp, by kernel_rfl⟩) (by show (5 : Nat) ≠ 9; decide) with h | h
                · exact h.out (by omega)
                · exact (h.out (by omega)).symm
              intro g' hv hug
              rcases hap.lies with h | h | h
              · rw [h] at hv; cases hv
              · rw [h] at hv; cases hv; exact hp _ rfl hug
              · rw [h] at hv; cases hv; have := (hu.at _ hug).2; omega
          iterate 1
            refine ag.walk_val (by rfl) (fun W hS hE => ?_) ?_
            rotate_left; simp only [Act.put, List.setIfInBounds_toArray, List.set_cons_zero, List.set_cons_succ]; rotate_left
            · obtain ⟨hc0, hc1, hc2, hc3⟩ := hS.1
              clear hS hE
              unfold ag.does
              go_simp
              try exact ⟨rfl, rfl⟩
          refine ag.walk_sat (by rfl) (fun W hS hE => ?_) (fun x9 => ?_)
          rotate_left; simp only [Act.put, List.setIfInBounds_toArray, List.set_cons_zero, List.set_cons_succ]; rotate_left
          · clear hE
            unfold ag.does
            go_simp
            refine ⟨⟨_, rfl, Flds.new W TW (cells [L.sum]), hS.2.2.1⟩, (Below.refl _ _).alloc (Nat.le_refl _) _, ?_⟩
            simp only [ag.News]
            refine ⟨fun _ u hu _ => R17.none (by omega), fun _ u hu _ => R17.mk (by omega) (apBox hu.at), fun _ u hu _ => R17.mk (by omega) (apBox hu.at), fun _ u hu _ => R17.none (by omega), fun _ u hu _ => R17.none (by omega), fun _ u hu _ => R17.none (by omega), fun _ u hu _ => R17.none (by omega), trivial⟩
          refine ag.walk_sat (by rfl) (fun W hS hE => ?_) (fun x10 => ?_)
          rotate_left; simp only [Act.put, List.setIfInBounds_toArray, List.set_cons_zero, List.set_cons_succ]; rotate_left
          · obtain ⟨g, e6, hF, hg⟩ : vBox Wz 1 [L.sum] x9 W := hE.get (by kernel_rfl)
            have h7 : vNew w Wz (.slice none 0 0) (0 + 2 * L.length) (L.flatMap halves) x7 W := hE.tail.get (by kernel_rfl)
            clear hE
            subst e6
            have h7o := h7.2.1
            rw [Nat.zero_add] at h7o
            refine does_append (.tmp 84) (.tmp 86) 45 (by rfl) w.heap.size TW i0 (.agg #[.int .i64 0, .int .u64 0]) 2 16 Try.underlying45 hi hz0 hz1 hz2 rfl (by decide) x7 (2 * L.length) (cells (L.flatMap halves)) (by rfl) h7o
              (.slice (some ⟨g, 0, none⟩) 1 1) 1 (cells [L.sum]) (by rfl) (Row.of_flds hF rfl 1) (one_enc _) h73 h74 hS.2.2.2.size (fun v' W' hap => ?_)
            refine ⟨⟨hap.form, by rw [cells_append]; exact hap.own, fun g' hv => ?_⟩, (by unfold tEnd; rw [ag.lookX_filter (by kernel_rfl)]; exact ⟨hap.old, hap.grown, hap.empty⟩), ag.News.none (fun k u => R17.none (by omega)) _ _⟩
            rcases hap.lies with h | h | h
            · rw [h] at hv; cases hv
            · rw [h] at hv; exact .inr (h7.at g' hv).1
            · rw [h] at hv; cases hv; exact .inr hS.2.2.1
          refine ag.walk_sat (by rfl) (fun W hS hE => ?_) (fun x11 => ?_)
          rotate_left; simp only [Act.put, List.setIfInBounds_toArray, List.set_cons_zero, List.set_cons_succ]; rotate_left
          · have h10 : vNew w Wz (.slice none 0 0) (2 * L.length + 1) (L.flatMap halves ++ [L.sum]) x10 W := hE.get (by kernel_rfl)
            clear hE
            obtain ⟨⟨a10, c10, e10⟩, h10o, -⟩ := h10
            subst e10
            have hlen : (L.flatMap halves ++ [L.sum]).length = 2 * L.length + 1 := by rw [List.length_append, halves_len]; rfl
            have hp := plus_any a10 c10 (L.flatMap halves ++ [L.sum]) W (by rw [hlen]; exact Row.of_owns h10o) (by rw [hlen]; omega)
            rw [hlen, List.sum_append, halves_sum, show -L.sum + [L.sum].sum = 0 by simp; omega] at hp
            have HP := Lib.hid hp
            clear hp h10o hlen
            unfold ag.does
            go_simp
            refine HP.out.mono ?_
            rintro e W' ⟨rfl, hb'⟩
            exact ⟨_, rfl, rfl, hb', ag.News.none (fun k u => R17.none (by omega)) _ _⟩
          iterate 1
            refine ag.walk_val (by rfl) (fun W hS hE => ?_) ?_
            rotate_left; simp only [Act.put, List.setIfInBounds_toArray, List.set_cons_zero, List.set_cons_succ]; rotate_left
            · obtain ⟨hc0, hc1, hc2, hc3⟩ := hS.1
              clear hS hE
              unfold ag.does
              go_simp
              try exact ⟨rfl, rfl⟩
          refine ag.walk_val (by rfl) (fun W hS hE => ?_) ?_
          rotate_left; simp only [Act.put, List.setIfInBounds_toArray, List.set_cons_zero, List.set_cons_succ]; rotate_left
          · have h2 : x11 = agg 0 := hE.get (by kernel_rfl)
            clear hE hS
            subst h2
            unfold ag.does
            go_simp
            try exact ⟨rfl, rfl⟩
          iterate 11
            refine ag.walk_val (by rfl) (fun W hS hE => ?_) ?_
            rotate_left; simp only [Act.put, List.setIfInBounds_toArray, List.set_cons_zero, List.set_cons_succ]; rotate_left
            · obtain ⟨hc0, hc1, hc2, hc3⟩ := hS.1
              clear hS hE
              unfold ag.does
              go_simp
              try exact ⟨rfl, rfl⟩
          refine ag.walk_sat (by rfl) (fun W hS hE => ?_) (fun x25 => ?_)
          rotate_left; simp only [Act.put, List.setIfInBounds_toArray, List.set_cons_zero, List.set_cons_succ]; rotate_left
          · clear hE
            unfold ag.does
            go_simp
            refine (HKEY.out W).mono ?_
            rintro e W' ⟨rfl, hb'⟩
            exact ⟨_, rfl, rfl, hb', ag.News.none (fun k u => R17.none (by omega)) _ _⟩
          iterate 1
            refine ag.walk_val (by rfl) (fun W hS hE => ?_) ?_
            rotate_left; simp only [Act.put, List.setIfInBounds_toArray, List.set_cons_zero, List.set_cons_succ]; rotate_left
            · obtain ⟨hc0, hc1, hc2, hc3⟩ := hS.1
              clear hS hE
              unfold ag.does
              go_simp
              try exact ⟨rfl, rfl⟩
          refine ag.walk_val (by rfl) (fun W hS hE => ?_) ?_
          rotate_left; simp only [Act.put, List.setIfInBounds_toArray, List.set_cons_zero, List.set_cons_succ]; rotate_left
          · have h2 : x25 = .string s := hE.get (by kernel_rfl)
            clear hE hS
            subst h2
            unfold ag.does
            go_simp
            try exact ⟨rfl, rfl⟩
          iterate 2
            refine ag.walk_val (by rfl) (fun W hS hE => ?_) ?_
            rotate_left; simp only [Act.put, List.setIfInBounds_toArray, List.set_cons_zero, List.set_cons_succ]; rotate_left
            · obtain ⟨hc0, hc1, hc2, hc3⟩ := hS.1
              clear hS hE
              unfold ag.does
              go_simp
              try exact ⟨rfl, rfl⟩
          iterate 7
            refine ag.walk_skip (by rfl) ?_
            simp only [Act.put, List.setIfInBounds_toArray, List.set_cons_zero, List.set_cons_succ]
          iterate 3
            refine ag.walk_val (by rfl) (fun W hS hE => ?_) ?_
            rotate_left; simp only [Act.put, List.setIfInBounds_toArray, List.set_cons_zero, List.set_cons_succ]; rotate_left
            · obtain ⟨hc0, hc1, hc2, hc3⟩ := hS.1
              clear hS hE
              unfold ag.does
              go_simp
              try exact ⟨rfl, rfl⟩
          refine ag.walk_nil (fun W hS hF hP => ?_)
          have HB := Lib.hid hS.2.2.2
          clear hS hF hP
          go_wp2
          go_ret
          exact ⟨rfl, HB.out⟩
      · obtain ⟨ev, hev, d1, d2, d3, d4⟩ : ∃ ev : Int, (∀ W, Calls Try.prog 29 #[.string s] W fun e w' => e = .returned (.tuple #[.agg #[.int .i64 0, .int .u64 0], .int .i64 ev]) ∧ Below W.heap.size W w') ∧ ((ev = 2 ∧ decide ((s.size : Int) < 16) = true) ∨ (ev = 3 ∧ decide ((s.size : Int) < 16) = false)) ∧ decide ((16 : Int) < (s.size : Int)) = decide (ev = 3) ∧ (ev == 0) = false ∧ (ev != 0) = true := by
          rcases Nat.lt_or_gt_of_ne h16 with h | h
          · exact ⟨2, fun W => get_short s h W, .inl ⟨rfl, by simp; omega⟩, by simp; omega, rfl, rfl⟩
          · exact ⟨3, fun W => get_long s h hs W, .inr ⟨rfl, by simp; omega⟩, by simp; omega, rfl, rfl⟩
        have HG := Lib.hid hev
        clear hev
        rcases d1 with ⟨rfl, d1⟩ | ⟨rfl, d1⟩
        · rw [show decide ((2 : Int) = 3) = false from rfl] at d2
          go_wp2_with (first | (go_at_call 31; with_reducible refine HP5.out.mono ?_; rintro e w2 ⟨rfl, hb2⟩) | (go_at_call 29; refine (HG.out _).mono ?_; rintro e w3 ⟨rfl, hb3⟩))
          have hW : Fin w (w3.alloc (.cells #[.int .i64 0, .int .u64 0] 49)) (.slice a6 L.length c6) L.length (cells L.reverse) u7 (2 * L.length) (cells (L.flatMap halves)) w2.heap.size w3.heap.size L.sum 0 0 (w3.alloc (.cells #[.int .i64 0, .int .u64 0] 49)).drew := by
            have hI := HI.out
            have b1 : Below wr.heap.size wr (w3.alloc (.cells #[.int .i64 0, .int .u64 0] 49)) := ((hb2.alloc hb2.size _).trans (hb3.mono (by simp; exact Nat.le_succ_of_le hb2.size))).alloc (Nat.le_trans (Nat.le_succ_of_le hb2.size) (by have := hb3.size; simpa using this)) _
            have b2 : Below w3.heap.size w3 (w3.alloc (.cells #[.int .i64 0, .int .u64 0] 49)) := (Below.refl _ _).alloc (Nat.le_refl _) _
            have hb := hI.b; have hc := hI.c
            rw [List.take_length] at hb hc
            exact ⟨⟨cell_later b2.drew (cell_later hb3 (cells_new w2 [_, _] _ 0)), cell_later b2.drew (cell_later hb3 (cells_new w2 [_, _] _ 1)), cells_new w3 [_, _] _ 0, cells_new w3 [_, _] _ 1⟩, ⟨owns_below hb b1.drew, owns_below hc b1.drew⟩, Nat.le_refl _, (hI.bel.trans (b1.mono hI.bel.size)).drew⟩
          obtain ⟨Wz, hWz⟩ : ∃ Wz, w3.alloc (.cells #[.int .i64 0, .int .u64 0] 49) = Wz := ⟨_, rfl⟩
          have hsz : w3.heap.size < Wz.heap.size := by rw [← hWz]; simp
          have hsz2 : w2.heap.size < Wz.heap.size := by have := hb3.size; simp at this; omega
          have hlt6 : ∀ g, (Value.slice a6 L.length c6).ownBlock = some g → g < Wz.heap.size := fun g hg => by
            have h1 := (HI.out.b.lt g hg).2; have h2 := hb2.size; omega
          have hlt7 : ∀ g, u7.ownBlock = some g → g < Wz.heap.size := fun g hg => by
            have h1 := (HI.out.c.lt g hg).2; have h2 := hb2.size; omega
          have hszw : w.heap.size ≤ Wz.heap.size := by have h1 := HI.out.bel.size; have h2 := hb2.size; omega
          rw [hWz] at hW ⊢
          have hH0 : hiW 0 = 0 := by simp [hiW, wrap64]
          have hL0 : loW 0 = 0 := by simp [loW]
          have HW := Lib.hid hW; have HS1 := Lib.hid hsz; have HS2 := Lib.hid hsz2; have H6 := Lib.hid hlt6; have H7 := Lib.hid hlt7; have HSW := Lib.hid hszw
          have h71 : 0 + 2 * L.length ≤ maxLen := by unfold maxLen; omega
          have h72 : (0 + 2 * L.length) * 16 ≤ 140737488355328 := by omega
          have h73 : 2 * L.length + 1 ≤ maxLen := by unfold maxLen; omega
          have h74 : (2 * L.length + 1) * 16 ≤ 140737488355328 := by omega
          clear hW hsz hsz2 hlt6 hlt7 hszw hWz hb2 hb3 HI HP5 HBR
          refine ag.region_ag (Fin w Wz (.slice a6 L.length c6) L.length (cells L.reverse) u7 (2 * L.length) (cells (L.flatMap halves)) w2.heap.size w3.heap.size L.sum 0 0) R17
            [.val (agg L.sum), .val (.slice a6 L.length c6), .sat (vOf L.sum) calm, .val (.bool true), .val (.bool true), .sat (vBox Wz 0 []) calm, .val u7, .sat (vNew w Wz (.slice none 0 0) (0 + 2 * L.length) (L.flatMap halves)) calm, .val (agg L.sum), .sat (vBox Wz 1 [L.sum]) calm,
              .sat (vNew w Wz (.slice none 0 0) (2 * L.length + 1) (L.flatMap halves ++ [L.sum])) (tEnd w (2 * L.length) (cells (L.flatMap halves))), .sat (vOf 0) calm, .val (.agg #[.int .i64 0, .int .u64 0]), .val (.bool true), .val (.bool true), .val (.bool true), .val (.int .i64 2), .val (.int .i64 2), .val (.bool true), .val (.bool true), .val (.bool true),
              .val (.int .i64 2), .val (.bool false), .val (.bool false), .val undef, .val undef, .val undef, .val undef, .val (.bool false), .val (.bool false), .val (.int .i64 2), .val (.bool true), .val (.bool true), .val (.agg #[.int .i64 0, .int .u64 0]), .val (.agg #[.int .i64 0, .int .u64 0]), .val (.bool true), .val (.bool true), .val (.bool true), .val (.bool true), .val (.bool true)]
            (by kernel_rfl) (by kernel_rfl) rfl HW.out ?hst3n2 ?hk3n2 ?hwalk3n2
          case hst3n2 =>
            simp only [ag.Stab, ag.Row2, ag.Ok2, and_true]
            repeat' apply And.intro
            all_goals first
              | exact fun h => absurd rfl h
              | exact fun _ _ _ _ _ _ hv _ _ => hv
              | exact fun _ f v W W' hS hv _ ht => hv.later ht
              | exact fun _ f v W W' hS hv _ ht => tEnd_nil hv ht
              | exact fun _ f v W W' hS hv hr ht => tEnd_box hv ht (hr 7 (by kernel_rfl) _ _ rfl).1
              | exact fun _ f v W W' hS hv hr ht => tEnd_same hv ht ((hr 7 (by kernel_rfl) _ _ rfl).2.1 rfl)
              | trivial
          case hk3n2 =>
            simp only [ag.Keeps, and_true]
            repeat' apply And.intro
            all_goals first
              | exact fun f W W' hS _ ht => hS.later ht
              | exact fun f W W' hS hd ht => hS.grown ht.2.1 (fun g hg => ((hd 7 (by kernel_rfl) _ _ rfl : vNew w Wz (.slice none 0 0) (0 + 2 * L.length) (L.flatMap halves) (f 7) W).at g hg).1) HS2.out HS1.out H6.out H7.out HSW.out
          case hwalk3n2 =>
            iterate 2
              refine ag.walk_val (by rfl) (fun W hS hE => ?_) ?_
              rotate_left; simp only [Act.put, List.setIfInBounds_toArray, List.set_cons_zero, List.set_cons_succ]; rotate_left
              · obtain ⟨hc0, hc1, hc2, hc3⟩ := hS.1
                clear hS hE
                unfold ag.does
                go_simp
                try exact ⟨rfl, rfl⟩
            refine ag.walk_sat (by rfl) (fun W hS hE => ?_) (fun x2 => ?_)
            rotate_left; simp only [Act.put, List.setIfInBounds_toArray, List.set_cons_zero, List.set_cons_succ]; rotate_left
            · clear hE
              have h6 := Row.of_owns hS.2.1.1
              have hp := plus_any a6 c6 L.reverse W (by rw [List.length_reverse]; exact h6) (by rw [List.length_reverse]; omega)
              rw [List.length_reverse, List.sum_reverse] at hp
              clear h6
              have HP := Lib.hid hp
              clear hp
              unfold ag.does
              go_simp
              refine HP.out.mono ?_
              rintro e W' ⟨rfl, hb'⟩
              exact ⟨_, rfl, rfl, hb', ag.News.none (fun k u => R17.none (by omega)) _ _⟩
            refine ag.walk_val (by rfl) (fun W hS hE => ?_) ?_
            rotate_left; simp only [Act.put, List.setIfInBounds_toArray, List.set_cons_zero, List.set_cons_succ]; rotate_left
            · have h2 : x2 = agg L.sum := hE.get (by kernel_rfl)
              clear hE hS
              subst h2
              unfold ag.does
              go_simp
              try exact ⟨rfl, rfl⟩
            iterate 1
              refine ag.walk_val (by rfl) (fun W hS hE => ?_) ?_
              rotate_left; simp only [Act.put, List.setIfInBounds_toArray, List.set_cons_zero, List.set_cons_succ]; rotate_left
              · obtain ⟨hc0, hc1, hc2, hc3⟩ := hS.1
                clear hS hE
                unfold ag.does
                go_simp
                try exact ⟨rfl, rfl⟩
            refine ag.walk_sat (by rfl) (fun W hS hE => ?_) (fun x5 => ?_)
            rotate_left; simp only [Act.put, List.setIfInBounds_toArray, List.set_cons_zero, List.set_cons_succ]; rotate_left
            · clear hE
              unfold ag.does
              go_simp
              refine ⟨⟨_, rfl, Flds.new W TW [], hS.2.2.1⟩, (Below.refl _ _).alloc (Nat.le_refl _) _, ?_⟩
              simp only [ag.News]
              refine ⟨fun _ u hu _ => R17.none (by omega), fun _ u hu _ => R17.none (by omega), fun _ u hu _ => R17.none (by omega), fun _ u hu _ => R17.mk (by omega) (apBox hu.at), fun _ u hu _ => R17.none (by omega), fun _ u hu _ => R17.none (by omega), trivial⟩
            iterate 1
              refine ag.walk_val (by rfl) (fun W hS hE => ?_) ?_
              rotate_left; simp only [Act.put, List.setIfInBounds_toArray, List.set_cons_zero, List.set_cons_succ]; rotate_left
              · obtain ⟨hc0, hc1, hc2, hc3⟩ := hS.1
                clear hS hE
                unfold ag.does
                go_simp
                try exact ⟨rfl, rfl⟩
            refine ag.walk_sat (by rfl) (fun W hS hE => ?_) (fun x7 => ?_)
            rotate_left; simp only [Act.put, List.setIfInBounds_toArray, List.set_cons_zero, List.set_cons_succ]; rotate_left
            · obtain ⟨g, e6, hF, hg⟩ : vBox Wz 0 [] x5 W := hE.get (by kernel_rfl)
              clear hE
              subst e6
              refine does_append (.tmp 82) (.tmp 83) 45 (by rfl) w.heap.size TW i0 (.agg #[.int .i64 0, .int .u64 0]) 2 16 Try.underlying45 hi hz0 hz1 hz2 rfl (by decide) (.slice (some ⟨g, 0, none⟩) 0 0) 0 [] (by rfl) (owns_of_flds (m := 0) hF rfl (Nat.le_trans HSW.out hg) (by decide))
                u7 (2 * L.length) (cells (L.flatMap halves)) (by rfl) (Row.of_owns hS.2.1.2) (one_enc _) h71 h72 hS.2.2.2.size (fun v' W' hap => ?_)
              refine ⟨⟨hap.form, hap.own, fun g' hv => ?_⟩, hap.full (fun a c e => by cases e; exact Nat.le_refl _), ?_⟩
              · rcases hap.lies with h | h | h
                · rw [h] at hv; cases hv
                · rw [h] at hv; cases hv; exact .inr hg
                · rw [h] at hv; cases hv; exact .inr hS.2.2.1
              · simp only [ag.News]
                refine ⟨fun _ u hu _ => R17.none (by omega), fun _ u hu _ => R17.none (by omega), fun _ u hu _ => R17.none (by omega), fun _ u hu hd => R17.mk (by omega) ?_, fun _ u hu _ => R17.none (by omega), fun _ u hu _ => R17.none (by omega), trivial⟩
                have hp : Ap (.slice (some ⟨g, 0, none⟩) 0 0) u := by
                  rcases hd (5, .slice (some ⟨g, 0, none⟩) 0 0) (List.mem_filter.2 ⟨by simp, by kernel_rfl⟩) (by show (5 : Nat) ≠ 9; decide) with h | h
                  · exact h.out (by omega)
                  · exact (h.out (by omega)).symm
                intro g' hv hug
                rcases hap.lies with h | h | h
                · rw [h] at hv; cases hv
                · rw [h] at hv; cases hv; exact hp _ rfl hug
                · rw [h] at hv; cases hv; have := (hu.at _ hug).2; omega
            iterate 1
              refine ag.walk_val (by rfl) (fun W hS hE => ?_) ?_
              rotate_left; simp only [Act.put, List.setIfInBounds_toArray, List.set_cons_zero, List.set_cons_succ]; rotate_left
              · obtain ⟨hc0, hc1, hc2, hc3⟩ := hS.1
                clear hS hE
                unfold ag.does
                go_simp
                try exact ⟨rfl, rfl⟩
            refine ag.walk_sat (by rfl) (fun W hS hE => ?_) (fun x9 => ?_)
            rotate_left; simp only [Act.put, List.setIfInBounds_toArray, List.set_cons_zero, List.set_cons_succ]; rotate_left
            · clear hE
              unfold ag.does
              go_simp
              refine ⟨⟨_, rfl, Flds.new W TW (cells [L.sum]), hS.2.2.1⟩, (Below.refl _ _).alloc (Nat.le_refl _) _, ?_⟩
              simp only [ag.News]
              refine ⟨fun _ u hu _ => R17.none (by omega), fun _ u hu _ => R17.mk (by omega) (apBox hu.at), fun _ u hu _ => R17.mk (by omega) (apBox hu.at), fun _ u hu _ => R17.none (by omega), fun _ u hu _ => R17.none (by omega), fun _ u hu _ => R17.none (by omega), trivial⟩
            refine ag.walk_sat (by rfl) (fun W hS hE => ?_) (fun x10 => ?_)
            rotate_left; simp only [Act.put, List.setIfInBounds_toArray, List.set_cons_zero, List.set_cons_succ]; rotate_left
            · obtain ⟨g, e6, hF, hg⟩ : vBox Wz 1 [L.sum] x9 W := hE.get (by kernel_rfl)
              have h7 : vNew w Wz (.slice none 0 0) (0 + 2 * L.length) (L.flatMap halves) x7 W := hE.tail.get (by kernel_rfl)
              clear hE
              subst e6
              have h7o := h7.2.1
              rw [Nat.zero_add] at h7o
              refine does_append (.tmp 84) (.tmp 86) 45 (by rfl) w.heap.size TW i0 (.agg #[.int .i64 0, .int .u64 0]) 2 16 Try.underlying45 hi hz0 hz1 hz2 rfl (by decide) x7 (2 * L.length) (cells (L.flatMap halves)) (by rfl) h7o
                (.slice (some ⟨g, 0, none⟩) 1 1) 1 (cells [L.sum]) (by rfl) (Row.of_flds hF rfl 1) (one_enc _) h73 h74 hS.2.2.2.size (fun v' W' hap => ?_)
              refine ⟨⟨hap.form, by rw [cells_append]; exact hap.own, fun g' hv => ?_⟩, (by unfold tEnd; rw [ag.lookX_filter (by kernel_rfl)]; exact ⟨hap.old, hap.grown, hap.empty⟩), ag.News.none (fun k u => R17.none (by omega)) _ _⟩
              rcases hap.lies with h | h | h
              · rw [h] at hv; cases hv
              · rw [h] at hv; exact .inr (h7.at g' hv).1
              · rw [h] at hv; cases hv; exact .inr hS.2.2.1
            refine ag.walk_sat (by rfl) (fun W hS hE => ?_) (fun x11 => ?_)
            rotate_left; simp only [Act.put, List.setIfInBounds_toArray, List.set_cons_zero, List.set_cons_succ]; rotate_left
            · have h10 : vNew w Wz (.slice none 0 0) (2 * L.length + 1) (L.flatMap halves ++ [L.sum]) x10 W := hE.get (by kernel_rfl)
              clear hE
              obtain ⟨⟨a10, c10, e10⟩, h10o, -⟩ := h10
              subst e10
              have hlen : (L.flatMap halves ++ [L.sum]).length = 2 * L.length + 1 := by rw [List.length_append, halves_len]; rfl
              have hp := plus_any a10 c10 (L.flatMap halves ++ [L.sum]) W (by rw [hlen]; exact Row.of_owns h10o) (by rw [hlen]; omega)
              rw [hlen, List.sum_append, halves_sum, show -L.sum + [L.sum].sum = 0 by simp; omega] at hp
              have HP := Lib.hid hp
              clear hp h10o hlen
              unfold ag.does
              go_simp
              refine HP.out.mono ?_
              rintro e W' ⟨rfl, hb'⟩
              exact ⟨_, rfl, rfl, hb', ag.News.none (fun k u => R17.none (by omega)) _ _⟩
            iterate 1
              refine ag.walk_val (by rfl) (fun W hS hE => ?_) ?_
              rotate_left; simp only [Act.put, List.setIfInBounds_toArray, List.set_cons_zero, List.set_cons_succ]; rotate_left
              · obtain ⟨hc0, hc1, hc2, hc3⟩ := hS.1
                clear hS hE
                unfold ag.does
                go_simp
                try exact ⟨rfl, rfl⟩
            refine ag.walk_val (by rfl) (fun W hS hE => ?_) ?_
            rotate_left; simp only [Act.put, List.setIfInBounds_toArray, List.set_cons_zero, List.set_cons_succ]; rotate_left
            · have h2 : x11 = agg 0 := hE.get (by kernel_rfl)
              clear hE hS
              subst h2
              unfold ag.does
              go_simp
              try exact ⟨rfl, rfl⟩
            iterate 10
              refine ag.walk_val (by rfl) (fun W hS hE => ?_) ?_
              rotate_left; simp only [Act.put, List.setIfInBounds_toArray, List.set_cons_zero, List.set_cons_succ]; rotate_left
              · obtain ⟨hc0, hc1, hc2, hc3⟩ := hS.1
                clear hS hE
                unfold ag.does
                go_simp
                try exact ⟨rfl, rfl⟩
            iterate 4
              refine ag.walk_skip (by rfl) ?_
              simp only [Act.put, List.setIfInBounds_toArray, List.set_cons_zero, List.set_cons_succ]
            iterate 12
              refine ag.walk_val (by rfl) (fun W hS hE => ?_) ?_
              rotate_left; simp only [Act.put, List.setIfInBounds_toArray, List.set_cons_zero, List.set_cons_succ]; rotate_left
              · obtain ⟨hc0, hc1, hc2, hc3⟩ := hS.1
                clear hS hE
                unfold ag.does
                go_simp
                try exact ⟨rfl, rfl⟩
            refine ag.walk_nil (fun W hS hF hP => ?_)
            have HB := Lib.hid hS.2.2.2
            clear hS hF hP
            go_wp2
            go_ret
            exact ⟨rfl, HB.out⟩
        · rw [show decide ((3 : Int) = 3) = true from rfl] at d2
          go_wp2_with (first | (go_at_call 31; with_reducible refine HP5.out.mono ?_; rintro e w2 ⟨rfl, hb2⟩) | (go_at_call 29; refine (HG.out _).mono ?_; rintro e w3 ⟨rfl, hb3⟩))
          have hW : Fin w (w3.alloc (.cells #[.int .i64 0, .int .u64 0] 49)) (.slice a6 L.length c6) L.length (cells L.reverse) u7 (2 * L.length) (cells (L.flatMap halves)) w2.heap.size w3.heap.size L.sum 0 0 (w3.alloc (.cells #[.int .i64 0, .int .u64 0] 49)).drew := by
            have hI := HI.out
            have b1 : Below wr.heap.size wr (w3.alloc (.cells #[.int .i64 0, .int .u64 0] 49)) := ((hb2.alloc hb2.size _).trans (hb3.mono (by simp; exact Nat.le_succ_of_le hb2.size))).alloc (Nat.le_trans (Nat.le_succ_of_le hb2.size) (by have := hb3.size; simpa using this)) _
            have b2 : Below w3.heap.size w3 (w3.alloc (.cells #[.int .i64 0, .int .u64 0] 49)) := (Below.refl _ _).alloc (Nat.le_refl _) _
            have hb := hI.b; have hc := hI.c
            rw [List.take_length] at hb hc
            exact ⟨⟨cell_later b2.drew (cell_later hb3 (cells_new w2 [_, _] _ 0)), cell_later b2.drew (cell_later hb3 (cells_new w2 [_, _] _ 1)), cells_new w3 [_, _] _ 0, cells_new w3 [_, _] _ 1⟩, ⟨owns_below hb b1.drew, owns_below hc b1.drew⟩, Nat.le_refl _, (hI.bel.trans (b1.mono hI.bel.size)).drew⟩
          obtain ⟨Wz, hWz⟩ : ∃ Wz, w3.alloc (.cells #[.int .i64 0, .int .u64 0] 49) = Wz := ⟨_, rfl⟩
          have hsz : w3.heap.size < Wz.heap.size := by rw [← hWz]; simp
          have hsz2 : w2.heap.size < Wz.heap.size := by have := hb3.size; simp at this; omega
          have hlt6 : ∀ g, (Value.slice a6 L.length c6).ownBlock = some g → g < Wz.heap.size := fun g hg => by
            have h1 := (HI.out.b.lt g hg).2; have h2 := hb2.size; omega
          have hlt7 : ∀ g, u7.ownBlock = some g → g < Wz.heap.size := fun g hg => by
            have h1 := (HI.out.c.lt g hg).2; have h2 := hb2.size; omega
          have hszw : w.heap.size ≤ Wz.heap.size := by have h1 := HI.out.bel.size; have h2 := hb2.size; omega
          rw [hWz] at hW ⊢
          have hH0 : hiW 0 = 0 := by simp [hiW, wrap64]
          have hL0 : loW 0 = 0 := by simp [loW]
          have HW := Lib.hid hW; have HS1 := Lib.hid hsz; have HS2 := Lib.hid hsz2; have H6 := Lib.hid hlt6; have H7 := Lib.hid hlt7; have HSW := Lib.hid hszw
          have h71 : 0 + 2 * L.length ≤ maxLen := by unfold maxLen; omega
          have h72 : (0 + 2 * L.length) * 16 ≤ 140737488355328 := by omega
          have h73 : 2 * L.length + 1 ≤ maxLen := by unfold maxLen; omega
          have h74 : (2 * L.length + 1) * 16 ≤ 140737488355328 := by omega
          clear hW hsz hsz2 hlt6 hlt7 hszw hWz hb2 hb3 HI HP5 HBR
          refine ag.region_ag (Fin w Wz (.slice a6 L.length c6) L.length (cells L.reverse) u7 (2 * L.length) (cells (L.flatMap halves)) w2.heap.size w3.heap.size L.sum 0 0) R17
            [.val (agg L.sum), .val (.slice a6 L.length c6), .sat (vOf L.sum) calm, .val (.bool true), .val (.bool true), .sat (vBox Wz 0 []) calm, .val u7, .sat (vNew w Wz (.slice none 0 0) (0 + 2 * L.length) (L.flatMap halves)) calm, .val (agg L.sum), .sat (vBox Wz 1 [L.sum]) calm,
              .sat (vNew w Wz (.slice none 0 0) (2 * L.length + 1) (L.flatMap halves ++ [L.sum])) (tEnd w (2 * L.length) (cells (L.flatMap halves))), .sat (vOf 0) calm, .val (.agg #[.int .i64 0, .int .u64 0]), .val (.bool true), .val (.bool true), .val (.bool true), .val (.int .i64 3), .val (.int .i64 3), .val (.bool true), .val (.bool true), .val (.bool true),
              .val (.int .i64 3), .val (.bool false), .val (.bool false), .val undef, .val undef, .val undef, .val undef, .val (.bool false), .val (.bool false), .val (.int .i64 3), .val (.bool true), .val (.bool true), .val (.agg #[.int .i64 0, .int .u64 0]), .val (.agg #[.int .i64 0, .int .u64 0]), .val (.bool true), .val (.bool true), .val (.bool true), .val (.bool true), .val (.bool true)]
            (by kernel_rfl) (by kernel_rfl) rfl HW.out ?hst3n3 ?hk3n3 ?hwalk3n3
          case hst3n3 =>
            simp only [ag.Stab, ag.Row2, ag.Ok2, and_true]
            repeat' apply And.intro
            all_goals first
              | exact fun h => absurd rfl h
              | exact fun _ _ _ _ _ _ hv _ _ => hv
              | exact fun _ f v W W' hS hv _ ht => hv.later ht
              | exact fun _ f v W W' hS hv _ ht => tEnd_nil hv ht
              | exact fun _ f v W W' hS hv hr ht => tEnd_box hv ht (hr 7 (by kernel_rfl) _ _ rfl).1
              | exact fun _ f v W W' hS hv hr ht => tEnd_same hv ht ((hr 7 (by kernel_rfl) _ _ rfl).2.1 rfl)
              | trivial
          case hk3n3 =>
            simp only [ag.Keeps, and_true]
            repeat' apply And.intro
            all_goals first
              | exact fun f W W' hS _ ht => hS.later ht
              | exact fun f W W' hS hd ht => hS.grown ht.2.1 (fun g hg => ((hd 7 (by kernel_rfl) _ _ rfl : vNew w Wz (.slice none 0 0) (0 + 2 * L.length) (L.flatMap halves) (f 7) W).at g hg).1) HS2.out HS1.out H6.out H7.out HSW.out
          case hwalk3n3 =>
            iterate 2
              refine ag.walk_val (by rfl) (fun W hS hE => ?_) ?_
              rotate_left; simp only [Act.put, List.setIfInBounds_toArray, List.set_cons_zero, List.set_cons_succ]; rotate_left
              · obtain ⟨hc0, hc1, hc2, hc3⟩ := hS.1
                clear hS hE
                unfold ag.does
                go_simp
                try exact ⟨rfl, rfl⟩
            refine ag.walk_sat (by rfl) (fun W hS hE => ?_) (fun x2 => ?_)
            rotate_left; simp only [Act.put, List.setIfInBounds_toArray, List.set_cons_zero, List.set_cons_succ]; rotate_left
            · clear hE
              have h6 := Row.of_owns hS.2.1.1
              have hp := plus_any a6 c6 L.reverse W (by rw [List.length_reverse]; exact h6) (by rw [List.length_reverse]; omega)
              rw [List.length_reverse, List.sum_reverse] at hp
              clear h6
              have HP := Lib.hid hp
              clear hp
              unfold ag.does
              go_simp
              refine HP.out.mono ?_
              rintro e W' ⟨rfl, hb'⟩
              exact ⟨_, rfl, rfl, hb', ag.News.none (fun k u => R17.none (by omega)) _ _⟩
            refine ag.walk_val (by rfl) (fun W hS hE => ?_) ?_
            rotate_left; simp only [Act.put, List.setIfInBounds_toArray, List.set_cons_zero, List.set_cons_succ]; rotate_left
            · have h2 : x2 = agg L.sum := hE.get (by kernel_rfl)
              clear hE hS
              subst h2
              unfold ag.does
              go_simp
              try exact ⟨rfl, rfl⟩
            iterate 1
              refine ag.walk_val (by rfl) (fun W hS hE => ?_) ?_
              rotate_left; simp only [Act.put, List.setIfInBounds_toArray, List.set_cons_zero, List.set_cons_succ]; rotate_left
              · obtain ⟨hc0, hc1, hc2, hc3⟩ := hS.1
                clear hS hE
                unfold ag.does
                go_simp
                try exact ⟨rfl, rfl⟩
            refine ag.walk_sat (by rfl) (fun W hS hE => ?_) (fun x5 => ?_)
            rotate_left; simp only [Act.put, List.setIfInBounds_toArray, List.set_cons_zero, List.set_cons_succ]; rotate_left
            · clear hE
              unfold ag.does
              go_simp
              refine ⟨⟨_, rfl, Flds.new W TW [], hS.2.2.1⟩, (Below.refl _ _).alloc (Nat.le_refl _) _, ?_⟩
              simp only [ag.News]
              refine ⟨fun _ u hu _ => R17.none (by omega), fun _ u hu _ => R17.none (by omega), fun _ u hu _ => R17.none (by omega), fun _ u hu _ => R17.mk (by omega) (apBox hu.at), fun _ u hu _ => R17.none (by omega), fun _ u hu _ => R17.none (by omega), trivial⟩
            iterate 1
              refine ag.walk_val (by rfl) (fun W hS hE => ?_) ?_
              rotate_left; simp only [Act.put, List.setIfInBounds_toArray, List.set_cons_zero, List.set_cons_succ]; rotate_left
              · obtain ⟨hc0, hc1, hc2, hc3⟩ := hS.1
                clear hS hE
                unfold ag.does
                go_simp
                try exact ⟨rfl, rfl⟩
            refine ag.walk_sat (by rfl) (fun W hS hE => ?_) (fun x7 => ?_)
            rotate_left; simp only [Act.put, List.setIfInBounds_toArray, List.set_cons_zero, List.set_cons_succ]; rotate_left
            · obtain ⟨g, e6, hF, hg⟩ : vBox Wz 0 [] x5 W := hE.get (by kernel_rfl)
              clear hE
              subst e6
              refine does_append (.tmp 82) (.tmp 83) 45 (by rfl) w.heap.size TW i0 (.agg #[.int .i64 0, .int .u64 0]) 2 16 Try.underlying45 hi hz0 hz1 hz2 rfl (by decide) (.slice (some ⟨g, 0, none⟩) 0 0) 0 [] (by rfl) (owns_of_flds (m := 0) hF rfl (Nat.le_trans HSW.out hg) (by decide))
                u7 (2 * L.length) (cells (L.flatMap halves)) (by rfl) (Row.of_owns hS.2.1.2) (one_enc _) h71 h72 hS.2.2.2.size (fun v' W' hap => ?_)
              refine ⟨⟨hap.form, hap.own, fun g' hv => ?_⟩, hap.full (fun a c e => by cases e; exact Nat.le_refl _), ?_⟩
              · rcases hap.lies with h | h | h
                · rw [h] at hv; cases hv
                · rw [h] at hv; cases hv; exact .inr hg
                · rw [h] at hv; cases hv; exact .inr hS.2.2.1
              · simp only [ag.News]
                refine ⟨fun _ u hu _ => R17.none (by omega), fun _ u hu _ => R17.none (by omega), fun _ u hu _ => R17.none (by omega), fun _ u hu hd => R17.mk (by omega) ?_, fun _ u hu _ => R17.none (by omega), fun _ u hu _ => R17.none (by omega), trivial⟩
                have hp : Ap (.slice (some ⟨g, 0, none⟩) 0 0) u := by
                  rcases hd (5, .slice (some ⟨g, 0, none⟩) 0 0) (List.mem_filter.2 ⟨by simp, by kernel_rfl⟩) (by show (5 : Nat) ≠ 9; decide) with h | h
                  · exact h.out (by omega)
                  · exact (h.out (by omega)).symm
                intro g' hv hug
                rcases hap.lies with h | h | h
                · rw [h] at hv; cases hv
                · rw [h] at hv; cases hv; exact hp _ rfl hug
                · rw [h] at hv; cases hv; have := (hu.at _ hug).2; omega
            iterate 1
              refine ag.walk_val (by rfl) (fun W hS hE => ?_) ?_
              rotate_left; simp only [Act.put, List.setIfInBounds_toArray, List.set_cons_zero, List.set_cons_succ]; rotate_left
              · obtain ⟨hc0, hc1, hc2, hc3⟩ := hS.1
                clear hS hE
                unfold ag.does
                go_simp
                try exact ⟨rfl, rfl⟩
            refine ag.walk_sat (by rfl) (fun W hS hE => ?_) (fun x9 => ?_)
            rotate_left; simp only [Act.put, List.setIfInBounds_toArray, List.set_cons_zero, List.set_cons_succ]; rotate_left
            · clear hE
              unfold ag.does
              go_simp
              refine ⟨⟨_, rfl, Flds.new W TW (cells [L.sum]), hS.2.2.1⟩, (Below.refl _ _).alloc (Nat.le_refl _) _, ?_⟩
              simp only [ag.News]
              refine ⟨fun _ u hu _ => R17.none (by omega), fun _ u hu _ => R17.mk (by omega) (apBox hu.at), fun _ u hu _ => R17.mk (by omega) (apBox hu.at), fun _ u hu _ => R17.none (by omega), fun _ u hu _ => R17.none (by omega), fun _ u hu _ => R17.none (by omega), trivial⟩
            refine ag.walk_sat (by rfl) (fun W hS hE => ?_) (fun x10 => ?_)
            rotate_left; simp only [Act.put, List.setIfInBounds_toArray, List.set_cons_zero, List.set_cons_succ]; rotate_left
            · obtain ⟨g, e6, hF, hg⟩ : vBox Wz 1 [L.sum] x9 W := hE.get (by kernel_rfl)
              have h7 : vNew w Wz (.slice none 0 0) (0 + 2 * L.length) (L.flatMap halves) x7 W := hE.tail.get (by kernel_rfl)
              clear hE
              subst e6
              have h7o := h7.2.1
              rw [Nat.zero_add] at h7o
              refine does_append (.tmp 84) (.tmp 86) 45 (by rfl) w.heap.size TW i0 (.agg #[.int .i64 0, .int .u64 0]) 2 16 Try.underlying45 hi hz0 hz1 hz2 rfl (by decide) x7 (2 * L.length) (cells (L.flatMap halves)) (by rfl) h7o
                (.slice (some ⟨g, 0, none⟩) 1 1) 1 (cells [L.sum]) (by rfl) (Row.of_flds hF rfl 1) (one_enc _) h73 h74 hS.2.2.2.size (fun v' W' hap => ?_)
              refine ⟨⟨hap.form, by rw [cells_append]; exact hap.own, fun g' hv => ?_⟩, (by unfold tEnd; rw [ag.lookX_filter (by kernel_rfl)]; exact ⟨hap.old, hap.grown, hap.empty⟩), ag.News.none (fun k u => R17.none (by omega)) _ _⟩
              rcases hap.lies with h | h | h
              · rw [h] at hv; cases hv
              · rw [h] at hv; exact .inr (h7.at g' hv).1
              · rw [h] at hv; cases hv; exact .inr hS.2.2.1
            refine ag.walk_sat (by rfl) (fun W hS hE => ?_) (fun x11 => ?_)
            rotate_left; simp only [Act.put, List.setIfInBounds_toArray, List.set_cons_zero, List.set_cons_succ]; rotate_left
            · have h10 : vNew w Wz (.slice none 0 0) (2 * L.length + 1) (L.flatMap halves ++ [L.sum]) x10 W := hE.get (by kernel_rfl)
              clear hE
              obtain ⟨⟨a10, c10, e10⟩, h10o, -⟩ := h10
              subst e10
              have hlen : (L.flatMap halves ++ [L.sum]).length = 2 * L.length + 1 := by rw [List.length_append, halves_len]; rfl
              have hp := plus_any a10 c10 (L.flatMap halves ++ [L.sum]) W (by rw [hlen]; exact Row.of_owns h10o) (by rw [hlen]; omega)
              rw [hlen, List.sum_append, halves_sum, show -L.sum + [L.sum].sum = 0 by simp; omega] at hp
              have HP := Lib.hid hp
              clear hp h10o hlen
              unfold ag.does
              go_simp
              refine HP.out.mono ?_
              rintro e W' ⟨rfl, hb'⟩
              exact ⟨_, rfl, rfl, hb', ag.News.none (fun k u => R17.none (by omega)) _ _⟩
            iterate 1
              refine ag.walk_val (by rfl) (fun W hS hE => ?_) ?_
              rotate_left; simp only [Act.put, List.setIfInBounds_toArray, List.set_cons_zero, List.set_cons_succ]; rotate_left
              · obtain ⟨hc0, hc1, hc2, hc3⟩ := hS.1
                clear hS hE
                unfold ag.does
                go_simp
                try exact ⟨rfl, rfl⟩
            refine ag.walk_val (by rfl) (fun W hS hE => ?_) ?_
            rotate_left; simp only [Act.put, List.setIfInBounds_toArray, List.set_cons_zero, List.set_cons_succ]; rotate_left
            · have h2 : x11 = agg 0 := hE.get (by kernel_rfl)
              clear hE hS
              subst h2
              unfold ag.does
              go_simp
              try exact ⟨rfl, rfl⟩
            iterate 10
              refine ag.walk_val (by rfl) (fun W hS hE => ?_) ?_
              rotate_left; simp only [Act.put, List.setIfInBounds_toArray, List.set_cons_zero, List.set_cons_succ]; rotate_left
              · obtain ⟨hc0, hc1, hc2, hc3⟩ := hS.1
                clear hS hE
                unfold ag.does
                go_simp
                try exact ⟨rfl, rfl⟩
            iterate 4
              refine ag.walk_skip (by rfl) ?_
              simp only [Act.put, List.setIfInBounds_toArray, List.set_cons_zero, List.set_cons_succ]
            iterate 12
              refine ag.walk_val (by rfl) (fun W hS hE => ?_) ?_
              rotate_left; simp only [Act.put, List.setIfInBounds_toArray, List.set_cons_zero, List.set_cons_succ]; rotate_left
              · obtain ⟨hc0, hc1, hc2, hc3⟩ := hS.1
                clear hS hE
                unfold ag.does
                go_simp
                try exact ⟨rfl, rfl⟩
            refine ag.walk_nil (fun W hS hF hP => ?_)
            have HB := Lib.hid hS.2.2.2
            clear hS hF hP
            go_wp2
            go_ret
            exact ⟨rfl, HB.out⟩

end Go.Proofs.Ytdobihnlegfkaaa.wide
