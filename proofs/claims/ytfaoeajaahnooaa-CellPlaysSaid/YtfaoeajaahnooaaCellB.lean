/- A store of cells: what its acts do to it. -/
import Derived.Test.YtfaoeajaahnooaaCellA
namespace Go.Proofs.Ytfaoeajaahnooaa.cel
set_option linter.unusedVariables false
open Go.RowKit Go.WideShapes Go.MapKept
attribute [local go_sem] fieldT

noncomputable def upd {α : Type} (f : ByteArray → α) (k : ByteArray) (x : α) : ByteArray → α := fun s => @ite α (s = k) (Classical.propDecidable _) x (f s)
theorem upd_same {α : Type} (f : ByteArray → α) (k : ByteArray) (x : α) : upd f k x k = x := if_pos rfl
theorem upd_other {α : Type} (f : ByteArray → α) {k s : ByteArray} (x : α) (h : s ≠ k) : upd f k x s = f s := if_neg h
theorem SetAt.mono {w : World} {b m m' : Nat} {l : List Int} (h : SetAt w b m l) (hm : m ≤ m') : SetAt w b m' l := by
  obtain ⟨D, h1, h2⟩ := h
  exact ⟨D, h1.mono hm, h2⟩
theorem SetAt.kept {w w' : World} {row : Option Nat} {b m : Nat} {l : List Int} (h : SetAt w b m l) (hg : w.grownBy w' row) (hne : some b ≠ row) : SetAt w' b m l := by
  obtain ⟨D, h1, h2⟩ := h
  exact ⟨D, h1.kept hg hne, h2⟩
theorem map_ne_cells {w : World} {b b' : Nat} {T k : TypeId} {fs : List Value} {R : Value → Option (Dat × List MemPlace)} {n : Nat} {D : Dat} (h : w.ownsMap Try.prog k R b n D) (hf : Flds w b' T fs) : b ≠ b' := by
  rintro rfl
  obtain ⟨es, clock, hb, -⟩ := h
  have hf' : w.heap[b]? = _ := hf
  rw [hb] at hf'; cases hf'
theorem SetAt.ne_cells {w : World} {b b' m : Nat} {T : TypeId} {fs : List Value} {l : List Int} (h : SetAt w b m l) (hf : Flds w b' T fs) : b ≠ b' := by
  obtain ⟨D, h1, -⟩ := h
  exact map_ne_cells h1 hf
section
variable {own : Nat → Prop} {bs m : Nat} {S : CS} {w w' : World} {bt bw : Nat} {Dt Dw : Dat} {bk : ByteArray → Option Nat}
/-- the store stays what it is while other blocks turn -/
theorem Cel.kept {row : Option Nat} (h : Cel own bs m S w bt bw Dt Dw bk) (hg : w.grownBy w' row) (hne : ∀ k, row = some k → k < w.heap.size → ¬ own k) : Cel own bs m S w' bt bw Dt Dw bk := by
  have hn : ∀ b, own b → b < w.heap.size → some b ≠ row := fun b ho hl e => hne b e.symm hl ho
  refine ⟨h.fl.grown hg (hn bs h.obs h.fl.lt), h.obs, h.obt, h.obw, h.ne, h.mt.kept hg (hn bt h.obt h.mt.lt), h.at_t, h.has_t, h.mw.kept hg (hn bw h.obw h.mw.lt), h.at_w, h.nil_w, fun s b hs hb => ?_, h.inj⟩
  obtain ⟨h1, h2, h3, h4⟩ := h.sets s b hs hb
  refine ⟨h1, h2, h3, h4.kept hg (hn b h1 ?_)⟩
  obtain ⟨D, h5, -⟩ := h4
  exact h5.lt
theorem Cel.later (h : Cel own bs m S w bt bw Dt Dw bk) (hb : Below w.heap.size w w') : Cel own bs m S w' bt bw Dt Dw bk :=
  h.kept (row := none) ⟨hb.os, hb.tape, hb.output, hb.size, fun k hk _ => hb.block k hk⟩ (fun k e => by cases e)
theorem Cel.mono (h : Cel own bs m S w bt bw Dt Dw bk) {m' : Nat} (hm : m ≤ m') : Cel own bs m' S w bt bw Dt Dw bk :=
  ⟨h.fl, h.obs, h.obt, h.obw, h.ne, h.mt.mono hm, h.at_t, h.has_t, h.mw.mono hm, h.at_w, h.nil_w, fun s b hs hb => by obtain ⟨h1, h2, h3, h4⟩ := h.sets s b hs hb; exact ⟨h1, h2, h3, h4.mono hm⟩, h.inj⟩
/-- a text is set -/
theorem Cel.put (h : Cel own bs m S w bt bw Dt Dw bk) (k to : ByteArray) (hk : k.size ≤ maxLen) (hne : to ≠ ByteArray.empty) (hm : m < maxLen) :
    ∃ w', (Instr.mapUpdate M1 (.map (some bt)) (.string k) (.agg #[.string to])).run Try.prog w = .ok () w' ∧ Cel own bs (m + 1) { S with tx := upd S.tx k to } w' bt bw (Dt.put (nm k) (txD to)) Dw bk ∧ Only own w w' := by
  obtain ⟨w', h1, h2, h3⟩ := h.mt.store keyedS Try.underlying45 hm (keyS hk) (txE_mk to)
  have hg := h3.grown
  have hmap := h.mt.isMap
  refine ⟨w', h1, ⟨h.fl.grown hg (fun e => map_ne_cells h.mt h.fl (by simpa using e.symm)), h.obs, h.obt, h.obw, h.ne, h2, fun s hs => ?_, fun s hs => ?_, (h.mw.kept hg (fun e => h.ne (by simpa using e.symm))).mono (by omega), h.at_w, h.nil_w, fun s b hs hb => ?_, h.inj⟩, ⟨hg.os, hg.tape, hg.output, hg.size, fun j hj hn => hg.block j hj (fun e => hn (by simp only [Option.some.injEq] at e; rw [e]; exact h.obt))⟩⟩
  · by_cases e : s = k
    · subst e
      rw [Go.Maps.atKey_put_same hmap (nm_key s)]
      simp only [upd_same]
    · rw [Go.Maps.atKey_put_other (fun e' => e (nm_inj e')), h.at_t s hs]
      simp only [upd_other _ _ e]
  · by_cases e : s = k
    · subst e
      rw [Go.Maps.has_put_same hmap (nm_key s)]
      simp only [upd_same]
      simp [hne]
    · rw [Go.Maps.has_put_other (fun e' => e (nm_inj e')), h.has_t s hs]
      simp only [upd_other _ _ e]
  · obtain ⟨h4, h5, h6, h7⟩ := h.sets s b hs hb
    exact ⟨h4, h5, h6, (h7.kept hg (fun e => h5 (by simpa using e))).mono (by omega)⟩
/-- a text is struck -/
theorem Cel.strike (h : Cel own bs m S w bt bw Dt Dw bk) (k : ByteArray) (hk : k.size ≤ maxLen) (ty : TypeId) :
    ∃ w', (Builtin.delete_ #[M1, TK] ty #[.map (some bt), .string k]).run Try.prog w = .ok (.tuple #[]) w' ∧ Cel own bs m { S with tx := upd S.tx k ByteArray.empty } w' bt bw (Dt.del (nm k)) Dw bk ∧ Only own w w' := by
  obtain ⟨w', h1, h2, h3⟩ := h.mt.drop keyedS Try.underlying45 (keyS hk) ty
  have hg := h3.grown
  refine ⟨w', h1, ⟨h.fl.grown hg (fun e => map_ne_cells h.mt h.fl (by simpa using e.symm)), h.obs, h.obt, h.obw, h.ne, h2, fun s hs => ?_, fun s hs => ?_, h.mw.kept hg (fun e => h.ne (by simpa using e.symm)), h.at_w, h.nil_w, fun s b hs hb => ?_, h.inj⟩, ⟨hg.os, hg.tape, hg.output, hg.size, fun j hj hn => hg.block j hj (fun e => hn (by simp only [Option.some.injEq] at e; rw [e]; exact h.obt))⟩⟩
  · by_cases e : s = k
    · subst e
      rw [Go.Maps.atKey_del_same]
      simp only [upd_same]
    · rw [Go.Maps.atKey_del_other (fun e' => e (nm_inj e')), h.at_t s hs]
      simp only [upd_other _ _ e]
  · by_cases e : s = k
    · subst e
      rw [Go.Maps.has_del_same]
      simp only [upd_same]
      simp
    · rw [Go.Maps.has_del_other (fun e' => e (nm_inj e')), h.has_t s hs]
      simp only [upd_other _ _ e]
  · obtain ⟨h4, h5, h6, h7⟩ := h.sets s b hs hb
    exact ⟨h4, h5, h6, h7.kept hg (fun e => h5 (by simpa using e))⟩
/-- more may be the store's -/
theorem Cel.grow (h : Cel own bs m S w bt bw Dt Dw bk) {own' : Nat → Prop} (ho : ∀ k, own k → own' k) : Cel own' bs m S w bt bw Dt Dw bk :=
  ⟨h.fl, ho _ h.obs, ho _ h.obt, ho _ h.obw, h.ne, h.mt, h.at_t, h.has_t, h.mw, h.at_w, h.nil_w, fun s b hs hb => by obtain ⟨h1, h2, h3, h4⟩ := h.sets s b hs hb; exact ⟨ho _ h1, h2, h3, h4⟩, h.inj⟩
def insI (l : List Int) (x : Int) : List Int := l.filter (fun y => decide (y < x)) ++ x :: l.filter (fun y => decide (x < y))
def delI (l : List Int) (x : Int) : List Int := l.filter (fun y => !decide (y = x))
theorem insI_mem (l : List Int) (x j : Int) : j ∈ insI l x ↔ j = x ∨ j ∈ l := by
  unfold insI
  simp only [List.mem_append, List.mem_filter, List.mem_cons, decide_eq_true_eq]
  constructor
  · rintro (⟨h, -⟩ | h | ⟨h, -⟩)
    · exact .inr h
    · exact .inl h
    · exact .inr h
  · rintro (h | h)
    · exact .inr (.inl h)
    · rcases Int.lt_trichotomy j x with h1 | h1 | h1
      · exact .inl ⟨h, h1⟩
      · exact .inr (.inl h1)
      · exact .inr (.inr ⟨h, h1⟩)
theorem insI_sorted {l : List Int} (h : l.Pairwise (· < ·)) (x : Int) : (insI l x).Pairwise (· < ·) := by
  unfold insI
  refine List.pairwise_append.2 ⟨h.filter _, List.pairwise_cons.2 ⟨fun y hy => by simpa using (List.mem_filter.1 hy).2, h.filter _⟩, fun a ha b hb => ?_⟩
  have h1 : a < x := by simpa using (List.mem_filter.1 ha).2
  rcases List.mem_cons.1 hb with rfl | hb
  · exact h1
  · have h2 : x < b := by simpa using (List.mem_filter.1 hb).2
    omega
theorem delI_mem (l : List Int) (x j : Int) : j ∈ delI l x ↔ j ≠ x ∧ j ∈ l := by
  unfold delI
  simp only [List.mem_filter, Bool.not_eq_true', decide_eq_false_iff_not]
  exact And.comm
/-- a new set of watchers is laid -/
theorem Cel.lay (h : Cel own bs m S w bt bw Dt Dw bk) (k : ByteArray) (hk : k.size ≤ maxLen) (hb : bk k = none) (hm : m < maxLen) :
    ∃ w', (Instr.mapUpdate M2 (.map (some bw)) (.string k) (.map (some w.heap.size))).run Try.prog (w.alloc (.map #[] 0)) = .ok () w' ∧ Cel (ownNew own w w') bs (m + 1) S w' bt bw Dt (Dw.put (nm k) (wsD (some w.heap.size))) (upd bk k (some w.heap.size)) ∧ Only own w w' := by
  have h1 : Cel own bs m S (w.alloc (.map #[] 0)) bt bw Dt Dw bk := h.kept (World.grownBy_alloc w _ none) (fun k e => by cases e)
  obtain ⟨w', e1, e2, e3⟩ := h1.mw.store keyedS Try.underlying46 hm (keyS hk) (rfl : wsE (.map (some w.heap.size)) = some (wsD (some w.heap.size), []))
  have hg := e3.grown
  have hz : (w.alloc (.map #[] 0)).heap.size = w.heap.size + 1 := World.size_alloc _ _
  have hmap := h1.mw.isMap
  have hbw : bw < w.heap.size := h.mw.lt
  have hlt : w.heap.size < w'.heap.size := Nat.lt_of_lt_of_le (by rw [hz]; omega) hg.size
  have hon : Only own w w' := (Only.refl own w |>.alloc (.map #[] 0)).grown hg (fun k e hk => by simp only [Option.some.injEq] at e; rw [← e]; exact h.obw)
  refine ⟨w', e1, ⟨h1.fl.grown hg (fun e => map_ne_cells h1.mw h1.fl (by simpa using e.symm)), .inl h.obs, .inl h.obt, .inl h.obw, h.ne, (h1.mt.kept hg (fun e => h.ne (by simpa using e))).mono (by omega), h.at_t, h.has_t, e2, fun s hs => ?_, fun s hs hn => ?_, fun s b hs hb' => ?_, fun s s' b hs hs' h2 h3 => ?_⟩, hon⟩
  · by_cases e : s = k
    · subst e
      rw [Go.Maps.atKey_put_same hmap (nm_key s), upd_same]
    · rw [Go.Maps.atKey_put_other (fun e' => e (nm_inj e')), h.at_w s hs, upd_other _ _ e]
  · by_cases e : s = k
    · subst e
      exact h.nil_w s hs hb
    · rw [upd_other _ _ e] at hn
      exact h.nil_w s hs hn
  · by_cases e : s = k
    · subst e
      rw [upd_same] at hb'
      simp only [Option.some.injEq] at hb'
      subst hb'
      have hlt1 := h.mt.lt
      refine ⟨.inr ⟨Nat.le_refl _, hlt⟩, by omega, by omega, .map [], ?_, fun i => ?_, ?_⟩
      · exact ((World.ownsMap_made w Try.prog TI unitElem).kept hg (fun e => by simp only [Option.some.injEq] at e; omega)).mono (Nat.zero_le _)
      · rw [h.nil_w s hs hb]; rfl
      · rw [h.nil_w s hs hb]; exact List.Pairwise.nil
    · rw [upd_other _ _ e] at hb'
      obtain ⟨h4, h5, h6, h7⟩ := h1.sets s b hs hb'
      exact ⟨.inl h4, h5, h6, (h7.kept hg (fun e => h6 (by simpa using e))).mono (by omega)⟩
  · have old : ∀ s b, s.size ≤ maxLen → bk s = some b → b < w.heap.size := fun s b hs hb => by
      obtain ⟨-, -, -, D, h5, -⟩ := h.sets s b hs hb
      exact h5.lt
    by_cases e : s = k
    · by_cases e' : s' = k
      · rw [e, e']
      · rw [e, upd_same] at h2
        rw [upd_other _ _ e'] at h3
        simp only [Option.some.injEq] at h2
        have := old s' b hs' h3
        omega
    · rw [upd_other _ _ e] at h2
      by_cases e' : s' = k
      · rw [e', upd_same] at h3
        simp only [Option.some.injEq] at h3
        have := old s b hs h2
        omega
      · rw [upd_other _ _ e'] at h3
        exact h.inj s s' b hs hs' h2 h3
/-- what is in a set turns -/
theorem Cel.turn (h : Cel own bs m S w bt bw Dt Dw bk) (k : ByteArray) (hk : k.size ≤ maxLen) {b : Nat} (hb : bk k = some b) (hg : w.grownBy w' (some b)) {m' : Nat} (hm : m ≤ m') {l : List Int} (hs : SetAt w' b m' l) :
    Cel own bs m' { S with wh := upd S.wh k l } w' bt bw Dt Dw bk ∧ Only own w w' := by
  obtain ⟨o1, o2, o3, o4⟩ := h.sets k b hk hb
  refine ⟨⟨h.fl.grown hg (fun e => o4.ne_cells h.fl (by simpa using e.symm)), h.obs, h.obt, h.obw, h.ne, (h.mt.kept hg (fun e => o2 (by simpa using e.symm))).mono hm, h.at_t, h.has_t, (h.mw.kept hg (fun e => o3 (by simpa using e.symm))).mono hm, h.at_w, fun s hs' hn => ?_, fun s b' hs' hb' => ?_, h.inj⟩, ⟨hg.os, hg.tape, hg.output, hg.size, fun j hj hn => hg.block j hj (fun e => hn (by simp only [Option.some.injEq] at e; rw [e]; exact o1))⟩⟩
  · have e : s ≠ k := fun e => by rw [e, hb] at hn; cases hn
    simp only [upd_other _ _ e]
    exact h.nil_w s hs' hn
  · by_cases e : s = k
    · subst e
      rw [hb] at hb'
      simp only [Option.some.injEq] at hb'
      subst hb'
      simp only [upd_same]
      exact ⟨o1, o2, o3, hs⟩
    · obtain ⟨p1, p2, p3, p4⟩ := h.sets s b' hs' hb'
      simp only [upd_other _ _ e]
      exact ⟨p1, p2, p3, (p4.kept hg (fun e' => e (h.inj s k b hs' hk (by rw [hb']; simpa using e') hb))).mono hm⟩
theorem Cel.watch (h : Cel own bs m S w bt bw Dt Dw bk) (k : ByteArray) (hk : k.size ≤ maxLen) {b : Nat} (hb : bk k = some b) (i : Int) (hi : -9223372036854775808 ≤ i ∧ i ≤ 9223372036854775807) (hm : m < maxLen) :
    ∃ w', (Instr.mapUpdate M3 (.map (some b)) (.int .i64 i) (.agg #[])).run Try.prog w = .ok () w' ∧ Cel own bs (m + 1) { S with wh := upd S.wh k (insI (S.wh k) i) } w' bt bw Dt Dw bk ∧ Only own w w' := by
  obtain ⟨o1, o2, o3, D, h1, h2, h3⟩ := h.sets k b hk hb
  obtain ⟨w', e1, e2, e3⟩ := h1.store keyedI Try.underlying49 hm (keyI hi) unitElem_mk
  refine ⟨w', e1, h.turn k hk hb e3.grown (by omega) ⟨_, e2, fun j => ?_, insI_sorted h3 i⟩⟩
  by_cases e : j = i
  · subst e
    rw [Go.Maps.has_put_same h1.isMap (nb_key j)]
    simp [insI_mem]
  · rw [Go.Maps.has_put_other (fun e' => e (by unfold nb at e'; simpa using e')), h2]
    simp [insI_mem, e]
theorem Cel.unwatch (h : Cel own bs m S w bt bw Dt Dw bk) (k : ByteArray) (hk : k.size ≤ maxLen) {b : Nat} (hb : bk k = some b) (i : Int) (hi : -9223372036854775808 ≤ i ∧ i ≤ 9223372036854775807) (ty : TypeId) :
    ∃ w', (Builtin.delete_ #[M3, TI] ty #[.map (some b), .int .i64 i]).run Try.prog w = .ok (.tuple #[]) w' ∧ Cel own bs m { S with wh := upd S.wh k (delI (S.wh k) i) } w' bt bw Dt Dw bk ∧ Only own w w' := by
  obtain ⟨o1, o2, o3, D, h1, h2, h3⟩ := h.sets k b hk hb
  obtain ⟨w', e1, e2, e3⟩ := h1.drop keyedI Try.underlying49 (keyI hi) ty
  refine ⟨w', e1, h.turn k hk hb e3.grown (Nat.le_refl _) ⟨_, e2, fun j => ?_, h3.filter _⟩⟩
  by_cases e : j = i
  · subst e
    rw [Go.Maps.has_del_same]
    simp [delI_mem]
  · rw [Go.Maps.has_del_other (fun e' => e (by unfold nb at e'; simpa using e')), h2]
    simp [delI_mem, e]
/-- a set without watchers is struck -/
theorem Cel.drop (h : Cel own bs m S w bt bw Dt Dw bk) (k : ByteArray) (hk : k.size ≤ maxLen) (h0 : S.wh k = []) (ty : TypeId) :
    ∃ w', (Builtin.delete_ #[M2, TK] ty #[.map (some bw), .string k]).run Try.prog w = .ok (.tuple #[]) w' ∧ Cel own bs m S w' bt bw Dt (Dw.del (nm k)) (upd bk k none) ∧ Only own w w' := by
  obtain ⟨w', e1, e2, e3⟩ := h.mw.drop keyedS Try.underlying46 (keyS hk) ty
  have hg := e3.grown
  refine ⟨w', e1, ⟨h.fl.grown hg (fun e => map_ne_cells h.mw h.fl (by simpa using e.symm)), h.obs, h.obt, h.obw, h.ne, h.mt.kept hg (fun e => h.ne (by simpa using e)), h.at_t, h.has_t, e2, fun s hs => ?_, fun s hs hn => ?_, fun s b hs hb' => ?_, fun s s' b hs hs' h2 h3 => ?_⟩, ⟨hg.os, hg.tape, hg.output, hg.size, fun j hj hn => hg.block j hj (fun e => hn (by simp only [Option.some.injEq] at e; rw [e]; exact h.obw))⟩⟩
  · by_cases e : s = k
    · subst e
      rw [Go.Maps.atKey_del_same, upd_same]
    · rw [Go.Maps.atKey_del_other (fun e' => e (nm_inj e')), h.at_w s hs, upd_other _ _ e]
  · by_cases e : s = k
    · subst e; exact h0
    · rw [upd_other _ _ e] at hn
      exact h.nil_w s hs hn
  · have e : s ≠ k := fun e => by rw [e, upd_same] at hb'; cases hb'
    rw [upd_other _ _ e] at hb'
    obtain ⟨h4, h5, h6, h7⟩ := h.sets s b hs hb'
    exact ⟨h4, h5, h6, h7.kept hg (fun e => h6 (by simpa using e))⟩
  · have e : s ≠ k := fun e => by rw [e, upd_same] at h2; cases h2
    have e' : s' ≠ k := fun e => by rw [e, upd_same] at h3; cases h3
    rw [upd_other _ _ e] at h2
    rw [upd_other _ _ e'] at h3
    exact h.inj s s' b hs hs' h2 h3
/-- how many watches -/
theorem Cel.count (h : Cel own bs m S w bt bw Dt Dw bk) (n : Int) : Cel own bs m { S with n := n } (w.setCell ⟨bs, 2, none⟩ (.int .i64 n)) bt bw Dt Dw bk ∧ Only own w (w.setCell ⟨bs, 2, none⟩ (.int .i64 n)) := by
  have hg : w.grownBy (w.setCell ⟨bs, 2, none⟩ (.int .i64 n)) (some bs) := grown_setCell w ⟨bs, 2, none⟩ _
  refine ⟨⟨h.fl.set 2 (.int .i64 n), h.obs, h.obt, h.obw, h.ne, h.mt.kept hg (fun e => map_ne_cells h.mt h.fl (by simpa using e)), h.at_t, h.has_t, h.mw.kept hg (fun e => map_ne_cells h.mw h.fl (by simpa using e)), h.at_w, h.nil_w, fun s b hs hb => ?_, h.inj⟩, (Only.refl own w).setCell _ _ (fun _ => h.obs)⟩
  obtain ⟨h4, h5, h6, h7⟩ := h.sets s b hs hb
  exact ⟨h4, h5, h6, h7.kept hg (fun e => h7.ne_cells h.fl (by simpa using e))⟩
end
end Go.Proofs.Ytfaoeajaahnooaa.cel
