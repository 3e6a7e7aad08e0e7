/- The laws' first look at a queue. -/
import Derived.Test.YtbaepjjanjhliaaDirtyLN
namespace Go.Proofs.Ytbaepjjanjhliaa.drt
set_option linter.unusedVariables false
open Go.RowKit
theorem after {B : Nat} {a w w' : World} (h : Below B a w) (hb : Below w.heap.size w w') (hB : B ≤ w.heap.size) : Below B a w' := h.trans (hb.mono hB)
theorem own_step {own : Nat → Prop} {B : Nat} {a w w' : World} (h : Below B a w) (ho : Only own w w') (hB : B ≤ w.heap.size) (hl : ∀ k, own k → B ≤ k) : Below B a w' ∧ (∀ k, ownNew own w w' k → B ≤ k) :=
  ⟨h.trans (ho.below hB hl), fun k hk => hk.elim (hl k) (fun q => Nat.le_trans hB q.1)⟩
set_option maxRecDepth 100000 in
set_option maxHeartbeats 1000000 in
theorem speaks_any (W : World) : Calls Try.prog 34 #[] W fun e w' => e = .returned (.bool true) ∧ Below W.heap.size W w' := by
  go_enter Try.func34, Try.ntmps34
  go_wp2_with fail
  refine (N.q_new (ky := fun v => v) W).mono ?_
  rintro e w1 ⟨rfl, h1, hb1, hs1⟩
  have B1 : Below W.heap.size W w1 := hb1
  have L1 : ∀ k, (k = W.heap.size ∨ k = W.heap.size + 1) → W.heap.size ≤ k := fun k hk => by omega
  generalize hown1 : (fun k => k = W.heap.size ∨ k = W.heap.size + 1) = own1 at h1
  have L1 : ∀ k, own1 k → W.heap.size ≤ k := fun k hk => by rw [← hown1] at hk; exact L1 k hk
  clear hb1 hs1 hown1
  go_wp2_with fail
  refine (N.q_push h1 (N.less_all _ _) (by simp) (by unfold maxLen; simp) (v := 3) (In64.of (by omega))).mono ?_
  rintro e w2 ⟨a1, rfl, h2, ho2, p2, -⟩
  have p2 := p2 (by simp)
  obtain ⟨B2, L2⟩ := own_step B1 ho2 B1.size L1
  generalize ownNew own1 w1 w2 = own2 at *
  have e1 : decide ((3 : Int) ∉ ([] : List Int)) = true := by simp
  have l2 : a1.length = 1 := p2.length_eq
  rw [e1]
  clear e1 h1 ho2 B1 L1
  go_wp2_with fail
  refine (N.q_push h2 (N.less_all _ _) (by omega) (by unfold maxLen; simp; omega) (v := 1) (In64.of (by omega))).mono ?_
  rintro e w3 ⟨a2, rfl, h3, ho3, p3, -⟩
  have n3 : (1 : Int) ∉ a1 := by rw [p2.mem_iff]; simp
  have p3 := (p3 n3).trans ((List.perm_cons 1).2 p2)
  obtain ⟨B3, L3⟩ := own_step B2 ho3 B2.size L2
  generalize ownNew own2 w2 w3 = own3 at *
  have l3 : a2.length = 2 := p3.length_eq
  rw [decide_eq_true n3]
  clear h2 ho3 B2 L2 n3
  go_wp2_with fail
  refine (N.q_push h3 (N.less_all _ _) (by omega) (by unfold maxLen; simp; omega) (v := 2) (In64.of (by omega))).mono ?_
  rintro e w4 ⟨a3, rfl, h4, ho4, p4, -⟩
  have n4 : (2 : Int) ∉ a2 := by rw [p3.mem_iff]; simp
  have p4 := (p4 n4).trans ((List.perm_cons 2).2 p3)
  obtain ⟨B4, L4⟩ := own_step B3 ho4 B3.size L3
  generalize ownNew own3 w3 w4 = own4 at *
  have l4 : a3.length = 3 := p4.length_eq
  rw [decide_eq_true n4]
  clear h3 ho4 B3 L3 n4
  go_wp2_with fail
  refine (N.q_push h4 (N.less_all _ _) (by omega) (by unfold maxLen; simp; omega) (v := 1) (In64.of (by omega))).mono ?_
  rintro e w5 ⟨a4, rfl, h5, ho5, -, p5⟩
  have n5 : (1 : Int) ∈ a3 := by rw [p4.mem_iff]; simp
  have p5 := (p5 n5).symm
  subst p5
  obtain ⟨B5, L5⟩ := own_step B4 ho5 B4.size L4
  generalize ownNew own4 w4 w5 = own5 at *
  rw [decide_eq_false (fun q : (1 : Int) ∉ a3 => q n5)]
  clear h4 ho5 B4 L4
  go_wp2_with fail
  refine (N.q_pop h5 (N.less_all _ _) (by omega) (by unfold maxLen; simp; omega)).mono ?_
  rintro e w6 ⟨a5, rfl, h6, ho6, p6, -⟩
  obtain ⟨p6, hmin⟩ := p6 (by omega)
  have hx : a3.headD 0 = 1 := by
    have h1 : a3.headD 0 ≤ 1 := hmin 1 n5
    have h2 : a3.headD 0 ∈ a3 := p6.mem_iff.1 List.mem_cons_self
    rw [p4.mem_iff] at h2
    simp only [List.mem_cons, List.not_mem_nil, or_false] at h2
    omega
  rw [hx] at p6 ⊢
  have B6 : Below W.heap.size W w6 := B5.trans (ho6.below B5.size L5)
  have l6 : a5.length = 2 := by have := p6.length_eq; simp at this; omega
  have n3 : (3 : Int) ∈ a5 := by
    have h : (3 : Int) ∈ (1 : Int) :: a5 := p6.mem_iff.2 (p4.mem_iff.2 (by simp))
    rcases List.mem_cons.1 h with h | h
    · omega
    · exact h
  have n1 : (1 : Int) ∉ a5 := (List.nodup_cons.1 (p6.nodup_iff.2 h5.nodup)).1
  rw [decide_eq_true (by omega : 0 < a3.length)]
  clear h5 ho6 B5 L5 hmin hx
  go_wp2_with fail
  refine (N.q_len h6).mono ?_
  rintro e w7 ⟨rfl, hw7⟩
  obtain rfl := hw7.symm
  rw [l6]
  go_wp2_with fail
  refine (N.q_has h6 (v := 3) (In64.of (by omega))).mono ?_
  rintro e w8 ⟨rfl, hw8⟩
  obtain rfl := hw8.symm
  rw [decide_eq_true n3]
  go_wp2_with fail
  refine (N.q_has h6 (v := 1) (In64.of (by omega))).mono ?_
  rintro e w9 ⟨rfl, hw9⟩
  obtain rfl := hw9.symm
  rw [decide_eq_false n1]
  go_wp2
  go_ret
  exact ⟨rfl, B6⟩
end Go.Proofs.Ytbaepjjanjhliaa.drt
