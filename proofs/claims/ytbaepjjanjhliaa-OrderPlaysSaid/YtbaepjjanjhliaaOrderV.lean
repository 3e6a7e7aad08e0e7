/- The list of stamps of which none was deleted: After; the law's own calls. -/
import Derived.Test.YtbaepjjanjhliaaOrderN
import Derived.Test.YtbaepjjanjhliaaOrderU
namespace Go.Proofs.Ytbaepjjanjhliaa.ord
set_option linter.unusedVariables false
open Go.RowKit arK

theorem TI.after {F : Nat → Prop} {w0 w : World} {bl b : Nat} {L : List Int} (h : TI F w0 bl b L w) (hlen : L.length < 1048576) {p : Nat} {i : Int} (hp : L[p]? = some i) :
    Calls Try.prog 30 #[.pointer (some ⟨bl, 0, none⟩), .int .i64 i] w fun e w' => e = .returned (.tuple #[.int .i64 (L.length : Int), .bool true]) ∧ TI F w0 bl b (ins L p L.length) w' ∧ ∀ g, F g → w'.heap[g]? = w.heap[g]? := by
  obtain ⟨s, own, h1, k2, k3, k4, k5, h2, hr, hf, hs⟩ := h
  have hlive : s.live = (L.length : Int) := by unfold Ar.live; rw [hf, hs]; simp
  refine (after_yes h1 h2 (by omega) (by omega) hr hp).mono ?_
  rintro e w' ⟨n, s', rfl, q1, q2, ⟨x, s1, q3, q4⟩, q5, q6⟩
  obtain ⟨rfl, f1, f2, f3⟩ := alloc_fresh hf q3
  rw [hs] at q2 ⊢
  exact ⟨rfl, ⟨s', _, q1, fun k hk => hk.elim (k2 k) (fun h => Nat.le_trans k4.size h.1), k3, k4.trans (q6.below k4.size k2), fun g hg => ⟨Nat.lt_of_lt_of_le (k5 g hg).1 q6.size, fun ho => ho.elim (k5 g hg).2 (fun h => by have := (k5 g hg).1; omega)⟩, q2, q4.room.trans (f3.trans hr), q4.fr.trans f1, by rw [q4.len, f2, hs, ins_len]⟩, fun g hg => q6.block g (k5 g hg).1 (k5 g hg).2⟩
set_option maxRecDepth 100000 in
set_option maxHeartbeats 2000000 in
/-- THE LAW's FIRST LOOK at a list. -/
theorem speaks_any (W : World) : Calls Try.prog 22 #[] W fun e w' => e = .returned (.bool true) ∧ Below W.heap.size W w' := by
  go_enter Try.func22, Try.ntmps22
  go_wp2_with fail
  (with_reducible refine (TI.new _).mono ?_); rintro e w1 ⟨bl, b, rfl, h1⟩
  go_wp2_with fail
  (with_reducible refine (h1.after (p := 0) (i := 0) (by decide) rfl).mono ?_); rintro e w2 ⟨rfl, h2, -⟩
  have h2 : TI (fun _ => False) W bl b [0, 1] w2 := h2
  go_wp2_with fail
  (with_reducible refine (h2.after (p := 0) (i := 0) (by decide) rfl).mono ?_); rintro e w3 ⟨rfl, h3, -⟩
  have h3 : TI (fun _ => False) W bl b [0, 2, 1] w3 := h3
  clear h1 h2
  go_wp2_with fail
  (with_reducible refine (h3.less (p := 1) (q := 2) rfl rfl).mono ?_); rintro e w4 ⟨rfl, hb4⟩
  have h4 := h3.later hb4
  rw [show decide (1 < 2) = true from rfl]
  clear h3 hb4
  go_wp2_with fail
  (with_reducible refine (h4.less (p := 2) (q := 1) rfl rfl).mono ?_); rintro e w5 ⟨rfl, hb5⟩
  have h5 := h4.later hb5
  rw [show decide (2 < 1) = false from rfl]
  clear h4 hb5
  go_wp2_with fail
  (with_reducible refine h5.len.mono ?_); rintro e w6 ⟨rfl, hb6⟩
  have h6 := h5.later hb6
  rw [show (([0, 2, 1] : List Int).length : Int) = 3 from rfl]
  clear h5 hb6
  go_wp2_with fail
  go_ret
  exact ⟨rfl, h6.below⟩
end Go.Proofs.Ytbaepjjanjhliaa.ord
