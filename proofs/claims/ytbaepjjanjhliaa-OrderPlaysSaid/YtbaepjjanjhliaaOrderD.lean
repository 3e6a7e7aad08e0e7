/- The list of stamps: Delete, walked; After, Delete, All of no list or of no stamp. -/
import Derived.Test.YtbaepjjanjhliaaOrderR
import Derived.Test.YtbaepjjanjhliaaOrderN
import Derived.Test.YtbaepjjanjhliaaRng
namespace Go.Proofs.Ytbaepjjanjhliaa.ord
set_option linter.unusedVariables false
open Go.RowKit Go.Shelf arK
attribute [local go_sem] Oper.semAt_some
variable {own : Nat → Prop} {bl b : Nat} {s s' : Ar Lk} {w w' : World}

theorem LI.free' (h : LI own bl b s w) (i : Int) : Calls Try.prog 53 #[.pointer (some ⟨b, 0, none⟩), .int .i64 i] w fun e w' => e = .returned (.bool (s.has i)) ∧ LI (ownNew own w w') bl b (if s.has i then s.free Lk.zero i else s) w' ∧ Only own w w' :=
  (free_any own b s w h.is i).mono fun e w' ⟨he, h1, h2⟩ => ⟨he, h.step' h1 h2, h2⟩
theorem delete_zero (p : Option Addr) (w : World) : Calls Try.prog 26 #[.pointer p, .int .i64 0] w fun e w' => e = .returned (.bool false) ∧ Below w.heap.size w w' := by
  go_enter Try.func26, Try.ntmps26
  go_wp2
  go_ret
  exact ⟨rfl, Below.refl _ _⟩
theorem delete_nil (i : Int) (h0 : i ≠ 0) (w : World) : Calls Try.prog 26 #[.pointer none, .int .i64 i] w fun e w' => e = .returned (.bool false) ∧ Below w.heap.size w w' := by
  have q : (i == 0) = false := by simpa using h0
  have H1 := Lib.hid (has_nil i w)
  go_enter Try.func26, Try.ntmps26
  go_wp2_with fail
  (with_reducible refine H1.out.mono ?_); rintro e w1 ⟨rfl, hb1⟩
  go_wp2
  go_ret
  exact ⟨rfl, hb1⟩
theorem delete_no (h : LI own bl b s w) (i : Int) (h0 : i ≠ 0) (hs : s.has i = false) : Calls Try.prog 26 #[.pointer (some ⟨bl, 0, none⟩), .int .i64 i] w fun e w' => e = .returned (.bool false) ∧ Below w.heap.size w w' := by
  have q : (i == 0) = false := by simpa using h0
  have H1 := has_l h i
  rw [hs] at H1
  have H1 := Lib.hid H1
  clear h
  go_enter Try.func26, Try.ntmps26
  go_wp2_with fail
  (with_reducible refine H1.out.mono ?_); rintro e w1 ⟨rfl, hb1⟩
  go_wp2
  go_ret
  exact ⟨rfl, hb1⟩
set_option maxRecDepth 100000 in
set_option maxHeartbeats 2000000 in
theorem delete_yes (h : LI own bl b s w) (i : Int) (h0 : i ≠ 0) (hs : s.has i = true) : Calls Try.prog 26 #[.pointer (some ⟨bl, 0, none⟩), .int .i64 i] w fun e w' =>
    e = .returned (.bool true) ∧ LI (ownNew own w w') bl b ((joinF s (getAt s i).p (getAt s i).n).free Lk.zero i) w' ∧ Only own w w' := by
  have q : (i == 0) = false := by simpa using h0
  have H1 := has_l h i
  rw [hs] at H1
  have H1 := Lib.hid H1
  have HI := Lib.hid h
  have HG := Lib.hid (fun W hb => LI.get (w := W) (h.later hb) i)
  have HC := Lib.hid (fun W hb => LI.cell (w := W) (h.later hb))
  have HJ := Lib.hid (fun W hb a c => join_l (w := W) (h.later hb) a c)
  have hi : (joinF s (getAt s i).p (getAt s i).n).has i = true := by rw [joinF_has]; exact hs
  have HH := Lib.hid hi
  rw [hs] at HG
  clear h hi
  generalize getAt s i = x at *
  go_enter Try.func26, Try.ntmps26
  go_wp2_with fail
  (with_reducible refine H1.out.mono ?_); rintro e w1 ⟨rfl, hb1⟩
  have c1 := HC.out _ hb1
  go_wp2_with fail
  (with_reducible refine (HG.out _ hb1).mono ?_); rintro e w2 ⟨rfl, hb2⟩
  have hb2 := after hb1 hb2 hb1.size
  have HB2 := Lib.hid (hb2.alloc hb2.size (.cells #[.int .i64 x.p, .int .i64 x.n, .int .i64 x.t] TL))
  clear hb1 c1
  go_wp2_with fail
  (with_reducible refine (HJ.out _ HB2.out x.p x.n).mono ?_); rintro e w3 ⟨⟨v3, rfl⟩, hL3, hO3⟩
  have c3 := hL3.cell
  have HF := hL3.free' i
  rw [HH.out, if_pos rfl] at HF
  have HF := Lib.hid HF
  have HO3 := Lib.hid ((Only.of_below HB2.out).trans hO3 (fun _ _ h => h))
  have hz := hO3.size
  clear hL3 hO3
  go_wp2_with fail
  (with_reducible refine HF.out.mono ?_); rintro e w4 ⟨rfl, hL4, hO4⟩
  have HL4 := Lib.hid hL4; have HO4 := Lib.hid hO4
  clear hL4 hO4
  go_wp2_with fail
  go_ret
  have z0 := HI.out.lt
  have z3 := HO3.out.size
  have z4 := HO4.out.size
  exact ⟨rfl, HL4.out.widen (own' := ownNew own w w4) (fun k hk => hk.elim .inl (fun h => .inr ⟨by omega, h.2⟩)) (fun k hk => hk.elim (fun h => by have := HI.out.is.lt k h; omega) (fun h => h.2)) (fun h => h.elim HI.out.nown (fun h => by omega)), HO3.out.trans HO4.out (fun _ _ h => h)⟩
/-- All of no list. -/
theorem all_nil (w : World) :
    Calls Try.prog 33 #[.pointer none] w fun e w' => e = .returned (.func (.func 58) #[] #[.pointer (some ⟨w.heap.size, 0, none⟩)]) ∧ w' = w.alloc (.cells #[.pointer none] 49) := by
  go_enter Try.func33, Try.ntmps33
  go_wp2
  go_ret
  exact ⟨rfl, rfl⟩
theorem all1_nil (n : Nat) (l Bs : Nat) (Jx J : Nat → World → Prop) (W : World) (hBs : W.cell? ⟨Bs, 0, none⟩ = some (.pointer none)) (h0 : J 0 W) :
    CallsIn Fence.wide n Try.prog 58 #[.func (.yield l) #[] #[], .pointer (some ⟨Bs, 0, none⟩)] W fun e W' => (∃ v, e = .returned v) ∧ (J 0 W' ∨ ∃ k, k ≤ 0 ∧ Jx k W') := by
  refine callsIn_of_wp Try.func58 rfl trivial ?_ rfl
  simp only [Try.ntmps58, List.size_toArray, List.length_cons, List.length_nil, Nat.reduceAdd, Nat.reduceSub, Array.replicate_succ, Array.replicate_zero, List.push_toArray, List.append_toArray, List.nil_append, List.cons_append]
  gi_wp2
  exact bodyPost_ret (results_none rfl _ _ _) rfl ⟨⟨_, rfl⟩, .inl h0⟩
theorem all_nil_idx (n : Nat) (Bs : Nat) (args : Nat → Array Value) (Kp : World → World → Prop) (w : World) (hBs : w.cell? ⟨Bs, 0, none⟩ = some (.pointer none)) :
    SeqIdx Fence.wide n Try.prog 58 #[.pointer (some ⟨Bs, 0, none⟩)] args Kp 0 w :=
  fun l J Jx W hW hJ hJx hY h0 => all1_nil n l Bs Jx J W (cell_later hW hBs) h0
theorem after_nil (i : Int) (w : World) : Calls Try.prog 30 #[.pointer none, .int .i64 i] w fun e w' => e = .returned (.tuple #[.int .i64 0, .bool false]) ∧ Below w.heap.size w w' := by
  have H1 := Lib.hid (has_nil i)
  go_enter Try.func30, Try.ntmps30
  go_wp2_with fail
  (with_reducible refine (H1.out _).mono ?_); rintro e w1 ⟨rfl, hb1⟩
  go_wp2
  go_ret2
  exact ⟨rfl, hb1⟩
theorem after_no (h : LI own bl b s w) (i : Int) (hs : s.has i = false) : Calls Try.prog 30 #[.pointer (some ⟨bl, 0, none⟩), .int .i64 i] w fun e w' => e = .returned (.tuple #[.int .i64 0, .bool false]) ∧ Below w.heap.size w w' := by
  have c := h.cell
  have H1 := has_l h i
  rw [hs] at H1
  have H1 := Lib.hid H1
  clear h
  go_enter Try.func30, Try.ntmps30
  go_wp2_with fail
  (with_reducible refine H1.out.mono ?_); rintro e w1 ⟨rfl, hb1⟩
  go_wp2
  go_ret2
  exact ⟨rfl, hb1⟩
end Go.Proofs.Ytbaepjjanjhliaa.ord
