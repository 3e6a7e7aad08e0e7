/- pack.All: the iterator over packed texts, for every loop body. -/
import Derived.Test.YtdobihnlegfkaaaSplitW
import Derived.Test.YtdobihnlegfkaaaRng
namespace Go.Proofs.Ytdobihnlegfkaaa
set_option linter.unusedVariables false
open Go.RowKit Go.Shelf
attribute [local go_sem] Oper.semAt_some

/-- what is yielded: a place, a text -/
def allArgs (s : ByteArray) (k : Nat) : Array Value := #[.int .i64 (k : Int), .string ((splitS s).1[k]?.getD ByteArray.empty)]

set_option maxHeartbeats 1000000 in
theorem all_in (n : Nat) (s : ByteArray) (w : World) :
    CallsIn Fence.wide n Try.prog 14 #[.string s] w fun e w' => e = .returned (.func (.func 38) #[] #[.pointer (some ⟨w.heap.size, 0, none⟩)]) ∧ w' = w.alloc (.cells #[.string s] 9) := by
  refine callsIn_of_wp Try.func14 rfl trivial ?_ rfl
  simp only [Try.ntmps14, List.size_toArray, List.length_cons, List.length_nil, Nat.reduceAdd, Nat.reduceSub, Array.replicate_succ, Array.replicate_zero, List.push_toArray, List.append_toArray, List.nil_append, List.cons_append]
  gi_wp2
  go_ret
  exact ⟨rfl, rfl⟩

theorem SplitAt.item {s : ByteArray} {acc : List ByteArray} {r : ByteArray} (h : SplitAt s acc r) (h1 : 4 ≤ r.size) (h2 : 4 + cutN r ≤ r.size) :
    acc.length < (splitS s).1.length ∧ (splitS s).1[acc.length]?.getD ByteArray.empty = r.extract 4 (4 + cutN r) := by
  rw [h.1, splitS_step r h1 h2]; simp

set_option maxRecDepth 100000 in
set_option maxHeartbeats 2000000 in
theorem all1_in (n : Nat) (hn : 1 ≤ n) (l Bs : Nat) (s : ByteArray) (hs : s.size ≤ 1099511627776) (J Jx : Nat → World → Prop) (W : World)
    (hJ : AbidesFrom W.heap.size J)
    (hY : ∀ k W1, k < (splitS s).1.length → J k W1 → YieldAt Fence.wide (n - 1) Try.prog l (allArgs s k) W1 fun e W' =>
      (e = .returned (.bool true) ∧ J (k + 1) W' ∧ True) ∨ (e = .returned (.bool false) ∧ Jx (k + 1) W'))
    (hBs : W.cell? ⟨Bs, 0, none⟩ = some (.string s)) (h0 : J 0 W) :
    CallsIn Fence.wide n Try.prog 38 #[.func (.yield l) #[] #[], .pointer (some ⟨Bs, 0, none⟩)] W fun e W' => (∃ v, e = .returned v) ∧
      (J (splitS s).1.length W' ∨ ∃ k, k ≤ (splitS s).1.length ∧ Jx k W') := by
  refine callsIn_of_wp Try.func38 rfl trivial ?_ rfl
  simp only [Try.ntmps38, List.size_toArray, List.length_cons, List.length_nil, Nat.reduceAdd, Nat.reduceSub, Array.replicate_succ, Array.replicate_zero, List.push_toArray, List.append_toArray, List.nil_append, List.cons_append]
  gi_wp2
  gi_loopw [3, 4] (fun r i wr => ∃ acc : List ByteArray, ∃ R : ByteArray, r = .string R ∧ i = .int .i64 (acc.length : Int) ∧ SplitAt s acc R ∧ J acc.length wr) (fun r _ _ => match r with | .string R => R.size | _ => 0)
  case atStart => exact ⟨[], s, rfl, rfl, ⟨by simp, by simp⟩, h0⟩
  case round =>
    obtain ⟨acc, R, rfl, rfl, hA, hJs⟩ := hrel
    have hle := hA.2
    by_cases h1 : R.size < 4 ∨ R.size < 4 + cutN R
    · have hcut : Calls Try.prog 37 #[.string R] wr fun e w' => e = .returned (.tuple #[.string ⟨#[]⟩, .string ⟨#[]⟩, .bool false]) ∧ Below wr.heap.size wr w' := by
        by_cases h4 : R.size < 4
        · exact cut_short R wr h4
        · exact cut_long R wr (by omega) (by omega) (by omega)
      have HC := Lib.hid hcut
      have HA := Lib.hid hA; have HJ := Lib.hid hJ; have HY := Lib.hid hY; have HS := Lib.hid h1
      clear hcut hA h1 hJ hY
      gi_wp2_with (refine ⟨trivial, ?_⟩; gi_at_call 37; refine (callsIn_wide.2 HC.out).mono ?_; rintro e w1 ⟨rfl, hb1⟩)
      refine ⟨fun _ h => (by cases h), ?_⟩
      gi_wp2
      refine bodyPost_ret (results_none rfl _ _ _) rfl ?_
      have e : (splitS s).1 = acc := by rw [HA.out.1, splitS_stop _ HS.out]; simp
      exact ⟨⟨_, rfl⟩, .inl (by rw [e]; exact HJ.out _ _ _ none hJs (grown_of_below hb1) (fun r h => by cases h))⟩
    · have hst := hA.step (by omega) (by omega)
      have hit := hA.item (by omega) (by omega)
      have hzl : (R.extract (4 + cutN R) R.size).size ≤ R.size - 4 := by rw [ByteArray.size_extract]; omega
      have hR4 : 4 ≤ R.size := by omega
      have hC := cut_yes R wr (by omega) (by omega) (by omega)
      have HC := Lib.hid hC
      have HA := Lib.hid hst; have HJ := Lib.hid hJ; have HY := Lib.hid hY; have HL := Lib.hid hit
      clear hA h1 hJ hY hst hit hC
      gi_wp2_with (refine ⟨trivial, ?_⟩; gi_at_call 37; refine (callsIn_wide.2 HC.out).mono ?_; rintro e w1 ⟨rfl, hb1⟩; have hJ1 := HJ.out _ _ _ none hJs (grown_of_below hb1) (fun r h => by cases h); obtain ⟨fn, tmps, assign, body, hy, hR⟩ := HY.out acc.length w1 HL.out.1 hJ1; rw [allArgs, HL.out.2] at hy)
      have HR := Lib.hid hR
      refine HR.out.mono ?_
      rintro e W3 (⟨rfl, hJ3, -⟩ | ⟨rfl, hJx3⟩)
      · gi_wp2
        go_roundw
        case rel => exact ⟨acc ++ [R.extract 4 (4 + cutN R)], _, rfl, by simp, HA.out, by simpa using hJ3⟩
        case measure => simp; omega
      · gi_wp2
        refine bodyPost_ret (results_none rfl _ _ _) rfl ?_
        exact ⟨⟨_, rfl⟩, .inr ⟨_, HL.out.1, hJx3⟩⟩

/-- pack.All of a text, in the words of a range over a function. -/
theorem all_idx (n : Nat) (hn : 1 ≤ n) (Bs : Nat) (s : ByteArray) (hs : s.size ≤ 1099511627776) (w : World) (hBs : w.cell? ⟨Bs, 0, none⟩ = some (.string s)) :
    SeqIdx Fence.wide n Try.prog 38 #[.pointer (some ⟨Bs, 0, none⟩)] (allArgs s) (fun _ _ => True) (splitS s).1.length w :=
  fun l J Jx W hW hJ hJx hY h0 => all1_in n hn l Bs s hs J Jx W hJ hY (cell_later hW hBs) h0

end Go.Proofs.Ytdobihnlegfkaaa
