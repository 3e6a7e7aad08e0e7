/- A value's bytes in its row's key, walked. -/
import Derived.Test.YtmbafcfoboknkaaRowP
import Derived.Test.YtmbafcfoboknkaaValueH
import Derived.Test.YtmbafcfoboknkaaAgS
import Derived.Test.YtmbafcfoboknkaaOnly
import Derived.Deep.RegionHeld3
namespace Go.Proofs.Ytmbafcfoboknkaa.val
set_option linter.unusedVariables false
open Go.RowKit
attribute [local go_sem] ag.upon_value ag.upon_skip ag.upon_enter ags.upon_value ags.upon_skip ags.upon_enter ags.uponS_skip
attribute [local go_sem] Oper.semAt_some
theorem cvr1 (w : World) (o : Go.Obj) (x : Int) (T : TypeId) :
    (convert 23 9 (.slice (some ⟨w.heap.size + 1, 0, none⟩) 1 1)).run Try.prog ((w.alloc o).alloc (.cells #[.int .u8 x] T)) = .ok (.string (strOfNums [x])) ((w.alloc o).alloc (.cells #[.int .u8 x] T)) := by
  have h := run_convert1 (w.alloc o) x T
  rwa [World.size_alloc] at h
theorem cvr2 (w : World) (o o' : Go.Obj) (x : Int) (T : TypeId) :
    (convert 23 9 (.slice (some ⟨w.heap.size + 1 + 1, 0, none⟩) 1 1)).run Try.prog (((w.alloc o).alloc o').alloc (.cells #[.int .u8 x] T)) = .ok (.string (strOfNums [x])) (((w.alloc o).alloc o').alloc (.cells #[.int .u8 x] T)) := by
  have h := cvr1 (w.alloc o) o' x T
  rwa [World.size_alloc] at h
theorem str_cat (a : List UInt8) (s : ByteArray) : (⟨a.toArray⟩ : ByteArray) ++ s = ⟨(a ++ s.data.toList).toArray⟩ := by
  apply bytes_data; simp
set_option maxRecDepth 100000 in
set_option maxHeartbeats 1000000 in
theorem encode_0 (n : Int) (s : ByteArray) (W : World) : Calls Try.prog 29 #[ag3 0 n s] W fun e w' => e = .returned (.string (encS ⟨0, n, s⟩)) ∧ Below W.heap.size W w' := by
  have hcv := cvr1
  have hcv2 := cvr2
  go_enter Try.func29, Try.ntmps29
  go_wp2
  go_ret
  exact ⟨ret_str rfl, below_alloc2 _ _ _⟩
set_option maxRecDepth 100000 in
set_option maxHeartbeats 1000000 in
theorem encode_1 (n : Int) (s : ByteArray) (hn : n = 0 ∨ n = 1) (W : World) : Calls Try.prog 29 #[ag3 1 n s] W fun e w' => e = .returned (.string (encS ⟨1, n, s⟩)) ∧ Below W.heap.size W w' := by
  have hcv := cvr1
  have hcv2 := cvr2
  rcases hn with rfl | rfl
  all_goals
    go_enter Try.func29, Try.ntmps29
    go_wp2
    go_ret
    exact ⟨ret_str rfl, (below_alloc2 _ _ _).alloc (by simp; omega) _⟩
set_option maxRecDepth 100000 in
set_option maxHeartbeats 1000000 in
theorem encode_2 (n : Int) (s : ByteArray) (hn : -9223372036854775808 ≤ n ∧ n ≤ 9223372036854775807) (W : World) : Calls Try.prog 29 #[ag3 2 n s] W fun e w' => e = .returned (.string (encS ⟨2, n, s⟩)) ∧ Below W.heap.size W w' := by
  have hcv := cvr1
  have hcv2 := cvr2
  go_enter Try.func29, Try.ntmps29
  go_wp2_with (first | (go_at_call 46; ((with_reducible refine (packInt_any _ hn _).mono ?_); rintro e w1 ⟨rfl, hb1⟩; have hB1 : Below W.heap.size W w1 := after (by (repeat' (first | assumption | exact Below.refl _ _ | apply Below.setCell | apply Below.alloc)); all_goals (first | omega | (simp; omega) | (simp; done))) hb1; obtain ⟨hc1, hf1⟩ := bcell hb1; have hz1 := hb1.size; (try simp at hz1); (try simp only [World.size_alloc] at hc1 hf1); have hy0 : W.heap.size < w1.heap.size := (by omega); have hy1 : W.heap.size + 1 < w1.heap.size := (by omega))))
  go_ret
  exact ⟨ret_str (str_cat _ _), hB1⟩
set_option maxRecDepth 100000 in
set_option maxHeartbeats 1000000 in
theorem encode_3 (n : Int) (s : ByteArray) (hs : s.size ≤ 64) (W : World) : Calls Try.prog 29 #[ag3 3 n s] W fun e w' => e = .returned (.string (encS ⟨3, n, s⟩)) ∧ Below W.heap.size W w' := by
  have hl : ¬ 9223372036854775807 < (strOfNums [3]).size + s.size := by
    have e : (strOfNums [3]).size = 1 := rfl
    rw [e]; omega
  have hcv := cvr1
  have hcv2 := cvr2
  go_enter Try.func29, Try.ntmps29
  go_wp2
  go_ret
  exact ⟨ret_str (str_cat _ _), below_alloc2 _ _ _⟩
theorem encode_any (k n : Int) (s : ByteArray) (hv : Good ⟨k, n, s⟩) (W : World) : Calls Try.prog 29 #[ag3 k n s] W fun e w' => e = .returned (.string (encS ⟨k, n, s⟩)) ∧ Below W.heap.size W w' := by
  unfold Good at hv
  dsimp only at hv
  rcases hv with ⟨rfl, -, -⟩ | ⟨rfl, h, -⟩ | ⟨rfl, -, h⟩ | ⟨rfl, -, h⟩
  · exact encode_0 n s W
  · exact encode_1 n s h W
  · exact encode_2 n s h W
  · exact encode_3 n s h W
end Go.Proofs.Ytmbafcfoboknkaa.val
