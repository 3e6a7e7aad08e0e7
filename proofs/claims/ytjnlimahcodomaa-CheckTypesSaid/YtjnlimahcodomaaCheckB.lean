/- Samples of kinds, and what an operator makes of operands of some kinds; walked. -/
import Derived.Test.YtjnlimahcodomaaCheckA
import Derived.Test.YtjnlimahcodomaaAgCx
import Derived.Deep.RegionWith
import Derived.BigRegion
namespace Go.Proofs.Ytjnlimahcodomaa.ck
set_option linter.unusedVariables false
open Go.RowKit
open val (V null doV fitB notV negV ofB ofN ofS gB vv ag3 TV)
open ex (Er TE TQ of_fe plainP)
def sampV (k : Int) : V := if k = 1 then ofB true else if k = 2 then ofN 1 else if k = 3 then ofS ByteArray.empty else null
theorem sampV_k {k : Int} (h : 0 ≤ k ∧ k ≤ 3) : (sampV k).k = k := by
  rcases (by omega : k = 0 ∨ k = 1 ∨ k = 2 ∨ k = 3) with rfl | rfl | rfl | rfl <;> rfl
theorem sampV_good (k : Int) : val.Good (sampV k) := by
  unfold sampV
  split
  · exact good_ofB _
  · split
    · exact .inr (.inr (.inl ⟨rfl, rfl, by decide, by decide⟩))
    · split
      · exact .inr (.inr (.inr ⟨rfl, rfl, by decide⟩))
      · exact good_null
theorem do_err {op : Int} {a b : V} (h1 : 1 ≤ op ∧ op ≤ 14) : (doV op a b).2 = 5 ↔ fitB op a.k b.k = false := by
  unfold doV
  rw [if_neg (by omega)]
  by_cases hf : fitB op a.k b.k = false
  · rw [if_pos hf]; exact ⟨fun _ => hf, fun _ => rfl⟩
  · rw [if_neg hf]
    refine ⟨fun h => ?_, fun h => absurd h hf⟩
    exfalso
    revert h
    unfold val.countV
    repeat' split
    all_goals first | (intro h; cases h; done) | (dsimp only; intro h; cases h; done) | skip
    all_goals (rename_i hx; revert hx; (repeat' split) <;> simp)
theorem fd3 {W : World} {g : Nat} {T : TypeId} {a0 a1 a2 : Value} (h : Flds W g T [a0, a1, a2]) : W.cell? ⟨g, 0, none⟩ = some a0 ∧ W.cell? ⟨g, 1, none⟩ = some a1 ∧ W.cell? ⟨g, 2, none⟩ = some a2 ∧ W.frozen? ⟨g, 0, none⟩ = W.frozen? ⟨g, 0, none⟩ ∧ g < W.heap.size := ⟨h.cell 0, h.cell 1, h.cell 2, rfl, h.lt⟩
set_option maxRecDepth 100000 in
set_option maxHeartbeats 1000000 in
theorem sample_any (k : Int) (w : World) : Calls Try.prog 37 #[.int .i64 k] w fun en w' => en = .returned (vv (sampV k)) ∧ Below w.heap.size w w' := by
  obtain ⟨W1, hW1⟩ : ∃ W1, w.alloc (.cells #[.int .i64 0, .int .i64 0, .string (ByteArray.mk #[])] TV) = W1 := ⟨_, rfl⟩
  have hf : Flds W1 w.heap.size TV [.int .i64 0, .int .i64 0, .string (ByteArray.mk #[])] := by rw [← hW1]; exact Flds.new w _ _
  have hb1 : Below w.heap.size w W1 := by rw [← hW1]; exact (Below.refl _ _).alloc (Nat.le_refl _) _
  have HW1 := Lib.hid hW1
  have HF := Lib.hid hf
  have HB := Lib.hid hb1
  clear hW1 hf hb1
  have fin : ∀ (w2 : World), Below W1.heap.size W1 w2 → ∀ (k n : Int) (s : ByteArray), Flds (((w2.setCell ⟨w.heap.size, 0, none⟩ (.int .i64 k)).setCell ⟨w.heap.size, 1, none⟩ (.int .i64 n)).setCell ⟨w.heap.size, 2, none⟩ (.string s)) w.heap.size TV [.int .i64 k, .int .i64 n, .string s] ∧ Below w.heap.size w (((w2.setCell ⟨w.heap.size, 0, none⟩ (.int .i64 k)).setCell ⟨w.heap.size, 1, none⟩ (.int .i64 n)).setCell ⟨w.heap.size, 2, none⟩ (.string s)) := fun w2 hb2 k n s =>
    ⟨(((HF.out.later hb2).set 0 (.int .i64 k)).set 1 (.int .i64 n)).set 2 (.string s), (((HB.out.trans (hb2.mono HB.out.size)).setCell (Nat.le_refl _) _).setCell (Nat.le_refl _) _).setCell (Nat.le_refl _) _⟩
  have HFIN := Lib.hid fin
  clear fin
  have HZ := Lib.hid (fun (w2 : World) (hb2 : Below W1.heap.size W1 w2) => And.intro (fd3 (HF.out.later hb2)) (And.intro ((HF.out.later hb2).frozen 0) (And.intro ((HF.out.later hb2).frozen 1) ((HF.out.later hb2).frozen 2))))
  by_cases h1 : k = 1
  · subst h1
    go_enter Try.func37, Try.ntmps37
    go_upto_region 1 with fail
    rw [HW1.out]
    go_wp2_with (go_at_call 34; refine (val.ofBool_any true W1).mono ?_; rintro e w2 ⟨rfl, hb2⟩; obtain ⟨⟨y0, y1, y2, -, l0⟩, z0, z1, z2⟩ := HZ.out w2 hb2; have HB2 := Lib.hid hb2; clear hb2)
    obtain ⟨g1, g2⟩ := HFIN.out w2 HB2.out (ofB true).k (ofB true).n (ofB true).s
    generalize (((w2.setCell ⟨w.heap.size, 0, none⟩ (.int .i64 (ofB true).k)).setCell ⟨w.heap.size, 1, none⟩ (.int .i64 (ofB true).n)).setCell ⟨w.heap.size, 2, none⟩ (.string (ofB true).s)) = W9 at g1 g2 ⊢
    obtain ⟨c0, c1, c2, -, l1⟩ := fd3 g1
    refine bodyPost_ret (v := vv (sampV 1)) (by simp [results, Try.results37, go_sem, c0, c1, c2]; first | done | exact ⟨rfl, rfl, rfl⟩ | rfl) rfl ⟨rfl, g2⟩
  · by_cases h2 : k = 2
    · subst h2
      go_enter Try.func37, Try.ntmps37
      go_upto_region 1 with fail
      rw [HW1.out]
      go_wp2_with (go_at_call 19; refine (val.ofInt_any 1 W1).mono ?_; rintro e w2 ⟨rfl, hb2⟩; obtain ⟨⟨y0, y1, y2, -, l0⟩, z0, z1, z2⟩ := HZ.out w2 hb2; have HB2 := Lib.hid hb2; clear hb2)
      obtain ⟨g1, g2⟩ := HFIN.out w2 HB2.out 2 1 ByteArray.empty
      generalize (((w2.setCell ⟨w.heap.size, 0, none⟩ (.int .i64 2)).setCell ⟨w.heap.size, 1, none⟩ (.int .i64 1)).setCell ⟨w.heap.size, 2, none⟩ (.string ByteArray.empty)) = W9 at g1 g2 ⊢
      obtain ⟨c0, c1, c2, -, l1⟩ := fd3 g1
      refine bodyPost_ret (v := vv (sampV 2)) (by simp [results, Try.results37, go_sem, c0, c1, c2]; first | done | exact ⟨rfl, rfl, rfl⟩ | rfl) rfl ⟨rfl, g2⟩
    · by_cases h3 : k = 3
      · subst h3
        go_enter Try.func37, Try.ntmps37
        go_upto_region 1 with fail
        rw [HW1.out]
        go_wp2_with (go_at_call 20; refine (val.ofText_any _ W1).mono ?_; rintro e w2 ⟨rfl, hb2⟩; obtain ⟨⟨y0, y1, y2, -, l0⟩, z0, z1, z2⟩ := HZ.out w2 hb2; have HB2 := Lib.hid hb2; clear hb2)
        obtain ⟨g1, g2⟩ := HFIN.out w2 HB2.out 3 0 (ByteArray.mk #[])
        generalize (((w2.setCell ⟨w.heap.size, 0, none⟩ (.int .i64 3)).setCell ⟨w.heap.size, 1, none⟩ (.int .i64 0)).setCell ⟨w.heap.size, 2, none⟩ (.string (ByteArray.mk #[]))) = W9 at g1 g2 ⊢
        obtain ⟨c0, c1, c2, -, l1⟩ := fd3 g1
        refine bodyPost_ret (v := vv (sampV 3)) (by simp [results, Try.results37, go_sem, c0, c1, c2]; first | done | exact ⟨rfl, rfl, rfl⟩ | rfl) rfl ⟨rfl, g2⟩
      · have hs : sampV k = null := by unfold sampV; rw [if_neg h1, if_neg h2, if_neg h3]
        rw [hs]
        have b1 : (k == 1) = false := by simpa using h1
        have b2 : (k == 2) = false := by simpa using h2
        have b3 : (k == 3) = false := by simpa using h3
        obtain ⟨⟨y0, y1, y2, -, l0⟩, z0, z1, z2⟩ := HZ.out W1 (Below.refl _ _)
        clear hs h1 h2 h3
        go_enter Try.func37, Try.ntmps37
        go_upto_region 1 with fail
        rw [HW1.out]
        go_wp2_with fail
        obtain ⟨g1, g2⟩ := HFIN.out W1 (Below.refl _ _) 0 0 (ByteArray.mk #[])
        generalize (((W1.setCell ⟨w.heap.size, 0, none⟩ (.int .i64 0)).setCell ⟨w.heap.size, 1, none⟩ (.int .i64 0)).setCell ⟨w.heap.size, 2, none⟩ (.string (ByteArray.mk #[]))) = W9 at g1 g2 ⊢
        obtain ⟨c0, c1, c2, -, l1⟩ := fd3 g1
        refine bodyPost_ret (v := vv null) (by simp [results, Try.results37, go_sem, c0, c1, c2]; first | done | exact ⟨rfl, rfl, rfl⟩ | rfl) rfl ⟨rfl, g2⟩
theorem refsample_any (k : Int) (w : World) : Calls Try.prog 26 #[.int .i64 k] w fun en w' => en = .returned (ag3 k 0 ByteArray.empty) ∧ Below w.heap.size w w' := by
  go_enter Try.func26, Try.ntmps26
  go_wp2_with fail
  first
    | (go_ret; exact ⟨rfl, by first | exact Below.refl _ _ | exact (Below.refl _ _).alloc (Nat.le_refl _) _⟩)
    | (exact bodyPost_ret (v := ag3 _ _ _) (by simp [results, Try.results26, go_sem]; first | done | rfl) rfl ⟨rfl, (Below.refl _ _).alloc (Nat.le_refl _) _⟩)
end Go.Proofs.Ytjnlimahcodomaa.ck
