/- The document's Good; the law's sum. -/
import Derived.Test.YtjnlimahcodomaaExprN
import Derived.Test.YtjnlimahcodomaaJBC
import Derived.Test.YtjnlimahcodomaaExprO
import Derived.Test.YtjnlimahcodomaaExprQ
import Derived.OwnWalk
import Derived.BigQuiet
import Derived.Lib.ItoaLen
namespace Go.Proofs.Ytjnlimahcodomaa.ex
set_option linter.unusedVariables false
open Go.RowKit
open val (V null veq6 gB ag3)
attribute [local go_sem] Oper.semAt_some
theorem goodB_doc (e : Ex) : goodB 20 e true = (decide (e.depth ≤ 20) && mayB e false) := by
  rw [Bool.eq_iff_iff, Bool.and_eq_true, decide_eq_true_eq]
  unfold goodB mayB
  rw [pB_iff, pB_iff]
  exact goodE_iff e 20 true
set_option maxRecDepth 100000 in
set_option maxHeartbeats 4000000 in
theorem rgood_any {d : Nat} (hd : d ≤ 1000) {X : Nat → Prop} {e : Ex} {r : Er} {w : World} (hsl : e.slim) (hft : Fit e) (h : ExAt TQ X d w e r) :
    Calls Try.prog 7 #[r.val] w fun en w' => en = .returned (.bool (goodB 20 e true)) ∧ Below w.heap.size w w' := by
  have HD := Lib.hid (fun (W : World) (hb : Below w.heap.size w W) => rdepth_any d hd X e r W (h.later hb))
  have HM := Lib.hid (fun (W : World) (hb : Below w.heap.size w W) => may_any d hd X e r W false hsl hft (h.later hb))
  have hdp := h.depth
  have HG := Lib.hid (goodB_doc e)
  obtain ⟨d', rfl⟩ := h.pos
  obtain ⟨av, cv, us, hlv, -⟩ := h.parts
  obtain ⟨rk, rop, rv, rtb, rnm, rlv⟩ := r
  dsimp only at hlv
  subst hlv
  obtain ⟨D, hD⟩ : ∃ D : Int, ((e.depth : Nat) : Int) = D := ⟨_, rfl⟩
  have d0 : 0 ≤ D := by omega
  have d1 : D ≤ 1000 := by omega
  obtain ⟨M, hM⟩ : ∃ M, mayB e false = M := ⟨_, rfl⟩
  have hb0 : Below w.heap.size w (w.alloc (.cells #[.int .i64 rk, .int .i64 rop, .int .i64 rv.k, .int .i64 rv.n, .string rv.s, .string rtb, .string rnm, .slice av e.l.length cv] TQ)) := (Below.refl _ _).alloc (Nat.le_refl _) _
  have hfe : Flds (w.alloc (.cells #[.int .i64 rk, .int .i64 rop, .int .i64 rv.k, .int .i64 rv.n, .string rv.s, .string rtb, .string rnm, .slice av e.l.length cv] TQ)) w.heap.size TQ [.int .i64 rk, .int .i64 rop, .int .i64 rv.k, .int .i64 rv.n, .string rv.s, .string rtb, .string rnm, .slice av e.l.length cv] := Flds.new w TQ _
  obtain ⟨W1, hW1⟩ : ∃ W1, w.alloc (.cells #[.int .i64 rk, .int .i64 rop, .int .i64 rv.k, .int .i64 rv.n, .string rv.s, .string rtb, .string rnm, .slice av e.l.length cv] TQ) = W1 := ⟨_, rfl⟩
  rw [hW1] at hb0 hfe
  have hdd := HD.out W1 hb0
  rw [hD] at hdd
  rw [hM] at HM
  unfold Er.val at hdd HM ⊢
  dsimp only at hdd HM ⊢
  have HDD := Lib.hid hdd
  have HB0 := Lib.hid hb0; have HFE := Lib.hid hfe; have HW1 := Lib.hid hW1
  have HDE := Lib.hid hD; have HME := Lib.hid hM
  clear hdd HD hb0 hfe hW1 h hsl hft hdp hD hM
  go_enter Try.func7, Try.ntmps7
  go_upto_region 1 with fail
  rw [HW1.out]
  obtain ⟨q0, q1, q2, q3, q4, q5, q6, q7, l1⟩ := of_fe HFE.out
  by_cases hle : D ≤ 20
  · have HV : Hid (goodB 20 e true = M) := Lib.hid (by rw [HG.out, HME.out, decide_eq_true (show e.depth ≤ 20 by have := HDE.out; omega)]; rfl)
    go_wp2_with (first
      | (go_at_call 18; refine HDD.out.mono ?_; rintro en w5 ⟨rfl, hb5⟩; have HB5 := Lib.hid (HB0.out.trans (hb5.mono HB0.out.size)); obtain ⟨e0, e1, e2, e3, e4, e5, e6, e7, l2⟩ := of_fe (HFE.out.later hb5); clear hb5)
      | (go_at_call 21; refine (HM.out _ HB5.out).mono ?_; rintro en w6 ⟨rfl, hb6⟩; have HB6 := Lib.hid (HB5.out.trans (hb6.mono HB5.out.size)); clear hb6))
    go_ret
    exact ⟨by first | (rw [HV.out]; done) | (rw [HV.out]; rfl), HB6.out⟩
  · have HV : Hid (goodB 20 e true = false) := Lib.hid (by rw [HG.out, decide_eq_false (show ¬ e.depth ≤ 20 by have := HDE.out; omega)]; rfl)
    go_wp2_with (go_at_call 18; refine HDD.out.mono ?_; rintro en w5 ⟨rfl, hb5⟩; have HB5 := Lib.hid (HB0.out.trans (hb5.mono HB0.out.size)); clear hb5)
    go_ret
    exact ⟨by first | (rw [HV.out]; done) | (rw [HV.out]; rfl), HB5.out⟩
end Go.Proofs.Ytjnlimahcodomaa.ex
