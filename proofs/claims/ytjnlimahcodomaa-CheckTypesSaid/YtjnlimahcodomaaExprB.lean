/- How deep an expression is: the program's and the document's, walked. -/
import Derived.Test.YtjnlimahcodomaaExprA
import Derived.Test.YtjnlimahcodomaaAgCx
import Derived.BigQuiet
import Derived.LoopTactic
namespace Go.Proofs.Ytjnlimahcodomaa.ex
set_option linter.unusedVariables false
open Go.RowKit
open val (V null)
theorem run_max_keep {P : Program} (ts : Array TypeId) (t : TypeId) (k k' : IntKind) (x y : Int) (w : World) : (Builtin.max_ ts t #[.int k x, .int k' y]).run P w = .ok (.int k (max x y)) w := by
  rw [run_max_int2]
  congr 2
  split <;> omega
attribute [local go_sem high] run_max_keep
/-- how deep the first parts are -/
theorem depthL_take {l : List Ex} {j : Nat} {x : Ex} (h : l[j]? = some x) : depthL (l.take (j + 1)) = max (depthL (l.take j)) x.depth := by
  rw [List.take_add_one, h]; exact depthL_snoc _ _
theorem depthL_take_le (l : List Ex) (j : Nat) : depthL (l.take j) ≤ depthL l := by
  induction l generalizing j with
  | nil => simp
  | cons a l ih => cases j with
    | zero => simp [depthL]
    | succ j => have := ih j; simp only [List.take_succ_cons, depthL]; omega
set_option maxRecDepth 100000 in
set_option maxHeartbeats 4000000 in
theorem rdepth_any : ∀ (d : Nat), d ≤ 1000 → ∀ (X : Nat → Prop) (e : Ex) (r : Er) (w : World), ExAt TQ X d w e r →
    Calls Try.prog 18 #[r.val] w fun en w' => en = .returned (.int .i64 (e.depth : Nat)) ∧ Below w.heap.size w w'
  | 0, _, _, _, _, _, h => h.elim
  | d + 1, hd, X, e, r, w, h => by
    have IH := Lib.hid (fun (e : Ex) (r : Er) (w : World) (h : ExAt TQ X d w e r) => rdepth_any d (by omega) X e r w h)
    have HD := Lib.hid h.depth
    obtain ⟨av, cv, us, hlv, hul, hrow, hch⟩ := h.parts
    obtain ⟨n, hn⟩ : ∃ n, e.l.length = n := ⟨_, rfl⟩
    rw [hn] at hlv hul hrow
    have HN := Lib.hid hn
    have HUL := Lib.hid hul
    have HR := Lib.hid hrow
    have HC := Lib.hid hch
    have HED : Hid (e.depth = depthL e.l + 1) := Lib.hid e.depth_eq
    have hsm : n ≤ 9223372036854775807 := by
      obtain ⟨-, ⟨-, h0⟩ | ⟨_, _, _, _, _, _, h1, h2, _⟩⟩ := hrow
      · omega
      · have : maxLen = 9223372036854775807 := rfl
        omega
    have hn0 : (0 : Int) ≤ (n : Int) := by omega
    have hn1 : (n : Int) ≤ 9223372036854775807 := by omega
    clear h hn hul hrow hch
    obtain ⟨rk, rop, rv, rtb, rnm, rlv⟩ := r
    dsimp only at hlv
    subst hlv
    unfold Er.val
    dsimp only
    go_enter Try.func18, Try.ntmps18
    go_wp2_with fail
    obtain ⟨W1, hW1⟩ : ∃ W1, w.alloc (.cells #[.int .i64 rk, .int .i64 rop, .int .i64 rv.k, .int .i64 rv.n, .string rv.s, .string rtb, .string rnm, .slice av n cv] TQ) = W1 := ⟨_, rfl⟩
    have hb1 : Below w.heap.size w W1 := by rw [← hW1]; exact (Below.refl _ _).alloc (Nat.le_refl _) _
    have hf1 : Flds W1 w.heap.size TQ [.int .i64 rk, .int .i64 rop, .int .i64 rv.k, .int .i64 rv.n, .string rv.s, .string rtb, .string rnm, .slice av n cv] := by rw [← hW1]; exact Flds.new w TQ _
    rw [hW1]
    clear hW1
    go_loopw [3, 4] (fun m i wr => ∃ j : Nat, i = .int .i64 (j : Int) ∧ j ≤ n ∧ m = .int .i64 ((depthL (e.l.take j) : Nat) + 1) ∧ Hid (Below w.heap.size w wr) ∧ Hid (Flds wr w.heap.size TQ [.int .i64 rk, .int .i64 rop, .int .i64 rv.k, .int .i64 rv.n, .string rv.s, .string rtb, .string rnm, .slice av n cv])) (fun _ i _ => n - (intOf i).toNat)
    case atStart => exact ⟨0, rfl, Nat.zero_le _, rfl, Lib.hid hb1, Lib.hid hf1⟩
    case round =>
      obtain ⟨j, rfl, hj, rfl, HB, HF1⟩ := hrel
      have q7 := HF1.out.cell 7
      have l7 := HF1.out.lt
      simp only [List.getElem?_cons_zero, List.getElem?_cons_succ] at q7
      have j0 : (0 : Int) ≤ (j : Int) := by omega
      obtain ⟨M, hM⟩ : ∃ M, depthL (e.l.take j) = M := ⟨_, rfl⟩
      rw [hM]
      have HM := Lib.hid hM
      clear hM
      by_cases hjn : j < n
      · have dj : (j : Int) < (n : Int) := by omega
        have hjl : j < e.l.length := by have := HN.out; omega
        have hju : j < us.length := by have := HUL.out; omega
        have hx := List.getElem?_eq_getElem hjl
        have hu := List.getElem?_eq_getElem hju
        generalize e.l[j] = x at hx
        generalize us[j] = u at hu
        have hex := (HC.out j x u hx hu).later HB.out
        obtain ⟨g, rfl, hg, c0, c1, c2, c3, c4, c5, c6, c7⟩ := part_cells (owns_below HR.out HB.out) hjn hu
        obtain ⟨d', rfl⟩ := hex.pos
        obtain ⟨au, cu, us', hul', -⟩ := hex.parts
        rw [hul'] at c7
        obtain ⟨uk, uop, uv, utb, unm, ulv⟩ := u
        dsimp only at hul' c0 c1 c2 c3 c4 c5 c6 c7
        subst hul'
        have HX := Lib.hid hex
        have HDT := Lib.hid (depthL_take hx)
        have hxd : x.depth ≤ d' + 1 := hex.depth
        have x0 : (0 : Int) ≤ (x.depth : Nat) := by omega
        have x1 : ((x.depth : Nat) : Int) ≤ 1000 := by omega
        have HIH := Lib.hid (fun (W : World) (hb : Below wr.heap.size wr W) => show Calls Try.prog 18 #[.agg #[.int .i64 uk, .int .i64 uop, .int .i64 uv.k, .int .i64 uv.n, .string uv.s, .string utb, .string unm, .slice au x.l.length cu]] W (fun en w' => en = .returned (.int .i64 (x.depth : Nat)) ∧ Below W.heap.size W w') from IH.out x ⟨uk, uop, uv, utb, unm, .slice au x.l.length cu⟩ W (HX.out.later hb))
        have HIW := Lib.hid (HIH.out _ (Below.refl wr.heap.size wr))
        have m0 : (0 : Int) ≤ (M : Int) := by omega
        have m1 : (M : Int) ≤ 1000 := by have h1 := depthL_take_le e.l j; have h2 := HED.out; have h3 := HD.out; have h4 := HM.out; omega
        clear hx hu hex hjl hju
        by_cases hge : x.depth ≥ M + 1
        · have dg : (M : Int) + 1 ≤ ((x.depth : Nat) : Int) := by omega
          go_wp2_with (go_at_call 18; refine HIW.out.mono ?_; rintro en w2 ⟨rfl, hb2⟩; have HB2 := Lib.hid hb2; clear hb2)
          go_roundw
          case rel => exact ⟨j + 1, by go_num, by omega, by rw [HDT.out, HM.out]; congr 1; omega, Lib.hid (HB.out.trans (HB2.out.mono HB.out.size)), Lib.hid (HF1.out.later HB2.out)⟩
          case measure => simp [intOf]; omega
        · have dg : ¬ (M : Int) + 1 ≤ ((x.depth : Nat) : Int) := by omega
          go_wp2_with (go_at_call 18; refine HIW.out.mono ?_; rintro en w2 ⟨rfl, hb2⟩; have HB2 := Lib.hid hb2; clear hb2)
          go_roundw
          case rel => exact ⟨j + 1, by go_num, by omega, by rw [HDT.out, HM.out]; congr 1; omega, Lib.hid (HB.out.trans (HB2.out.mono HB.out.size)), Lib.hid (HF1.out.later HB2.out)⟩
          case measure => simp [intOf]; omega
      · have dj : ¬ (j : Int) < (n : Int) := by omega
        have hjn' : j = n := by omega
        have HF : Hid (e.depth = M + 1) := Lib.hid (by rw [HED.out, ← HM.out, List.take_of_length_le (by have := HN.out; omega)])
        have m0 : (0 : Int) ≤ (M : Int) := by omega
        have m1 : (M : Int) ≤ 1000 := by have := HF.out; have := HD.out; omega
        go_wp2_with fail
        go_ret
        exact ⟨by rw [HF.out]; rfl, HB.out⟩
end Go.Proofs.Ytjnlimahcodomaa.ex
