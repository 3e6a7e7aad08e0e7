/- The expression of a list of parts, as the law builds it; walked. -/
import Derived.Test.YtjnlimahcodomaaExprHJ
import Derived.StillTailTactics
import Derived.Deep.CutBlock
import Derived.BigRegion
import Derived.Test.YtjnlimahcodomaaExprOU
import Derived.Deep.RegionWith
namespace Go.Proofs.Ytjnlimahcodomaa.ex
set_option linter.unusedVariables false
open Go.RowKit
open val (V null veq6)
attribute [local go_sem] Oper.semAt_some
attribute [local go_sem high] run_min_keep
/-- a built tree and the place behind it -/
def BuiltPost (ps : List Pt) (f a : Nat) (w : World) (en : Ending) (w' : World) : Prop := ∃ r : Er, en = .returned (.tuple #[r.val, .int .i64 ((builtF ps f a).2 : Nat)]) ∧ ExAt TQ (fun b => w.heap.size ≤ b) (f + 1) w' (builtF ps f a).1 r ∧ Below w.heap.size w w'
set_option maxRecDepth 100000 in
set_option maxHeartbeats 4000000 in
theorem built_leaf (n : Nat) (hn40 : n ≤ 40) (av : Option Addr) (cap : Nat) (a : Nat) (D : Int) (hD0 : 0 ≤ D) (hD1 : D ≤ 25) (ha : a ≤ 1000) (h : n ≤ a ∨ D = 25) (w : World) :
    Calls Try.prog 6 #[.slice av n cap, .int .i64 (a : Nat), .int .i64 D] w (fun en w' => ∃ r : Er, en = .returned (.tuple #[r.val, .int .i64 ((a : Int) + 1)]) ∧ ExAt TQ (fun b => w.heap.size ≤ b) 1 w' leaf1 r ∧ Below w.heap.size w w') := by
  have a0 : (0 : Int) ≤ (a : Int) := by omega
  have a1 : (a : Int) ≤ 1000 := by omega
  have n0 : (0 : Int) ≤ (n : Int) := by omega
  have n1 : (n : Int) ≤ 40 := by omega
  by_cases h1 : n ≤ a
  · have d1 : (n : Int) ≤ (a : Int) := by omega
    clear h
    go_enter Try.func6, Try.ntmps6
    go_upto_region 2 with fail
    obtain ⟨W1, hW1⟩ : ∃ W1, w.alloc (.cells #[.int .i64 0, .int .i64 0, .int .i64 0, .int .i64 0, .string (ByteArray.mk #[]), .string (ByteArray.mk #[]), .string (ByteArray.mk #[]), .slice none 0 0] TQ) = W1 := ⟨_, rfl⟩
    obtain ⟨g0, hg0⟩ : ∃ g0, w.heap.size = g0 := ⟨_, rfl⟩
    have hF1 : Flds W1 g0 TQ [.int .i64 0, .int .i64 0, .int .i64 0, .int .i64 0, .string (ByteArray.mk #[]), .string (ByteArray.mk #[]), .string (ByteArray.mk #[]), .slice none 0 0] := by rw [← hW1, ← hg0]; exact Flds.new w TQ _
    have hb1 : Below w.heap.size w W1 := by rw [← hW1]; exact (Below.refl _ _).alloc (Nat.le_refl _) _
    rw [hW1, hg0]
    have HG0 := Lib.hid hg0
    clear hW1 hg0
    have k0 := hF1.cell 0; have z0 := hF1.frozen 0; have k1 := hF1.cell 1; have z1 := hF1.frozen 1; have k2 := hF1.cell 2; have z2 := hF1.frozen 2; have k3 := hF1.cell 3; have z3 := hF1.frozen 3; have k4 := hF1.cell 4; have z4 := hF1.frozen 4; have k5 := hF1.cell 5; have z5 := hF1.frozen 5; have k6 := hF1.cell 6; have z6 := hF1.frozen 6; have k7 := hF1.cell 7; have z7 := hF1.frozen 7
    have l0 := hF1.lt
    simp only [List.getElem?_cons_zero, List.getElem?_cons_succ] at k0 k1 k2 k3 k4 k5 k6 k7
    have hfs := ((((((((hF1.set 0 (.int .i64 1)).set 1 (.int .i64 0)).set 2 (.int .i64 0)).set 3 (.int .i64 0)).set 4 (.string (ByteArray.mk #[]))).set 5 (.string (ByteArray.mk #[]))).set 6 (.string (ByteArray.mk #[]))).set 7 (.slice none 0 0))
    have hgw : W1.grownBy ((((((((W1.setCell ⟨g0, 0, none⟩ (.int .i64 1)).setCell ⟨g0, 1, none⟩ (.int .i64 0)).setCell ⟨g0, 2, none⟩ (.int .i64 0)).setCell ⟨g0, 3, none⟩ (.int .i64 0)).setCell ⟨g0, 4, none⟩ (.string (ByteArray.mk #[]))).setCell ⟨g0, 5, none⟩ (.string (ByteArray.mk #[]))).setCell ⟨g0, 6, none⟩ (.string (ByteArray.mk #[]))).setCell ⟨g0, 7, none⟩ (.slice none 0 0)) (some g0) := grown_two (grown_two (grown_two (grown_two (grown_two (grown_two (grown_two (grown_setCell _ ⟨g0, 0, none⟩ _) (grown_setCell _ ⟨g0, 1, none⟩ _)) (grown_setCell _ ⟨g0, 2, none⟩ _)) (grown_setCell _ ⟨g0, 3, none⟩ _)) (grown_setCell _ ⟨g0, 4, none⟩ _)) (grown_setCell _ ⟨g0, 5, none⟩ _)) (grown_setCell _ ⟨g0, 6, none⟩ _)) (grown_setCell _ ⟨g0, 7, none⟩ _)
    have HFS : Hid (Flds ((((((((W1.setCell ⟨g0, 0, none⟩ (.int .i64 1)).setCell ⟨g0, 1, none⟩ (.int .i64 0)).setCell ⟨g0, 2, none⟩ (.int .i64 0)).setCell ⟨g0, 3, none⟩ (.int .i64 0)).setCell ⟨g0, 4, none⟩ (.string (ByteArray.mk #[]))).setCell ⟨g0, 5, none⟩ (.string (ByteArray.mk #[]))).setCell ⟨g0, 6, none⟩ (.string (ByteArray.mk #[]))).setCell ⟨g0, 7, none⟩ (.slice none 0 0)) g0 TQ [.int .i64 1, .int .i64 0, .int .i64 0, .int .i64 0, .string (ByteArray.mk #[]), .string (ByteArray.mk #[]), .string (ByteArray.mk #[]), .slice none 0 0]) := Lib.hid hfs
    have HGW := Lib.hid hgw
    have HB1 := Lib.hid hb1
    clear hfs hgw hF1 hb1
    go_wp2_with fail
    have hfs := HFS.out
    have hgw := HGW.out
    clear k0 z0 k1 z1 k2 z2 k3 z3 k4 z4 k5 z5 k6 z6 k7 z7 HFS HGW
    generalize ((((((((W1.setCell ⟨g0, 0, none⟩ (.int .i64 1)).setCell ⟨g0, 1, none⟩ (.int .i64 0)).setCell ⟨g0, 2, none⟩ (.int .i64 0)).setCell ⟨g0, 3, none⟩ (.int .i64 0)).setCell ⟨g0, 4, none⟩ (.string (ByteArray.mk #[]))).setCell ⟨g0, 5, none⟩ (.string (ByteArray.mk #[]))).setCell ⟨g0, 6, none⟩ (.string (ByteArray.mk #[]))).setCell ⟨g0, 7, none⟩ (.slice none 0 0)) = WF at *
    have c0 := hfs.cell 0; have c1 := hfs.cell 1; have c2 := hfs.cell 2; have c3 := hfs.cell 3; have c4 := hfs.cell 4; have c5 := hfs.cell 5; have c6 := hfs.cell 6; have c7 := hfs.cell 7
    simp only [List.getElem?_cons_zero, List.getElem?_cons_succ] at c0 c1 c2 c3 c4 c5 c6 c7
    have hbF : Below w.heap.size w WF := HB1.out.grown hgw HB1.out.size (fun b e => by simp only [Option.some.injEq] at e; have := HG0.out; omega)
    refine bodyPost_ret (v := .tuple #[Er.val ⟨1, 0, null, ByteArray.empty, ByteArray.empty, .slice none 0 0⟩, .int .i64 ((a : Int) + 1)]) (by simp [results, Try.results6, go_sem, c0, c1, c2, c3, c4, c5, c6, c7, Er.val]; first | done | exact ⟨rfl, rfl, rfl, rfl⟩ | exact ⟨rfl, rfl, rfl, rfl, rfl⟩ | rfl) rfl ⟨_, rfl, ?_, hbF⟩
    refine ⟨rfl, rfl, rfl, rfl, rfl, (fun b hb => by cases hb), [], rfl, World.ownsRow_nil _ _ _ _, fun i x s hx hs => by simp at hs⟩
  · have d1 : ¬ (n : Int) ≤ (a : Int) := by omega
    obtain rfl : D = 25 := by omega
    clear h hD0 hD1
    go_enter Try.func6, Try.ntmps6
    go_upto_region 2 with fail
    obtain ⟨W1, hW1⟩ : ∃ W1, w.alloc (.cells #[.int .i64 0, .int .i64 0, .int .i64 0, .int .i64 0, .string (ByteArray.mk #[]), .string (ByteArray.mk #[]), .string (ByteArray.mk #[]), .slice none 0 0] TQ) = W1 := ⟨_, rfl⟩
    obtain ⟨g0, hg0⟩ : ∃ g0, w.heap.size = g0 := ⟨_, rfl⟩
    have hF1 : Flds W1 g0 TQ [.int .i64 0, .int .i64 0, .int .i64 0, .int .i64 0, .string (ByteArray.mk #[]), .string (ByteArray.mk #[]), .string (ByteArray.mk #[]), .slice none 0 0] := by rw [← hW1, ← hg0]; exact Flds.new w TQ _
    have hb1 : Below w.heap.size w W1 := by rw [← hW1]; exact (Below.refl _ _).alloc (Nat.le_refl _) _
    rw [hW1, hg0]
    have HG0 := Lib.hid hg0
    clear hW1 hg0
    have k0 := hF1.cell 0; have z0 := hF1.frozen 0; have k1 := hF1.cell 1; have z1 := hF1.frozen 1; have k2 := hF1.cell 2; have z2 := hF1.frozen 2; have k3 := hF1.cell 3; have z3 := hF1.frozen 3; have k4 := hF1.cell 4; have z4 := hF1.frozen 4; have k5 := hF1.cell 5; have z5 := hF1.frozen 5; have k6 := hF1.cell 6; have z6 := hF1.frozen 6; have k7 := hF1.cell 7; have z7 := hF1.frozen 7
    have l0 := hF1.lt
    simp only [List.getElem?_cons_zero, List.getElem?_cons_succ] at k0 k1 k2 k3 k4 k5 k6 k7
    have hfs := ((((((((hF1.set 0 (.int .i64 1)).set 1 (.int .i64 0)).set 2 (.int .i64 0)).set 3 (.int .i64 0)).set 4 (.string (ByteArray.mk #[]))).set 5 (.string (ByteArray.mk #[]))).set 6 (.string (ByteArray.mk #[]))).set 7 (.slice none 0 0))
    have hgw : W1.grownBy ((((((((W1.setCell ⟨g0, 0, none⟩ (.int .i64 1)).setCell ⟨g0, 1, none⟩ (.int .i64 0)).setCell ⟨g0, 2, none⟩ (.int .i64 0)).setCell ⟨g0, 3, none⟩ (.int .i64 0)).setCell ⟨g0, 4, none⟩ (.string (ByteArray.mk #[]))).setCell ⟨g0, 5, none⟩ (.string (ByteArray.mk #[]))).setCell ⟨g0, 6, none⟩ (.string (ByteArray.mk #[]))).setCell ⟨g0, 7, none⟩ (.slice none 0 0)) (some g0) := grown_two (grown_two (grown_two (grown_two (grown_two (grown_two (grown_two (grown_setCell _ ⟨g0, 0, none⟩ _) (grown_setCell _ ⟨g0, 1, none⟩ _)) (grown_setCell _ ⟨g0, 2, none⟩ _)) (grown_setCell _ ⟨g0, 3, none⟩ _)) (grown_setCell _ ⟨g0, 4, none⟩ _)) (grown_setCell _ ⟨g0, 5, none⟩ _)) (grown_setCell _ ⟨g0, 6, none⟩ _)) (grown_setCell _ ⟨g0, 7, none⟩ _)
    have HFS : Hid (Flds ((((((((W1.setCell ⟨g0, 0, none⟩ (.int .i64 1)).setCell ⟨g0, 1, none⟩ (.int .i64 0)).setCell ⟨g0, 2, none⟩ (.int .i64 0)).setCell ⟨g0, 3, none⟩ (.int .i64 0)).setCell ⟨g0, 4, none⟩ (.string (ByteArray.mk #[]))).setCell ⟨g0, 5, none⟩ (.string (ByteArray.mk #[]))).setCell ⟨g0, 6, none⟩ (.string (ByteArray.mk #[]))).setCell ⟨g0, 7, none⟩ (.slice none 0 0)) g0 TQ [.int .i64 1, .int .i64 0, .int .i64 0, .int .i64 0, .string (ByteArray.mk #[]), .string (ByteArray.mk #[]), .string (ByteArray.mk #[]), .slice none 0 0]) := Lib.hid hfs
    have HGW := Lib.hid hgw
    have HB1 := Lib.hid hb1
    clear hfs hgw hF1 hb1
    go_wp2_with fail
    have hfs := HFS.out
    have hgw := HGW.out
    clear k0 z0 k1 z1 k2 z2 k3 z3 k4 z4 k5 z5 k6 z6 k7 z7 HFS HGW
    generalize ((((((((W1.setCell ⟨g0, 0, none⟩ (.int .i64 1)).setCell ⟨g0, 1, none⟩ (.int .i64 0)).setCell ⟨g0, 2, none⟩ (.int .i64 0)).setCell ⟨g0, 3, none⟩ (.int .i64 0)).setCell ⟨g0, 4, none⟩ (.string (ByteArray.mk #[]))).setCell ⟨g0, 5, none⟩ (.string (ByteArray.mk #[]))).setCell ⟨g0, 6, none⟩ (.string (ByteArray.mk #[]))).setCell ⟨g0, 7, none⟩ (.slice none 0 0)) = WF at *
    have c0 := hfs.cell 0; have c1 := hfs.cell 1; have c2 := hfs.cell 2; have c3 := hfs.cell 3; have c4 := hfs.cell 4; have c5 := hfs.cell 5; have c6 := hfs.cell 6; have c7 := hfs.cell 7
    simp only [List.getElem?_cons_zero, List.getElem?_cons_succ] at c0 c1 c2 c3 c4 c5 c6 c7
    have hbF : Below w.heap.size w WF := HB1.out.grown hgw HB1.out.size (fun b e => by simp only [Option.some.injEq] at e; have := HG0.out; omega)
    refine bodyPost_ret (v := .tuple #[Er.val ⟨1, 0, null, ByteArray.empty, ByteArray.empty, .slice none 0 0⟩, .int .i64 ((a : Int) + 1)]) (by simp [results, Try.results6, go_sem, c0, c1, c2, c3, c4, c5, c6, c7, Er.val]; first | done | exact ⟨rfl, rfl, rfl, rfl⟩ | exact ⟨rfl, rfl, rfl, rfl, rfl⟩ | rfl) rfl ⟨_, rfl, ?_, hbF⟩
    refine ⟨rfl, rfl, rfl, rfl, rfl, (fun b hb => by cases hb), [], rfl, World.ownsRow_nil _ _ _ _, fun i x s hx hs => by simp at hs⟩
set_option maxRecDepth 100000 in
set_option maxHeartbeats 4000000 in
theorem built_any (ps : List Pt) (hps : ∀ x ∈ ps, PB x) (n : Nat) (hn : ps.length = n) (hn40 : n ≤ 40) (av : Option Addr) (cap : Nat) : ∀ (f : Nat), f ≤ 25 → ∀ (a : Nat) (w : World), a ≤ 3 * min a n → Row w (.slice av n cap) 7 n (pCells ps) →
    Calls Try.prog 6 #[.slice av n cap, .int .i64 (a : Nat), .int .i64 (25 - (f : Nat))] w (BuiltPost ps f a w)
  | 0, hf, a, w, ha, hrow => by
    have h0 := built_leaf n hn40 av cap a 25 (by decide) (by decide) (by omega) (.inr rfl) w
    refine h0.mono ?_
    rintro en w' ⟨r, rfl, he, hb⟩
    exact ⟨r, rfl, he, hb⟩
  | f + 1, hf, a, w, ha, hrow => by
    have IH := Lib.hid (fun (a : Nat) (w : World) (ha : a ≤ 3 * min a n) (hr : Row w (.slice av n cap) 7 n (pCells ps)) => built_any ps hps n hn hn40 av cap f (by omega) a w ha hr)
    obtain ⟨D, hD⟩ : ∃ D : Int, 25 - ((f + 1 : Nat) : Int) = D := ⟨_, rfl⟩
    have hD0 : 0 ≤ D := by omega
    have hD1 : D ≤ 24 := by omega
    have HDD : Hid (D + 1 = 25 - (f : Nat)) := Lib.hid (by omega)
    have a0 : (0 : Int) ≤ (a : Int) := by omega
    have a1 : (a : Int) ≤ 1000 := by omega
    have n0 : (0 : Int) ≤ (n : Int) := by omega
    have n1 : (n : Int) ≤ 40 := by omega
    rw [hD]
    by_cases h1 : a ≥ n
    · refine (built_leaf n hn40 av cap a D hD0 (by omega) (by omega) (.inl h1) w).mono ?_
      rintro en w' ⟨r, rfl, he, hb⟩
      have hE := builtF_none (f := f + 1) (show ps.length ≤ a by omega)
      exact ⟨r, by rw [hE]; rfl, by rw [hE]; exact he.mono (by omega) (fun b _ hb => hb), hb⟩
    have d1 : ¬ (n : Int) ≤ (a : Int) := by omega
    have han : a < n := by omega
    have hal : a < ps.length := by omega
    have HPX := Lib.hid (hps _ (List.getElem_mem hal))
    have hx : ps[a]? = some ps[a] := List.getElem?_eq_getElem hal
    generalize ps[a] = x at hx HPX
    have HX := Lib.hid hx
    have hBE := Lib.hid (builtF_some (f := f) hx)
    obtain ⟨b0, off, cap', ea, -⟩ := hrow.pos (by omega)
    simp only [Value.slice.injEq] at ea
    obtain ⟨rfl, -, rfl⟩ := ea
    have HROW := Lib.hid hrow
    have HAT := Lib.hid (pts_at0 hrow han hx)
    obtain ⟨⟨k0, k1⟩, ⟨o0, o1⟩, ⟨v0, v1⟩, ⟨p0, p1⟩, ⟨x0, x1⟩, s0, s1⟩ := HPX.out
    obtain ⟨pt, hpt⟩ : ∃ pt, x = pt := ⟨_, rfl⟩
    obtain ⟨xk, xo, xv, xn, xx, xnm, xtb⟩ := x
    dsimp only at k0 k1 o0 o1 v0 v1 p0 p1 x0 x1 s0 s1
    have HPT := Lib.hid hpt
    clear hx hpt hrow h1 hD
    obtain ⟨g0, g1, g2, g3, g4, g5, g6, lb⟩ := HAT.out (w.alloc (.cells #[.int .i64 0, .int .i64 0, .int .i64 0, .int .i64 0, .string (ByteArray.mk #[]), .string (ByteArray.mk #[]), .string (ByteArray.mk #[]), .slice none 0 0] TQ)) ((Below.refl _ w).alloc (Nat.le_refl _) _)
    dsimp only at g0 g1 g2 g3 g4 g5 g6
    go_enter Try.func6, Try.ntmps6
    go_upto_region 6 with fail
    obtain ⟨W1, hW1⟩ : ∃ W1, ((w.alloc (.cells #[.int .i64 0, .int .i64 0, .int .i64 0, .int .i64 0, .string (ByteArray.mk #[]), .string (ByteArray.mk #[]), .string (ByteArray.mk #[]), .slice none 0 0] TQ)).alloc (.cells #[.int .u8 xk, .int .u8 xo, .int .u8 xv, .int .u8 xn, .int .i64 xx, .string xnm, .string xtb] TP)).alloc (.cells #[.int .i64 (xk % 10), .int .i64 0, .int .i64 0, .int .i64 0, .string (ByteArray.mk #[]), .string (ByteArray.mk #[]), .string (ByteArray.mk #[]), .slice none 0 0] TQ) = W1 := ⟨_, rfl⟩
    obtain ⟨g8, hg8⟩ : ∃ g8, w.heap.size + 1 = g8 := ⟨_, rfl⟩
    obtain ⟨g9, hg9⟩ : ∃ g9, w.heap.size + 1 + 1 = g9 := ⟨_, rfl⟩
    have hP1 : Pre w g8 g9 ⟨xk, xo, xv, xn, xx, xnm, xtb⟩ (fT (xk % 10) 0 0 0 ByteArray.empty (.slice none 0 0) ByteArray.empty ByteArray.empty) W1 := by
      rw [← hW1, ← hg8, ← hg9]
      refine ⟨((Flds.new w TQ _).alloc _).alloc _, ?_, ?_, (((Below.refl _ _).alloc (Nat.le_refl _) _).alloc (by simp) _).alloc (by simp; omega) _⟩
      · have := (Flds.new (w.alloc (.cells #[.int .i64 0, .int .i64 0, .int .i64 0, .int .i64 0, .string (ByteArray.mk #[]), .string (ByteArray.mk #[]), .string (ByteArray.mk #[]), .slice none 0 0] TQ)) TP [.int .u8 xk, .int .u8 xo, .int .u8 xv, .int .u8 xn, .int .i64 xx, .string xnm, .string xtb]).alloc (.cells #[.int .i64 (xk % 10), .int .i64 0, .int .i64 0, .int .i64 0, .string (ByteArray.mk #[]), .string (ByteArray.mk #[]), .string (ByteArray.mk #[]), .slice none 0 0] TQ)
        rw [World.size_alloc] at this; exact this
      · have := Flds.new ((w.alloc (.cells #[.int .i64 0, .int .i64 0, .int .i64 0, .int .i64 0, .string (ByteArray.mk #[]), .string (ByteArray.mk #[]), .string (ByteArray.mk #[]), .slice none 0 0] TQ)).alloc (.cells #[.int .u8 xk, .int .u8 xo, .int .u8 xv, .int .u8 xn, .int .i64 xx, .string xnm, .string xtb] TP)) TQ [.int .i64 (xk % 10), .int .i64 0, .int .i64 0, .int .i64 0, .string (ByteArray.mk #[]), .string (ByteArray.mk #[]), .string (ByteArray.mk #[]), .slice none 0 0]
        rw [World.size_alloc, World.size_alloc] at this; exact this
    rw [hW1, hg9, hg8]
    have HG : Hid (w.heap.size + 1 = g8 ∧ w.heap.size + 2 = g9) := Lib.hid ⟨hg8, hg9⟩
    clear g0 g1 g2 g3 g4 g5 g6 lb hW1 hg8 hg9
    have HP1 := Lib.hid hP1
    clear hP1
    obtain ⟨cA, hcA⟩ : ∃ cA : Bool, cA = decide (xk % 10 = 1 ∨ 250 ≤ xk) := ⟨_, rfl⟩
    obtain ⟨cB, hcB⟩ : ∃ cB : Bool, cB = decide (xk % 10 = 2 ∨ 250 ≤ xk) := ⟨_, rfl⟩
    have HCA := Lib.hid hcA
    have HCB := Lib.hid hcB
    clear hcA hcB
    go_cut [44] from 36 to 43 (fun v wx => v = .bool cA ∧ wx = W1)
    case first =>
      as_aux_lemma =>
      have q0 := HP1.out.f8.cell 0
      have l0 := HP1.out.f8.lt
      unfold Pt.cells at q0
      simp only [List.getElem?_cons_zero] at q0
      by_cases e1 : xk % 10 = 1
      · have HC : Hid (cA = true) := Lib.hid (by rw [HCA.out]; simp [e1])
        have b1 : (xk % 10 == 1) = true := by simp [e1]
        clear e1
        go_wp2_with fail
        go_meet
        rw [HC.out]
        exact ⟨rfl, rfl⟩
      · have b1 : (xk % 10 == 1) = false := by simp [e1]
        by_cases e2 : 250 ≤ xk
        · have HC : Hid (cA = true) := Lib.hid (by rw [HCA.out]; simp [e2])
          clear e1
          go_wp2_with fail
          go_meet
          rw [HC.out]
          exact ⟨rfl, rfl⟩
        · have HC : Hid (cA = false) := Lib.hid (by rw [HCA.out]; simp [e1, e2])
          clear e1
          go_wp2_with fail
          go_meet
          rw [HC.out]
          exact ⟨rfl, rfl⟩
    case rest =>
      obtain ⟨rfl, rfl⟩ := hcut
      obtain ⟨vv, hvv⟩ : ∃ vv : V, vv = Pt.val ⟨xk, xo, xv, xn, xx, xnm, xtb⟩ := ⟨_, rfl⟩
      have HVV := Lib.hid hvv
      clear hvv
      go_upto_if 44 with fail
      go_cut [] from 45 to 77 (fun wx => Hid (Pre w g8 g9 ⟨xk, xo, xv, xn, xx, xnm, xtb⟩ (fT (xk % 10) 0 vv.k vv.n vv.s (.slice none 0 0) ByteArray.empty ByteArray.empty) wx))
      case first =>
        as_aux_lemma =>
        cases cA with
        | false =>
          have hv : vv = null := by
            rw [HVV.out]
            unfold Pt.val
            have h := HCA.out
            simp only [Bool.false_eq, decide_eq_false_iff_not] at h
            exact if_neg h
          have HV0 := Lib.hid hv
          clear hv
          go_wp2_with fail
          go_meet
          rw [HV0.out]
          exact HP1
        | true =>
          have hv : vv = if xv % 5 = 1 then ⟨1, xx % 2, ByteArray.empty⟩ else if xv % 5 = 2 then ⟨2, xx, ByteArray.empty⟩ else if xv % 5 = 3 then ⟨3, 0, cut xnm 70⟩ else ⟨xv % 5, 0, ByteArray.empty⟩ := by
            rw [HVV.out]
            unfold Pt.val
            have h := HCA.out
            simp only [Bool.true_eq, decide_eq_true_eq] at h
            exact if_pos h
          have HV1 := Lib.hid hv
          clear hv
          have q0 := HP1.out.f8.cell 0; have q2 := HP1.out.f8.cell 2; have q4 := HP1.out.f8.cell 4; have q5 := HP1.out.f8.cell 5
          have l0 := HP1.out.f8.lt
          have r2 := HP1.out.f9.cell 2; have r3 := HP1.out.f9.cell 3; have r4 := HP1.out.f9.cell 4
          have z2 := HP1.out.f9.frozen 2; have z3 := HP1.out.f9.frozen 3; have z4 := HP1.out.f9.frozen 4
          have l9 := HP1.out.f9.lt
          have hne : (g8 = g9) = False := by simp; have := HG.out; omega
          have hne' : (g9 = g8) = False := by simp; have := HG.out; omega
          unfold Pt.cells at q0 q2 q4 q5
          unfold fT eC at r2 r3 r4
          simp only [List.getElem?_cons_zero, List.getElem?_cons_succ] at q0 q2 q4 q5 r2 r3 r4
          go_upto_region 8 with fail
          have hP2 := ((HP1.out.set (by have := HG.out; omega) (by have := HG.out; omega) 2 (.int .i64 (xv % 5))).set (by have := HG.out; omega) (by have := HG.out; omega) 3 (.int .i64 0)).set (by have := HG.out; omega) (by have := HG.out; omega) 4 (.string (ByteArray.mk #[]))
          generalize ((wc.setCell ⟨g9, 2, none⟩ (.int .i64 (xv % 5))).setCell ⟨g9, 3, none⟩ (.int .i64 0)).setCell ⟨g9, 4, none⟩ (.string (ByteArray.mk #[])) = W2 at *
          have HP2 : Hid (Pre w g8 g9 ⟨xk, xo, xv, xn, xx, xnm, xtb⟩ (fT (xk % 10) 0 (xv % 5) 0 ByteArray.empty (.slice none 0 0) ByteArray.empty ByteArray.empty) W2) := Lib.hid hP2
          clear hP2 q0 q2 q4 q5 l0 r2 r3 r4 z2 z3 z4 l9
          have q4 := HP2.out.f8.cell 4; have q5 := HP2.out.f8.cell 5
          have l0 := HP2.out.f8.lt
          have r2 := HP2.out.f9.cell 2; have r3 := HP2.out.f9.cell 3; have r4 := HP2.out.f9.cell 4
          have z2 := HP2.out.f9.frozen 2; have z3 := HP2.out.f9.frozen 3; have z4 := HP2.out.f9.frozen 4
          have l9 := HP2.out.f9.lt
          unfold Pt.cells at q4 q5
          unfold fT eC at r2 r3 r4
          simp only [List.getElem?_cons_zero, List.getElem?_cons_succ] at q4 q5 r2 r3 r4
          by_cases e1 : xv % 5 = 1
          · have b1 : (xv % 5 == 1) = true := by simp [e1]
            have HE : Hid (vv.k = xv % 5 ∧ vv.n = xx % 2 ∧ vv.s = ByteArray.empty) := Lib.hid (by rw [HV1.out, if_pos e1]; exact ⟨e1.symm, rfl, rfl⟩)
            clear e1
            go_wp2_with fail
            go_meet
            rw [HE.out.1, HE.out.2.1, HE.out.2.2, and_one]
            exact Lib.hid (HP2.out.set (by have := HG.out; omega) (by have := HG.out; omega) 3 (.int .i64 (xx % 2)))
          · have b1 : (xv % 5 == 1) = false := by simp [e1]
            by_cases e2 : xv % 5 = 2
            · have b2 : (xv % 5 == 2) = true := by simp [e2]
              have HE : Hid (vv.k = xv % 5 ∧ vv.n = xx ∧ vv.s = ByteArray.empty) := Lib.hid (by rw [HV1.out, if_neg e1, if_pos e2]; exact ⟨e2.symm, rfl, rfl⟩)
              clear e1 e2
              go_wp2_with fail
              go_meet
              rw [HE.out.1, HE.out.2.1, HE.out.2.2]
              exact Lib.hid (HP2.out.set (by have := HG.out; omega) (by have := HG.out; omega) 3 (.int .i64 xx))
            · have b2 : (xv % 5 == 2) = false := by simp [e2]
              by_cases e3 : xv % 5 = 3
              · have b3 : (xv % 5 == 3) = true := by simp [e3]
                have HE : Hid (vv.k = xv % 5 ∧ vv.n = 0 ∧ vv.s = cut xnm 70) := Lib.hid (by rw [HV1.out, if_neg e1, if_neg e2, if_pos e3]; exact ⟨e3.symm, rfl, rfl⟩)
                clear e1 e2 e3
                obtain ⟨M1, hM1⟩ : ∃ M1, min (xnm.size : Int) 70 = M1 := ⟨_, rfl⟩
                have m0 : 0 ≤ M1 := by omega
                have m1 : M1 ≤ (xnm.size : Int) := by omega
                have HC : Hid (xnm.extract 0 M1.toNat = cut xnm 70) := Lib.hid (by unfold cut; congr 1; omega)
                go_wp2_with fail
                go_meet
                rw [HE.out.1, HE.out.2.1, HE.out.2.2, ← HC.out]
                exact Lib.hid (HP2.out.set (by have := HG.out; omega) (by have := HG.out; omega) 4 (.string (xnm.extract 0 M1.toNat)))
              · have b3 : (xv % 5 == 3) = false := by simp [e3]
                have HE : Hid (vv.k = xv % 5 ∧ vv.n = 0 ∧ vv.s = ByteArray.empty) := Lib.hid (by rw [HV1.out, if_neg e1, if_neg e2, if_neg e3]; exact ⟨rfl, rfl, rfl⟩)
                clear e1 e2 e3
                go_wp2_with fail
                go_meet
                rw [HE.out.1, HE.out.2.1, HE.out.2.2]
                exact HP2
      case rest =>
        generalize wc = wx0 at *
        have HP2 := Lib.hid hcut.out
        clear hcut HP1
        go_upto_region 15 with fail
        go_cut [86] from 78 to 85 (fun v wx => v = .bool cB ∧ wx = wx0)
        case first =>
          as_aux_lemma =>
          have q0 := HP2.out.f8.cell 0
          have l0 := HP2.out.f8.lt
          unfold Pt.cells at q0
          simp only [List.getElem?_cons_zero] at q0
          by_cases e1 : xk % 10 = 2
          · have HC : Hid (cB = true) := Lib.hid (by rw [HCB.out]; simp [e1])
            have b1 : (xk % 10 == 2) = true := by simp [e1]
            clear e1
            go_wp2_with fail
            go_meet
            rw [HC.out]
            exact ⟨rfl, rfl⟩
          · have b1 : (xk % 10 == 2) = false := by simp [e1]
            by_cases e2 : 250 ≤ xk
            · have HC : Hid (cB = true) := Lib.hid (by rw [HCB.out]; simp [e2])
              clear e1
              go_wp2_with fail
              go_meet
              rw [HC.out]
              exact ⟨rfl, rfl⟩
            · have HC : Hid (cB = false) := Lib.hid (by rw [HCB.out]; simp [e1, e2])
              clear e1
              go_wp2_with fail
              go_meet
              rw [HC.out]
              exact ⟨rfl, rfl⟩
        case rest =>
          obtain ⟨rfl, rfl⟩ := hcut
          obtain ⟨tN, htN⟩ : ∃ tN : ByteArray, tN = if cB = true then cut xnm 20 else ByteArray.empty := ⟨_, rfl⟩
          obtain ⟨tT, htT⟩ : ∃ tT : ByteArray, tT = if cB = true then cut xtb 20 else ByteArray.empty := ⟨_, rfl⟩
          have HTN := Lib.hid htN
          have HTT := Lib.hid htT
          clear htN htT
          go_upto_if 86 with fail
          go_cut [] from 87 to 102 (fun wx => Hid (Pre w g8 g9 ⟨xk, xo, xv, xn, xx, xnm, xtb⟩ (fT (xk % 10) 0 vv.k vv.n vv.s (.slice none 0 0) tT tN) wx))
          case first =>
            as_aux_lemma =>
            cases cB with
            | false =>
              have h1 : Hid (tT = ByteArray.empty ∧ tN = ByteArray.empty) := Lib.hid ⟨by rw [HTT.out, if_neg (by decide)], by rw [HTN.out, if_neg (by decide)]⟩
              go_wp2_with fail
              go_meet
              rw [h1.out.1, h1.out.2]
              exact HP2
            | true =>
              have HS0 := Lib.hid (HG.out)
              have h8 : w.heap.size < g8 := by have := HG.out; omega
              have h9 : g8 < g9 := by have := HG.out; omega
              have H8 := Lib.hid h8
              have H9 := Lib.hid h9
              clear h8 h9
              obtain ⟨M1, hM1⟩ : ∃ M1, min (xnm.size : Int) 20 = M1 := ⟨_, rfl⟩
              obtain ⟨M2, hM2⟩ : ∃ M2, min (xtb.size : Int) 20 = M2 := ⟨_, rfl⟩
              have m10 : 0 ≤ M1 := by omega
              have m11 : M1 ≤ (xnm.size : Int) := by omega
              have m20 : 0 ≤ M2 := by omega
              have m21 : M2 ≤ (xtb.size : Int) := by omega
              obtain ⟨nm, hnm⟩ : ∃ nm, xnm.extract 0 M1.toNat = nm := ⟨_, rfl⟩
              obtain ⟨tb, htb⟩ : ∃ tb, xtb.extract 0 M2.toNat = tb := ⟨_, rfl⟩
              have HN1 : Hid (tN = nm) := Lib.hid (by rw [HTN.out, if_pos rfl, ← hnm]; unfold cut; congr 1; omega)
              have HN2 : Hid (tT = tb) := Lib.hid (by rw [HTT.out, if_pos rfl, ← htb]; unfold cut; congr 1; omega)
              go_upto_region 16 with fail
              apply ag.region_ag  (fun W1' => TwoG w g8 g9 ⟨xk, xo, xv, xn, xx, xnm, xtb⟩ (fT (xk % 10) 0 vv.k vv.n vv.s (.slice none 0 0)) tb nm W1') (fun _ _ _ _ => True) (ag.Spec.val _ :: ag.Spec.val _ :: ag.Spec.val _ :: ag.Spec.val _ :: ag.Spec.val _ :: ag.Spec.val _ :: ag.Spec.val _ :: ag.Spec.val _ :: ag.Spec.val _ :: ag.Spec.val _ :: ag.Spec.val _ :: ag.Spec.val _ :: ag.Spec.val _ :: ag.Spec.val _ :: ag.Spec.val _ :: ag.Spec.sat (fun _ W => W.cell? ⟨g9, 6, none⟩ = some (.string nm)) (fun _ W W' => W' = W.setCell ⟨g9, 6, none⟩ (.string nm)) :: ag.Spec.val _ :: ag.Spec.sat (fun _ W => W.cell? ⟨g9, 5, none⟩ = some (.string tb)) (fun _ W W' => W' = W.setCell ⟨g9, 5, none⟩ (.string tb)) :: [])
              case hm => kernel_rfl
              case hB => kernel_rfl
              case hlen => rfl
              case hS => exact TwoG.start HP2.out
              case hst =>
                simp only [ag.Stab, ag.Row2, ag.Ok2, and_true]
                repeat' apply And.intro
                all_goals first
                  | exact fun h => absurd rfl h
                  | (exact fun _ _ f v W W' _ hv _ ht => TwoG.st2 hv ht)
                  | (exact fun _ _ f v W W' _ hv _ ht => TwoG.st1 hv ht)
                  | trivial
                  | exact fun _ h => absurd (h.symm.trans (show _ = true by kernel_rfl)) (by decide)
              case hk =>
                simp only [ag.Keeps, and_true]
                repeat' apply And.intro
                all_goals first
                  | (exact fun f W W' hS _ ht => TwoG.k2 H8.out H9.out hS ht)
                  | (exact fun f W W' hS _ ht => TwoG.k1 H8.out H9.out hS ht)
                  | trivial
              apply ag.walk_val
              · rfl
              · intro W1 hS hE
                clear hS hE
                all_goals unfold ag.does
                all_goals go_simp
                all_goals first | done | exact ⟨rfl, rfl⟩ | rfl | (exact ⟨by go_num, rfl⟩) | (simp; done) | trace_state
              simp only [Act.put, List.setIfInBounds_toArray, List.set_cons_zero, List.set_cons_succ]
              apply ag.walk_val
              · rfl
              · intro W1 hS hE
                obtain ⟨q5, q6, l8⟩ := hS.part
                clear hS hE
                all_goals unfold ag.does
                all_goals go_simp
                all_goals first | done | exact ⟨rfl, rfl⟩ | rfl | (exact ⟨by go_num, rfl⟩) | (simp; done) | trace_state
              simp only [Act.put, List.setIfInBounds_toArray, List.set_cons_zero, List.set_cons_succ]
              apply ag.walk_val
              · rfl
              · intro W1 hS hE
                clear hS hE
                all_goals unfold ag.does
                all_goals go_simp
                all_goals first | done | exact ⟨rfl, rfl⟩ | rfl | (exact ⟨by go_num, rfl⟩) | (simp; done) | trace_state
              simp only [Act.put, List.setIfInBounds_toArray, List.set_cons_zero, List.set_cons_succ]
              apply ag.walk_val
              · rfl
              · intro W1 hS hE
                obtain ⟨q5, q6, l8⟩ := hS.part
                clear hS hE
                all_goals unfold ag.does
                all_goals go_simp
                all_goals first | done | exact ⟨rfl, rfl⟩ | rfl | (exact ⟨by go_num, rfl⟩) | (simp; done) | trace_state
              simp only [Act.put, List.setIfInBounds_toArray, List.set_cons_zero, List.set_cons_succ]
              apply ag.walk_val
              · rfl
              · intro W1 hS hE
                clear hS hE
                all_goals unfold ag.does
                all_goals go_simp
                all_goals first | done | exact ⟨rfl, rfl⟩ | rfl | (exact ⟨by go_num, rfl⟩) | (simp; done) | trace_state
              simp only [Act.put, List.setIfInBounds_toArray, List.set_cons_zero, List.set_cons_succ]
              apply ag.walk_val
              · rfl
              · intro W1 hS hE
                clear hS hE
                all_goals unfold ag.does
                all_goals go_simp
                all_goals first | done | exact ⟨rfl, rfl⟩ | rfl | (exact ⟨by go_num, rfl⟩) | (simp; done) | trace_state
              simp only [Act.put, List.setIfInBounds_toArray, List.set_cons_zero, List.set_cons_succ]
              apply ag.walk_val
              · rfl
              · intro W1 hS hE
                clear hS hE
                all_goals unfold ag.does
                all_goals go_simp
                all_goals first | done | exact ⟨rfl, rfl⟩ | rfl | (exact ⟨by go_num, rfl⟩) | (simp; done) | trace_state
              simp only [Act.put, List.setIfInBounds_toArray, List.set_cons_zero, List.set_cons_succ]
              apply ag.walk_val
              · rfl
              · intro W1 hS hE
                clear hS hE
                all_goals unfold ag.does
                all_goals go_simp
                all_goals first | done | exact ⟨rfl, rfl⟩ | rfl | (exact ⟨by go_num, rfl⟩) | (simp; done) | trace_state
              simp only [Act.put, List.setIfInBounds_toArray, List.set_cons_zero, List.set_cons_succ]
              apply ag.walk_val
              · rfl
              · intro W1 hS hE
                obtain ⟨q5, q6, l8⟩ := hS.part
                clear hS hE
                all_goals unfold ag.does
                all_goals go_simp
                all_goals first | done | exact ⟨rfl, rfl⟩ | rfl | (exact ⟨by go_num, rfl⟩) | (simp; done) | trace_state
              simp only [Act.put, List.setIfInBounds_toArray, List.set_cons_zero, List.set_cons_succ]
              apply ag.walk_val
              · rfl
              · intro W1 hS hE
                clear hS hE
                all_goals unfold ag.does
                all_goals go_simp
                all_goals first | done | exact ⟨rfl, rfl⟩ | rfl | (exact ⟨by go_num, rfl⟩) | (simp; done) | trace_state
              simp only [Act.put, List.setIfInBounds_toArray, List.set_cons_zero, List.set_cons_succ]
              apply ag.walk_val
              · rfl
              · intro W1 hS hE
                obtain ⟨q5, q6, l8⟩ := hS.part
                clear hS hE
                all_goals unfold ag.does
                all_goals go_simp
                all_goals first | done | exact ⟨rfl, rfl⟩ | rfl | (exact ⟨by go_num, rfl⟩) | (simp; done) | trace_state
              simp only [Act.put, List.setIfInBounds_toArray, List.set_cons_zero, List.set_cons_succ]
              apply ag.walk_val
              · rfl
              · intro W1 hS hE
                clear hS hE
                all_goals unfold ag.does
                all_goals go_simp
                all_goals first | done | exact ⟨rfl, rfl⟩ | rfl | (exact ⟨by go_num, rfl⟩) | (simp; done) | trace_state
              simp only [Act.put, List.setIfInBounds_toArray, List.set_cons_zero, List.set_cons_succ]
              apply ag.walk_val
              · rfl
              · intro W1 hS hE
                clear hS hE
                all_goals unfold ag.does
                all_goals go_simp
                all_goals first | done | exact ⟨rfl, rfl⟩ | rfl | (exact ⟨by go_num, rfl⟩) | (simp; done) | trace_state
              simp only [Act.put, List.setIfInBounds_toArray, List.set_cons_zero, List.set_cons_succ]
              apply ag.walk_val
              · rfl
              · intro W1 hS hE
                clear hS hE
                all_goals unfold ag.does
                all_goals go_simp
                all_goals first | done | exact ⟨rfl, rfl⟩ | rfl | (exact ⟨by go_num, rfl⟩) | (simp; done) | trace_state
              simp only [Act.put, List.setIfInBounds_toArray, List.set_cons_zero, List.set_cons_succ]
              apply ag.walk_val
              · rfl
              · intro W1 hS hE
                clear hS hE
                all_goals unfold ag.does
                all_goals go_simp
                all_goals first | done | exact ⟨rfl, rfl⟩ | rfl | (exact ⟨by go_num, rfl⟩) | (simp; done) | trace_state
              simp only [Act.put, List.setIfInBounds_toArray, List.set_cons_zero, List.set_cons_succ]
              refine ag.walk_sat (by rfl) (fun W1 hS hE => ?_) (fun y15 => ?_)
              · have hSS := Lib.hid hS
                obtain ⟨l9, z5, z6, ⟨u5, c5⟩, ⟨u6, c6⟩⟩ := hS.at
                clear hS hE
                all_goals unfold ag.does
                all_goals go_simp
                all_goals first | done | (exact ⟨hSS.out.set2, rfl, ag.News.none (fun _ _ => trivial) _ _⟩)
              simp only [Act.put, List.setIfInBounds_toArray, List.set_cons_zero, List.set_cons_succ]
              apply ag.walk_val
              · rfl
              · intro W1 hS hE
                clear hS hE
                all_goals unfold ag.does
                all_goals go_simp
                all_goals first | done | exact ⟨rfl, rfl⟩ | rfl | (exact ⟨by go_num, rfl⟩) | (simp; done) | trace_state
              simp only [Act.put, List.setIfInBounds_toArray, List.set_cons_zero, List.set_cons_succ]
              refine ag.walk_sat (by rfl) (fun W1 hS hE => ?_) (fun y17 => ?_)
              · have hSS := Lib.hid hS
                obtain ⟨l9, z5, z6, ⟨u5, c5⟩, ⟨u6, c6⟩⟩ := hS.at
                clear hS hE
                all_goals unfold ag.does
                all_goals go_simp
                all_goals first | done | (exact ⟨hSS.out.set1, rfl, ag.News.none (fun _ _ => trivial) _ _⟩)
              simp only [Act.put, List.setIfInBounds_toArray, List.set_cons_zero, List.set_cons_succ]
              refine ag.walk_nil (fun w9 hS hF hP => ?_)
              clear hP
              have h15 := hF.of 15
              have h17 := hF.of 17
              simp only [ag.lookE, Nat.reduceAdd, Nat.reduceEqDiff, if_false, if_true] at h15 h17
              have HFI := Lib.hid (hS.fin h17 h15)
              clear hF hS h15 h17
              go_wp2_with fail
              go_meet
              rw [HN1.out, HN2.out]
              exact HFI
          case rest =>
            generalize wc = wx1 at *
            have HP3 := Lib.hid hcut.out
            clear hcut HP2
            obtain ⟨opr, hop⟩ : ∃ opr, opr = Pt.opr ⟨xk, xo, xv, xn, xx, xnm, xtb⟩ := ⟨_, rfl⟩
            have HOP := Lib.hid hop
            obtain ⟨N1, hN1⟩ : ∃ N1 : Int, N1 = if xk % 10 = 3 then 2 else if 4 ≤ xk % 10 ∧ xk % 10 ≤ 7 then 1 else if xk % 10 = 8 then xn % 2 else if xk % 10 = 1 ∨ xk % 10 = 2 then 0 else xn % 3 := ⟨_, rfl⟩
            have HN1 := Lib.hid hN1
            clear hop hN1
            have q0 := HP3.out.f8.cell 0; have q1 := HP3.out.f8.cell 1; have q3 := HP3.out.f8.cell 3
            have l0 := HP3.out.f8.lt
            have r1 := HP3.out.f9.cell 1
            have z1 := HP3.out.f9.frozen 1
            have l9 := HP3.out.f9.lt
            unfold Pt.cells at q0 q1 q3
            unfold fT eC at r1
            simp only [List.getElem?_cons_zero, List.getElem?_cons_succ] at q0 q1 q3 r1
            go_upto_block 1 with fail
            go_cut [11] from 110 to 135 (fun v wx => v = .int .i64 N1 ∧ Hid (Pre w g8 g9 ⟨xk, xo, xv, xn, xx, xnm, xtb⟩ (fT (xk % 10) opr vv.k vv.n vv.s (.slice none 0 0) tT tN) wx))
            case first =>
              as_aux_lemma =>
              by_cases e3 : xk % 10 = 3
              · have b3 : (xk % 10 == 3) = true := by simp [e3]
                have HE : Hid (opr = xo % 16 ∧ N1 = 2) := Lib.hid (by rw [HOP.out, HN1.out]; unfold Pt.opr; simp [e3])
                clear e3
                go_wp2_with fail
                go_meet
                rw [HE.out.1, HE.out.2]
                exact ⟨rfl, Lib.hid (HP3.out.set (by have := HG.out; omega) (by have := HG.out; omega) 1 (.int .i64 (xo % 16)))⟩
              have b3 : (xk % 10 == 3) = false := by simp [e3]
              by_cases e4 : xk % 10 = 4
              · have b4 : (xk % 10 == 4) = true := by simp [e4]
                have HE : Hid (opr = 0 ∧ N1 = 1) := Lib.hid (by rw [HOP.out, HN1.out]; unfold Pt.opr; simp [e4])
                clear e3 e4
                go_wp2_with fail
                go_meet
                rw [HE.out.1, HE.out.2]
                exact ⟨rfl, HP3⟩
              have b4 : (xk % 10 == 4) = false := by simp [e4]
              by_cases e5 : xk % 10 = 5
              · have b5 : (xk % 10 == 5) = true := by simp [e5]
                have HE : Hid (opr = 0 ∧ N1 = 1) := Lib.hid (by rw [HOP.out, HN1.out]; unfold Pt.opr; simp [e5])
                clear e3 e4 e5
                go_wp2_with fail
                go_meet
                rw [HE.out.1, HE.out.2]
                exact ⟨rfl, HP3⟩
              have b5 : (xk % 10 == 5) = false := by simp [e5]
              by_cases e6 : xk % 10 = 6
              · have b6 : (xk % 10 == 6) = true := by simp [e6]
                have HE : Hid (opr = 0 ∧ N1 = 1) := Lib.hid (by rw [HOP.out, HN1.out]; unfold Pt.opr; simp [e6])
                clear e3 e4 e5 e6
                go_wp2_with fail
                go_meet
                rw [HE.out.1, HE.out.2]
                exact ⟨rfl, HP3⟩
              have b6 : (xk % 10 == 6) = false := by simp [e6]
              by_cases e7 : xk % 10 = 7
              · have b7 : (xk % 10 == 7) = true := by simp [e7]
                have HE : Hid (opr = 0 ∧ N1 = 1) := Lib.hid (by rw [HOP.out, HN1.out]; unfold Pt.opr; simp [e7])
                clear e3 e4 e5 e6 e7
                go_wp2_with fail
                go_meet
                rw [HE.out.1, HE.out.2]
                exact ⟨rfl, HP3⟩
              have b7 : (xk % 10 == 7) = false := by simp [e7]
              by_cases e8 : xk % 10 = 8
              · have b8 : (xk % 10 == 8) = true := by simp [e8]
                have HE : Hid (opr = xo % 6 ∧ N1 = xn % 2) := Lib.hid (by rw [HOP.out, HN1.out]; unfold Pt.opr; simp [e8])
                clear e3 e4 e5 e6 e7 e8
                go_wp2_with fail
                go_meet
                rw [HE.out.1, HE.out.2]
                exact ⟨rfl, Lib.hid (HP3.out.set (by have := HG.out; omega) (by have := HG.out; omega) 1 (.int .i64 (xo % 6)))⟩
              have b8 : (xk % 10 == 8) = false := by simp [e8]
              by_cases e1 : xk % 10 = 1
              · have b1 : (xk % 10 == 1) = true := by simp [e1]
                have HE : Hid (opr = 0 ∧ N1 = 0) := Lib.hid (by rw [HOP.out, HN1.out]; unfold Pt.opr; simp [e1])
                clear e3 e4 e5 e6 e7 e8 e1
                go_wp2_with fail
                go_meet
                rw [HE.out.1, HE.out.2]
                exact ⟨rfl, HP3⟩
              have b1 : (xk % 10 == 1) = false := by simp [e1]
              by_cases e2 : xk % 10 = 2
              · have b2 : (xk % 10 == 2) = true := by simp [e2]
                have HE : Hid (opr = 0 ∧ N1 = 0) := Lib.hid (by rw [HOP.out, HN1.out]; unfold Pt.opr; simp [e2])
                clear e3 e4 e5 e6 e7 e8 e1 e2
                go_wp2_with fail
                go_meet
                rw [HE.out.1, HE.out.2]
                exact ⟨rfl, HP3⟩
              have b2 : (xk % 10 == 2) = false := by simp [e2]
              have HE : Hid (opr = 0 ∧ N1 = xn % 3) := Lib.hid (by rw [HOP.out, HN1.out]; unfold Pt.opr; simp only [e3, e8, e1, e2, if_false, or_false, false_or]; refine ⟨trivial, ?_⟩; rw [if_neg (by omega)])
              clear e3 e4 e5 e6 e7 e8 e1 e2
              go_wp2_with fail
              go_meet
              rw [HE.out.1, HE.out.2]
              exact ⟨rfl, HP3⟩
            case rest =>
              generalize wc = wx2 at *
              obtain ⟨rfl, hcut⟩ := hcut
              have HP4 := Lib.hid hcut.out
              clear hcut HP3 q0 q1 q3 l0 r1 z1 l9
              obtain ⟨num, hnum⟩ : ∃ num : Nat, num = (Pt.num ⟨xk, xo, xv, xn, xx, xnm, xtb⟩).toNat := ⟨_, rfl⟩
              have hnb := Pt.num_le HPX.out
              have HNI : Hid ((num : Int) = if 240 ≤ xk then xn % 4 else N1) := Lib.hid (by rw [hnum, Int.toNat_of_nonneg hnb.1, HN1.out]; rfl)
              have num3 : num ≤ 3 := by omega
              have HNU := Lib.hid hnum
              have q0 := HP4.out.f8.cell 0; have q3 := HP4.out.f8.cell 3
              have l0 := HP4.out.f8.lt
              unfold Pt.cells at q0 q3
              simp only [List.getElem?_cons_zero, List.getElem?_cons_succ] at q0 q3
              clear hnb hnum
              go_upto_if 138 with fail
              go_cut [11] from 136 to 142 (fun v wx => v = .int .i64 (num : Nat) ∧ wx = wx2)
              case first =>
                as_aux_lemma =>
                by_cases e0 : 240 ≤ xk
                · have HE : Hid ((num : Int) = xn % 4) := Lib.hid (by rw [HNI.out, if_pos e0])
                  go_wp2_with fail
                  go_meet
                  exact ⟨by rw [HE.out], rfl⟩
                · have HE : Hid ((num : Int) = N1) := Lib.hid (by rw [HNI.out, if_neg e0])
                  go_wp2_with fail
                  go_meet
                  exact ⟨by rw [HE.out], rfl⟩
              case rest =>
                obtain ⟨rfl, rfl⟩ := hcut
                clear q0 q3 l0
                generalize wc = wx2 at *
                obtain ⟨i0, hi, hz0, hz1, hz2⟩ := info_of infoQ
                obtain ⟨kl, hkl⟩ : ∃ kl, (kids (builtF ps f) num (a + 1)).1 = kl := ⟨_, rfl⟩
                obtain ⟨B, hB⟩ : ∃ B, wx2.heap.size = B := ⟨_, rfl⟩
                have HKL := Lib.hid hkl
                have HB := Lib.hid hB
                have HGB : Hid (w.heap.size < g8 ∧ g8 < g9 ∧ g9 < B) := Lib.hid (by have h1 := HG.out; have h2 := HP4.out.f9.lt; omega)
                have hkb : ∀ j, j ≤ 3 → (kids (builtF ps f) j (a + 1)).2 ≤ 1000 ∧ (j ≤ 2 → (kids (builtF ps f) j (a + 1)).2 ≤ 3 * min (kids (builtF ps f) j (a + 1)).2 n) := by
                  intro j hj
                  have := kids_room ps hps f a (by omega) j
                  rw [hn] at this
                  omega
                have HKB := Lib.hid hkb
                have num0 : (0 : Int) ≤ (num : Int) := by omega
                have num1 : (num : Int) ≤ 3 := by omega
                clear hkl hB hkb
                go_wp2_with fail
                go_loopw [10, 12] (fun nx i wr => ∃ (j : Nat) (L : Value) (ss : List Er), nx = .int .i64 ((kids (builtF ps f) j (a + 1)).2 : Nat) ∧ i = .int .i64 (j : Int) ∧ j ≤ num ∧ Hid (Pre w g8 g9 ⟨xk, xo, xv, xn, xx, xnm, xtb⟩ (fT (xk % 10) opr vv.k vv.n vv.s L tT tN) wr) ∧ Hid (NewL TQ B (f + 1) kl j L ss wr) ∧ Hid (B ≤ wr.heap.size)) (fun _ i _ => num - (intOf i).toNat)
                case atStart => exact ⟨0, _, [], by show Value.int .i64 ((a : Int) + 1) = .int .i64 ((a + 1 : Nat) : Int); rw [Int.natCast_add]; rfl, rfl, Nat.zero_le _, HP4, Lib.hid (NewL.no TQ B (f + 1) kl wx2), Lib.hid (by rw [HB.out]; exact Nat.le_refl _)⟩
                case round =>
                  obtain ⟨j, L, ss, rfl, rfl, hj, HPR, HNL, HBS⟩ := hrel
                  have j0 : (0 : Int) ≤ (j : Int) := by omega
                  obtain ⟨aL, cL, rfl⟩ := HNL.out.form
                  obtain ⟨nx, hnx⟩ : ∃ nx, (kids (builtF ps f) j (a + 1)).2 = nx := ⟨_, rfl⟩
                  rw [hnx]
                  have HNX := Lib.hid hnx
                  have nx1 : nx ≤ 1000 := by rw [← hnx]; exact (HKB.out j (by omega)).1
                  have x0' : (0 : Int) ≤ (nx : Int) := by omega
                  have x1' : (nx : Int) ≤ 1000 := by omega
                  by_cases hjn : j < num
                  · have dj : (j : Int) < (num : Int) := by omega
                    have hxj : kl[j]? = some (builtF ps f nx).1 := by rw [← HKL.out, kids_get _ _ _ _ hjn, HNX.out]
                    have hnx2 : (kids (builtF ps f) (j + 1) (a + 1)).2 = (builtF ps f nx).2 := by show (builtF ps f (kids (builtF ps f) j (a + 1)).2).2 = _; rw [HNX.out]
                    have hny : (builtF ps f nx).2 ≤ 1000 := by rw [← hnx2]; exact (HKB.out (j + 1) (by omega)).1
                    have hroom : nx ≤ 3 * min nx n := by rw [← hnx]; exact (HKB.out j (by omega)).2 (by omega)
                    obtain ⟨tr, htr⟩ : ∃ tr, (builtF ps f nx).1 = tr := ⟨_, rfl⟩
                    obtain ⟨ny, hny'⟩ : ∃ ny, (builtF ps f nx).2 = ny := ⟨_, rfl⟩
                    have hb2 : Below wr.heap.size wr (wr.alloc (.cells #[.int .i64 0, .int .i64 0, .int .i64 0, .int .i64 0, .string (ByteArray.mk #[]), .string (ByteArray.mk #[]), .string (ByteArray.mk #[]), .slice none 0 0] TQ)) := (Below.refl _ _).alloc (Nat.le_refl _) _
                    have HCL0 := Lib.hid (IH.out nx (wr.alloc (.cells #[.int .i64 0, .int .i64 0, .int .i64 0, .int .i64 0, .string (ByteArray.mk #[]), .string (ByteArray.mk #[]), .string (ByteArray.mk #[]), .slice none 0 0] TQ)) hroom (HROW.out.later (HPR.out.bel.trans (hb2.mono HPR.out.bel.size))))
                    have HCL : Hid (Calls Try.prog 6 #[.slice (some ⟨b0, off, none⟩) n cap, .int .i64 (nx : Nat), .int .i64 (D + 1)] (wr.alloc (.cells #[.int .i64 0, .int .i64 0, .int .i64 0, .int .i64 0, .string (ByteArray.mk #[]), .string (ByteArray.mk #[]), .string (ByteArray.mk #[]), .slice none 0 0] TQ)) fun en w' => ∃ r : Er, en = .returned (.tuple #[r.val, .int .i64 (ny : Nat)]) ∧ ExAt TQ (fun b => (wr.alloc (.cells #[.int .i64 0, .int .i64 0, .int .i64 0, .int .i64 0, .string (ByteArray.mk #[]), .string (ByteArray.mk #[]), .string (ByteArray.mk #[]), .slice none 0 0] TQ)).heap.size ≤ b) (f + 1) w' tr r ∧ Below (wr.alloc (.cells #[.int .i64 0, .int .i64 0, .int .i64 0, .int .i64 0, .string (ByteArray.mk #[]), .string (ByteArray.mk #[]), .string (ByteArray.mk #[]), .slice none 0 0] TQ)).heap.size (wr.alloc (.cells #[.int .i64 0, .int .i64 0, .int .i64 0, .int .i64 0, .string (ByteArray.mk #[]), .string (ByteArray.mk #[]), .string (ByteArray.mk #[]), .slice none 0 0] TQ)) w') := Lib.hid (by rw [HDD.out, ← htr, ← hny']; exact HCL0.out)
                    rw [htr] at hxj
                    rw [hny'] at hny hnx2
                    have y0 : (0 : Int) ≤ (ny : Int) := by omega
                    have y1 : (ny : Int) ≤ 1000 := by omega
                    have hF0 : Flds (wr.alloc (.cells #[.int .i64 0, .int .i64 0, .int .i64 0, .int .i64 0, .string (ByteArray.mk #[]), .string (ByteArray.mk #[]), .string (ByteArray.mk #[]), .slice none 0 0] TQ)) wr.heap.size TQ [.int .i64 0, .int .i64 0, .int .i64 0, .int .i64 0, .string (ByteArray.mk #[]), .string (ByteArray.mk #[]), .string (ByteArray.mk #[]), .slice none 0 0] := Flds.new wr TQ _
                    obtain ⟨W2, hW2⟩ : ∃ W2, wr.alloc (.cells #[.int .i64 0, .int .i64 0, .int .i64 0, .int .i64 0, .string (ByteArray.mk #[]), .string (ByteArray.mk #[]), .string (ByteArray.mk #[]), .slice none 0 0] TQ) = W2 := ⟨_, rfl⟩
                    obtain ⟨g13, hg13⟩ : ∃ g13, wr.heap.size = g13 := ⟨_, rfl⟩
                    have hz2' : W2.heap.size = wr.heap.size + 1 := by rw [← hW2, World.size_alloc]
                    rw [hW2] at HCL hF0 hb2
                    rw [hg13] at hF0
                    have HXJ := Lib.hid hxj; have HNX2 := Lib.hid hnx2; have HF0 := Lib.hid hF0; have HB2 := Lib.hid hb2; have HG13 := Lib.hid hg13; have HZ2 := Lib.hid hz2'
                    clear hxj hnx2 hF0 hb2 hz2' hroom HCL0 hny htr hny' hnx
                    go_upto_region 38 with fail
                    try rw [hW2]
                    try rw [hg13]
                    clear hW2 hg13
                    go_upto_region 39 with (go_at_call 6; refine HCL.out.mono ?_; rintro en w3 ⟨r, rfl, hex, hb3⟩; have HEX := Lib.hid hex; have HB3 := Lib.hid hb3; obtain ⟨au, cu, us', hul', -⟩ := hex.parts; obtain ⟨uk, uop, uv, utb, unm, ulv⟩ := r; (dsimp only at hul'); subst hul'; have hF13 := HF0.out.later hb3; clear hex hb3; unfold Er.val; dsimp only; have k0 := hF13.cell 0; have z0 := hF13.frozen 0; have k1 := hF13.cell 1; have z1 := hF13.frozen 1; have k2 := hF13.cell 2; have z2 := hF13.frozen 2; have k3 := hF13.cell 3; have z3 := hF13.frozen 3; have k4 := hF13.cell 4; have z4 := hF13.frozen 4; have k5 := hF13.cell 5; have z5 := hF13.frozen 5; have k6 := hF13.cell 6; have z6 := hF13.frozen 6; have k7 := hF13.cell 7; have z7 := hF13.frozen 7; have l13 := hF13.lt; (simp only [List.getElem?_cons_zero, List.getElem?_cons_succ] at k0 k1 k2 k3 k4 k5 k6 k7); have HF13 := Lib.hid hF13; clear hF13)
                    have hfs := ((((((((HF13.out.set 0 (.int .i64 uk)).set 1 (.int .i64 uop)).set 2 (.int .i64 uv.k)).set 3 (.int .i64 uv.n)).set 4 (.string uv.s)).set 5 (.string utb)).set 6 (.string unm)).set 7 (.slice au tr.l.length cu))
                    have hgw : w3.grownBy ((((((((w3.setCell ⟨g13, 0, none⟩ (.int .i64 uk)).setCell ⟨g13, 1, none⟩ (.int .i64 uop)).setCell ⟨g13, 2, none⟩ (.int .i64 uv.k)).setCell ⟨g13, 3, none⟩ (.int .i64 uv.n)).setCell ⟨g13, 4, none⟩ (.string uv.s)).setCell ⟨g13, 5, none⟩ (.string utb)).setCell ⟨g13, 6, none⟩ (.string unm)).setCell ⟨g13, 7, none⟩ (.slice au tr.l.length cu)) (some g13) := grown_two (grown_two (grown_two (grown_two (grown_two (grown_two (grown_two (grown_setCell _ ⟨g13, 0, none⟩ _) (grown_setCell _ ⟨g13, 1, none⟩ _)) (grown_setCell _ ⟨g13, 2, none⟩ _)) (grown_setCell _ ⟨g13, 3, none⟩ _)) (grown_setCell _ ⟨g13, 4, none⟩ _)) (grown_setCell _ ⟨g13, 5, none⟩ _)) (grown_setCell _ ⟨g13, 6, none⟩ _)) (grown_setCell _ ⟨g13, 7, none⟩ _)
                    generalize ((((((((w3.setCell ⟨g13, 0, none⟩ (.int .i64 uk)).setCell ⟨g13, 1, none⟩ (.int .i64 uop)).setCell ⟨g13, 2, none⟩ (.int .i64 uv.k)).setCell ⟨g13, 3, none⟩ (.int .i64 uv.n)).setCell ⟨g13, 4, none⟩ (.string uv.s)).setCell ⟨g13, 5, none⟩ (.string utb)).setCell ⟨g13, 6, none⟩ (.string unm)).setCell ⟨g13, 7, none⟩ (.slice au tr.l.length cu)) = W4 at hfs hgw ⊢
                    have hF4 : Flds W4 g13 TQ [.int .i64 uk, .int .i64 uop, .int .i64 uv.k, .int .i64 uv.n, .string uv.s, .string utb, .string unm, .slice au tr.l.length cu] := hfs
                    have hall : wr.grownBy W4 (some g13) := grown_two (grown_any HB2.out) (grown_two (grown_any HB3.out) hgw)
                    have hgB : B ≤ g13 := by have := HG13.out; have := HBS.out; omega
                    have hpr4 := HPR.out.grown hall (fun b e => by simp only [Option.some.injEq] at e; have := HGB.out; omega)
                    have hnl4 := HNL.out.aside hall (by have := HG13.out; omega)
                    have hex4 := HEX.out.grown hgw (fun b e hX => by simp only [Option.some.injEq] at e; have := HZ2.out; have := HG13.out; omega)
                    have hsz4 : wr.heap.size ≤ W4.heap.size := hall.size
                    have hW45 : Below W4.heap.size W4 (W4.alloc (.cells #[.int .i64 uk, .int .i64 uop, .int .i64 uv.k, .int .i64 uv.n, .string uv.s, .string utb, .string unm, .slice au tr.l.length cu] TQ)) := (Below.refl _ _).alloc (Nat.le_refl _) _
                    have HPR5 := Lib.hid (hpr4.grown (row := none) (grown_any hW45) (fun b e => by cases e))
                    have HNL5 := Lib.hid (hnl4.grown (row := none) (grown_any hW45) (fun b e => by cases e))
                    have HEX5 := Lib.hid (hex4.later hW45)
                    have HF5 : Hid (Flds (W4.alloc (.cells #[.int .i64 uk, .int .i64 uop, .int .i64 uv.k, .int .i64 uv.n, .string uv.s, .string utb, .string unm, .slice au tr.l.length cu] TQ)) W4.heap.size TQ (Er.cells ⟨uk, uop, uv, utb, unm, .slice au tr.l.length cu⟩)) := Lib.hid (Flds.new W4 TQ _)
                    have HONE := Lib.hid (cells_one hex4)
                    have HB5 : Hid (B ≤ (W4.alloc (.cells #[.int .i64 uk, .int .i64 uop, .int .i64 uv.k, .int .i64 uv.n, .string uv.s, .string utb, .string unm, .slice au tr.l.length cu] TQ)).heap.size) := Lib.hid (by rw [World.size_alloc]; have := HBS.out; omega)
                    have hj63 : j + 1 ≤ maxLen := by simp only [maxLen]; omega
                    have hj64 : (j + 1) * 104 ≤ 140737488355328 := by omega
                    have q97 := hpr4.f9.cell 7
                    have l9 := hpr4.f9.lt
                    have hLg : Hid (∀ b, (Value.slice aL j cL).ownBlock = some b → B ≤ b ∧ b < wr.heap.size) := Lib.hid (fun b hb => HNL.out.row.lt b hb)
                    unfold fT eC at q97
                    simp only [List.getElem?_cons_zero, List.getElem?_cons_succ] at q97
                    have k0 := hF4.cell 0; have k1 := hF4.cell 1; have k2 := hF4.cell 2; have k3 := hF4.cell 3; have k4 := hF4.cell 4; have k5 := hF4.cell 5; have k6 := hF4.cell 6; have k7 := hF4.cell 7
                    have l13 := hF4.lt
                    simp only [List.getElem?_cons_zero, List.getElem?_cons_succ] at k0 k1 k2 k3 k4 k5 k6 k7
                    clear hfs hgw hF4 hall hgB hpr4 hnl4 hex4 hsz4 hW45
                    go_wp2_with (at_builtin; refine wpList_append_row _ rfl (.tmp 157) (.tmp 159) 27 (by rfl) B TQ i0 _ 8 104 Try.underlying27 hi hz0 hz1 hz2 rfl (by decide) (.slice aL j cL) j (erCells ss) (by rfl) HNL5.out.row (.slice (some ⟨W4.heap.size, 0, none⟩) 1 1) 1 (Er.cells ⟨uk, uop, uv, utb, unm, .slice au tr.l.length cu⟩) (by rfl) (Row.of_flds HF5.out rfl 1) HONE.out hj63 hj64 HB5.out ?_; intro a9 c9 w9 hap; have HAP := Lib.hid hap; have hp9 := HPR5.out.grown hap.grown (fun b e => by have := (hLg.out b e).1; have := HGB.out; omega); have HP9 := Lib.hid hp9; have p97 := hp9.f9.cell 7; have y97 := hp9.f9.frozen 7; have m9 := hp9.f9.lt; (unfold fT eC at p97); (simp only [List.getElem?_cons_zero, List.getElem?_cons_succ] at p97); clear hap hp9)
                    go_roundw
                    case rel =>
                      have hnew := NewL.more (C := W2.heap.size) (by have := HZ2.out; have := HBS.out; omega) (fun b hb => by have := (hLg.out b hb).2; have := HZ2.out; omega) HNL5.out.at_ HNL5.out.len HXJ.out HEX5.out HAP.out
                      have hgs := grown_setCell w9 ⟨g9, 7, none⟩ (.slice a9 (j + 1) c9)
                      exact ⟨j + 1, _, _, by rw [HNX2.out], by go_num, by omega, Lib.hid (HP9.out.set HGB.out.1 HGB.out.2.1 7 _), Lib.hid (hnew.grown hgs (fun b e => by simp only [Option.some.injEq] at e; have := HGB.out; omega)), Lib.hid (by rw [World.size_setCell]; exact Nat.le_trans HB5.out HAP.out.grown.size)⟩
                    case measure => simp [intOf]; omega
                  · have dj : ¬ (j : Int) < (num : Int) := by omega
                    have hjn' : j = num := by omega
                    subst hjn'
                    have q0 := HPR.out.f9.cell 0; have k0 := HPR.out.f6.cell 0; have z0 := HPR.out.f6.frozen 0; have q1 := HPR.out.f9.cell 1; have k1 := HPR.out.f6.cell 1; have z1 := HPR.out.f6.frozen 1; have q2 := HPR.out.f9.cell 2; have k2 := HPR.out.f6.cell 2; have z2 := HPR.out.f6.frozen 2; have q3 := HPR.out.f9.cell 3; have k3 := HPR.out.f6.cell 3; have z3 := HPR.out.f6.frozen 3; have q4 := HPR.out.f9.cell 4; have k4 := HPR.out.f6.cell 4; have z4 := HPR.out.f6.frozen 4; have q5 := HPR.out.f9.cell 5; have k5 := HPR.out.f6.cell 5; have z5 := HPR.out.f6.frozen 5; have q6 := HPR.out.f9.cell 6; have k6 := HPR.out.f6.cell 6; have z6 := HPR.out.f6.frozen 6; have q7 := HPR.out.f9.cell 7; have k7 := HPR.out.f6.cell 7; have z7 := HPR.out.f6.frozen 7
                    have l6 := HPR.out.f6.lt
                    have l9 := HPR.out.f9.lt
                    unfold fT at q0 q1 q2 q3 q4 q5 q6 q7
                    unfold eC at q0 k0 q1 k1 q2 k2 q3 k3 q4 k4 q5 k5 q6 k6 q7 k7
                    simp only [List.getElem?_cons_zero, List.getElem?_cons_succ] at q0 k0 q1 k1 q2 k2 q3 k3 q4 k4 q5 k5 q6 k6 q7 k7
                    have hfs := ((((((((HPR.out.f6.set 0 (.int .i64 (xk % 10))).set 1 (.int .i64 opr)).set 2 (.int .i64 vv.k)).set 3 (.int .i64 vv.n)).set 4 (.string vv.s)).set 5 (.string tT)).set 6 (.string tN)).set 7 (.slice aL j cL))
                    have hgw : wr.grownBy ((((((((wr.setCell ⟨w.heap.size, 0, none⟩ (.int .i64 (xk % 10))).setCell ⟨w.heap.size, 1, none⟩ (.int .i64 opr)).setCell ⟨w.heap.size, 2, none⟩ (.int .i64 vv.k)).setCell ⟨w.heap.size, 3, none⟩ (.int .i64 vv.n)).setCell ⟨w.heap.size, 4, none⟩ (.string vv.s)).setCell ⟨w.heap.size, 5, none⟩ (.string tT)).setCell ⟨w.heap.size, 6, none⟩ (.string tN)).setCell ⟨w.heap.size, 7, none⟩ (.slice aL j cL)) (some w.heap.size) := grown_two (grown_two (grown_two (grown_two (grown_two (grown_two (grown_two (grown_setCell _ ⟨w.heap.size, 0, none⟩ _) (grown_setCell _ ⟨w.heap.size, 1, none⟩ _)) (grown_setCell _ ⟨w.heap.size, 2, none⟩ _)) (grown_setCell _ ⟨w.heap.size, 3, none⟩ _)) (grown_setCell _ ⟨w.heap.size, 4, none⟩ _)) (grown_setCell _ ⟨w.heap.size, 5, none⟩ _)) (grown_setCell _ ⟨w.heap.size, 6, none⟩ _)) (grown_setCell _ ⟨w.heap.size, 7, none⟩ _)
                    have HFS : Hid (Flds ((((((((wr.setCell ⟨w.heap.size, 0, none⟩ (.int .i64 (xk % 10))).setCell ⟨w.heap.size, 1, none⟩ (.int .i64 opr)).setCell ⟨w.heap.size, 2, none⟩ (.int .i64 vv.k)).setCell ⟨w.heap.size, 3, none⟩ (.int .i64 vv.n)).setCell ⟨w.heap.size, 4, none⟩ (.string vv.s)).setCell ⟨w.heap.size, 5, none⟩ (.string tT)).setCell ⟨w.heap.size, 6, none⟩ (.string tN)).setCell ⟨w.heap.size, 7, none⟩ (.slice aL j cL)) w.heap.size TQ [.int .i64 (xk % 10), .int .i64 opr, .int .i64 vv.k, .int .i64 vv.n, .string vv.s, .string tT, .string tN, .slice aL j cL]) := Lib.hid hfs
                    have HGW := Lib.hid hgw
                    have hne9 : w.heap.size < g9 := by have := HGB.out; omega
                    clear hfs hgw
                    go_wp2_with fail
                    have hfs := HFS.out
                    have hgw := HGW.out
                    clear q0 k0 z0 q1 k1 z1 q2 k2 z2 q3 k3 z3 q4 k4 z4 q5 k5 z5 q6 k6 z6 q7 k7 z7 HFS HGW
                    generalize ((((((((wr.setCell ⟨w.heap.size, 0, none⟩ (.int .i64 (xk % 10))).setCell ⟨w.heap.size, 1, none⟩ (.int .i64 opr)).setCell ⟨w.heap.size, 2, none⟩ (.int .i64 vv.k)).setCell ⟨w.heap.size, 3, none⟩ (.int .i64 vv.n)).setCell ⟨w.heap.size, 4, none⟩ (.string vv.s)).setCell ⟨w.heap.size, 5, none⟩ (.string tT)).setCell ⟨w.heap.size, 6, none⟩ (.string tN)).setCell ⟨w.heap.size, 7, none⟩ (.slice aL j cL)) = WF at *
                    have c0 := hfs.cell 0; have c1 := hfs.cell 1; have c2 := hfs.cell 2; have c3 := hfs.cell 3; have c4 := hfs.cell 4; have c5 := hfs.cell 5; have c6 := hfs.cell 6; have c7 := hfs.cell 7
                    simp only [List.getElem?_cons_zero, List.getElem?_cons_succ] at c0 c1 c2 c3 c4 c5 c6 c7
                    have hNL := HNL.out.grown hgw (fun b e => by simp only [Option.some.injEq] at e; have := HGB.out; omega)
                    have hbF : Below w.heap.size w WF := HPR.out.bel.grown hgw HPR.out.bel.size (fun b e => by simp only [Option.some.injEq] at e; omega)
                    have hwB : w.heap.size ≤ B := by have := HGB.out; omega
                    have hcs : tN = (if (Pt.named ⟨xk, xo, xv, xn, xx, xnm, xtb⟩) then cut xnm 20 else ByteArray.empty) ∧ tT = (if (Pt.named ⟨xk, xo, xv, xn, xx, xnm, xtb⟩) then cut xtb 20 else ByteArray.empty) := by
                      rw [HTN.out, HTT.out, HCB.out]
                      simp only [decide_eq_true_eq]
                      exact ⟨rfl, rfl⟩
                    have hE : (builtF ps (f + 1) a).1 = .mk (xk % 10) opr vv tT tN kl := by
                      rw [hBE.out, ← HNU.out, HKL.out, HOP.out, HVV.out, hcs.1, hcs.2]
                      rfl
                    have hE2 : (builtF ps (f + 1) a).2 = nx := by rw [hBE.out, ← HNU.out, HNX.out]
                    refine bodyPost_ret (v := .tuple #[Er.val ⟨xk % 10, opr, vv, tT, tN, .slice aL j cL⟩, .int .i64 (nx : Nat)]) (by simp [results, Try.results6, go_sem, c0, c1, c2, c3, c4, c5, c6, c7, Er.val]) rfl ⟨_, by rw [hE2], ?_, hbF⟩
                    rw [hE]
                    have hkl : kl.length = j := by rw [← HKL.out, kids_len]
                    refine ⟨rfl, rfl, rfl, rfl, rfl, fun b hb => by have := (hNL.row.lt b hb).1; show w.heap.size ≤ b; omega, ss, ?_, ?_, ?_⟩
                    · rw [hNL.len]; exact hkl.symm
                    · show WF.ownsRow 0 TQ 8 (.slice aL j cL) kl.length (erCells ss)
                      rw [hkl]; exact owns_base hNL.row (fun g hg => Nat.zero_le _)
                    · intro i x s hx hs
                      have hil : i < kl.length := (List.getElem?_eq_some_iff.1 hx).1
                      exact (hNL.at_ i x s (by omega) hx hs).mono (Nat.le_refl _) (fun b _ hb => by have := hb.1; show w.heap.size ≤ b; omega)
end Go.Proofs.Ytjnlimahcodomaa.ex
/- The law ExprTells: its first steps; walked. -/
namespace Go.Proofs.Ytjnlimahcodomaa.ex
set_option linter.unusedVariables false
open Go.RowKit
open val (V null veq6 gB ag3)
attribute [local go_sem] Oper.semAt_some
attribute [local go_sem high] run_min_keep
theorem pCells_take (l : List Pt) (m : Nat) : pCells (l.take m) = (pCells l).take (m * 7) := by
  induction l generalizing m with
  | nil => simp [pCells]
  | cons a l ih =>
    cases m with
    | zero => simp [pCells]
    | succ m =>
      rw [List.take_succ_cons, pCells_cons, pCells_cons, ih, show (m + 1) * 7 = m * 7 + 7 by omega]
      rfl
/-- the first parts of an argument, built -/
theorem built_args (v : Value) (ps : List Pt) (hps : ∀ x ∈ ps, PB x) (k : Nat) (hk : k ≤ 40) (a : Option Addr) (c c' : Nat) (w : World) (hr : Row w (.slice a ps.length c) 7 ps.length (pCells ps)) (n : Nat) (hn : n = min ps.length k) :
    ∀ W, Below w.heap.size w W → Calls Try.prog 6 #[.slice a n c', .int .i64 0, .int .i64 0] W (BuiltPost (ps.take k) 25 0 W) := by
  intro W hb
  have hlen : (ps.take k).length = n := by rw [List.length_take, hn, Nat.min_comm]
  have h := built_any (ps.take k) (fun x hx => hps x (List.mem_of_mem_take hx)) n hlen (by omega) a c' 25 (Nat.le_refl _) 0 W (by omega) (by
    have h1 := sub_take (hr.later hb) n (by omega) c'
    rw [← pCells_take] at h1
    have h2 : ps.take n = ps.take k := by rw [hn]; by_cases h : ps.length ≤ k
                                          · rw [Nat.min_eq_left h, List.take_of_length_le (Nat.le_refl _), List.take_of_length_le h]
                                          · rw [Nat.min_eq_right (by omega)]
    rw [h2] at h1; exact h1)
  exact h
theorem val_fit (x : Pt) (h5 : -9223372036854775808 ≤ x.x ∧ x.x ≤ 9223372036854775807) : x.val.s.size ≤ 1000 ∧ (-9223372036854775808 ≤ x.val.n ∧ x.val.n ≤ 9223372036854775807) := by
  have c3 := cut_size x.nm 70
  have he : (ByteArray.empty).size = 0 := by decide
  obtain ⟨u1, u2⟩ := h5
  unfold Pt.val null
  split
  · split
    · dsimp only; omega
    · split
      · dsimp only; omega
      · split
        · dsimp only; omega
        · dsimp only; omega
  · dsimp only; omega
theorem builtF_fit (ps : List Pt) (hps : ∀ x ∈ ps, PB x) (f : Nat) : ∀ a, Fit (builtF ps f a).1 := by
  have hleaf : Fit leaf1 := by
    intro x hx
    rw [leaf1_parts] at hx
    simp only [List.mem_singleton] at hx
    subst hx
    exact ⟨by decide, by decide, by decide, by decide, by decide⟩
  induction f with
  | zero => intro a; exact hleaf
  | succ f ih =>
    intro a
    cases h : ps[a]? with
    | none => rw [builtF_none (by rw [List.getElem?_eq_none_iff] at h; exact h)]; exact hleaf
    | some x =>
      rw [builtF_some h]
      have hb := hps x (List.mem_of_getElem? h)
      intro y hy
      have hk : ∀ n, ∀ z ∈ (kids (builtF ps f) n (a + 1)).1, Fit z := by
        intro n
        induction n with
        | zero => intro z hz; simp [kids] at hz
        | succ n ihn =>
          intro z hz
          simp only [kids, List.mem_append, List.mem_singleton] at hz
          rcases hz with hz | rfl
          · exact ihn z hz
          · exact ih _
      rw [ex_parts, partsL_flat] at hy
      rcases List.mem_cons.1 hy with rfl | hy
      · obtain ⟨h1, h2, h3, h4, h5, h6, h7⟩ := hb
        have c1 := cut_size x.nm 20
        have c2 := cut_size x.tb 20
        have c3 := cut_size x.nm 70
        have he : (ByteArray.empty).size = 0 := by decide
        unfold Pt.ex
        have hv := val_fit x h5
        refine ⟨?_, ?_, hv.1, hv.2⟩
        · show (if x.named then cut x.nm 20 else ByteArray.empty).size ≤ 1000
          split <;> omega
        · show (if x.named then cut x.tb 20 else ByteArray.empty).size ≤ 1000
          split <;> omega
      · obtain ⟨z, hz, hyz⟩ := List.mem_flatMap.1 hy
        exact hk _ z hz y hyz
/-- the same, with letters for what is built -/
theorem built_letters (v : Value) (ps : List Pt) (hps : ∀ x ∈ ps, PB x) (k : Nat) (hk : k ≤ 40) (a : Option Addr) (c c' : Nat) (w : World) (hr : Row w (.slice a ps.length c) 7 ps.length (pCells ps)) (n : Nat) (hn : n = min ps.length k) :
    ∃ (em : Ex) (nx : Int), em.slim ∧ Fit em ∧ em.parts.length ≤ 121 ∧ ∀ W, Below w.heap.size w W → Calls Try.prog 6 #[.slice a n c', .int .i64 0, .int .i64 0] W (fun en w' => ∃ r : Er, en = .returned (.tuple #[r.val, .int .i64 nx]) ∧ ExAt TQ (fun b => W.heap.size ≤ b) 26 w' em r ∧ Below W.heap.size W w') := by
  have hp : ∀ x ∈ ps.take k, PB x := fun x hx => hps x (List.mem_of_mem_take hx)
  have h := built_args v ps hps k hk a c c' w hr n hn
  have h1 := builtF_slim (ps.take k) hp 25 0
  have h2 := builtF_fit (ps.take k) hp 25 0
  have h3 := (builtF_few (ps.take k) hp (by rw [List.length_take]; omega) 25 0 (Nat.zero_le _)).2
  unfold BuiltPost at h
  generalize builtF (ps.take k) 25 0 = pr at h h1 h2 h3
  exact ⟨pr.1, _, h1, h2, h3, h⟩
end Go.Proofs.Ytjnlimahcodomaa.ex
