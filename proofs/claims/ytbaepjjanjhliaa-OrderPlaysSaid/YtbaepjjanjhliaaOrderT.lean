/- The law OrderTight, walked. -/
import Derived.Test.YtbaepjjanjhliaaOrderV
import Derived.Test.YtbaepjjanjhliaaOpen
namespace Go.Proofs.Ytbaepjjanjhliaa.ord
set_option linter.unusedVariables false
open Go.RowKit Go.Shelf arK
attribute [local go_sem] Oper.semAt_some

/-- the blocks that the range's body turns, and those that come later -/
def PX (B : Nat) : Nat → Prop := fun k => k = B ∨ k = B + 1 ∨ B + 1 + 1 + 1 ≤ k
/-- what holds ahead of the round k: the stamp ahead, whether it is the first round -/
def KT (L : List Int) (wr : World) (B : Nat) (k : Nat) (W : World) : Prop :=
  (W.cell? ⟨B, 0, none⟩ = some (.int .i64 (if k = 0 then 0 else (L[k - 1]?).getD 0)) ∧ W.frozen? ⟨B, 0, none⟩ = false) ∧
  (W.cell? ⟨B + 1, 0, none⟩ = some (.bool (k == 0)) ∧ W.frozen? ⟨B + 1, 0, none⟩ = false) ∧ Below wr.heap.size wr W
theorem KT.own {L : List Int} {wr : World} {B C : Nat} (h : wr.heap.size ≤ C) : OwnFrom C (KT L wr B) :=
  OwnFrom.and (Own.from (fun s A B row hs hg hr => ⟨cell_kept hs.1 hg hr, (frozen_kept hs.1 hg hr).trans hs.2⟩) _)
    (OwnFrom.and (Own.from (fun s A B row hs hg hr => ⟨cell_kept hs.1 hg hr, (frozen_kept hs.1 hg hr).trans hs.2⟩) _) (ownFrom_below (Nat.le_refl _) h))
theorem round_call {l n : Nat} {P : Program} {f : FuncId} {args : Array Value} {w : World} {R : Ending → World → Prop} (h : Calls P f args w R) : CallsIn (Fence.wide.inRound l) n P f args w R := (callsIn_wide (n := n)).2 h
theorem keeps_below {B : Nat} {W W' : World} (h : Below W.heap.size W W') : KeepsFrom B W W' := KeepsFrom.of_grownBy (grown_of_below h) (fun _ e => by cases e)
/-- a round's own two stores -/
theorem round_end {L : List Int} {wr W W' : World} {C k : Nat} {x : Int} (hx : L[k]? = some x) (hB : Below wr.heap.size wr W) (h : Below W.heap.size W W') (l1 : wr.heap.size + 1 < W.heap.size)
    (hc1 : ∃ u, W.cell? ⟨wr.heap.size, 0, none⟩ = some u) (hf1 : W.frozen? ⟨wr.heap.size, 0, none⟩ = false) (hc2 : ∃ u, W.cell? ⟨wr.heap.size + 1, 0, none⟩ = some u) (hf2 : W.frozen? ⟨wr.heap.size + 1, 0, none⟩ = false) :
    KeepsFrom C W ((W'.setCell ⟨wr.heap.size, 0, none⟩ (.int .i64 x)).setCell ⟨wr.heap.size + 1, 0, none⟩ (.bool false)) ∧
    Only (PX wr.heap.size) W ((W'.setCell ⟨wr.heap.size, 0, none⟩ (.int .i64 x)).setCell ⟨wr.heap.size + 1, 0, none⟩ (.bool false)) ∧
    KT L wr wr.heap.size (k + 1) ((W'.setCell ⟨wr.heap.size, 0, none⟩ (.int .i64 x)).setCell ⟨wr.heap.size + 1, 0, none⟩ (.bool false)) := by
  obtain ⟨u1, hc1⟩ := hc1
  obtain ⟨u2, hc2⟩ := hc2
  have d1 := cell_later h hc1
  have d2 := cell_later h hc2
  have e1 : W'.frozen? ⟨wr.heap.size, 0, none⟩ = false := (World.frozen?_of_block (a := ⟨wr.heap.size, 0, none⟩) (h.block wr.heap.size (by omega))).trans hf1
  have e2 : W'.frozen? ⟨wr.heap.size + 1, 0, none⟩ = false := (World.frozen?_of_block (a := ⟨wr.heap.size + 1, 0, none⟩) (h.block (wr.heap.size + 1) l1)).trans hf2
  refine ⟨((keeps_below h).trans ((KeepsOthers.setCell _ _ _).from _)).trans ((KeepsOthers.setCell _ _ _).from _), ((Only.of_below h).setCell _ _ (fun _ => .inl rfl)).setCell _ _ (fun _ => .inr (.inl rfl)), ⟨?_, ?_⟩, ⟨?_, ?_⟩, ?_⟩
  · rw [World.cell?_setCell_far _ _ _ _ (by simp), World.cell?_setCell_same' _ _ _ (by rw [d1]; rfl), if_neg (by omega), Nat.add_sub_cancel, hx]; rfl
  · rw [World.frozen?_setCell, World.frozen?_setCell]; exact e1
  · rw [World.cell?_setCell_same' _ _ _ (by rw [World.cell?_setCell_far _ _ _ _ (by simp), d2]; rfl)]; rfl
  · rw [World.frozen?_setCell, World.frozen?_setCell]; exact e2
  · exact ((after hB h hB.size).setCell (p := ⟨wr.heap.size, 0, none⟩) (Nat.le_refl _) _).setCell (p := ⟨wr.heap.size + 1, 0, none⟩) (by simp) _
set_option maxRecDepth 100000 in
set_option maxHeartbeats 4000000 in
theorem tight_in (n : Int) (hn : 0 ≤ n ∧ n ≤ 65535) (ts : List Bool) (v : Value) (w : World) (hrow : Row w v 1 ts.length (ts.map Value.bool)) (hmax : ts.length ≤ 9223372036854775807) :
    Calls Try.prog 6 #[.int .u16 n, v] w fun e w' => e = .returned (.bool true) ∧ Below w.heap.size w w' := by
  have HR := Lib.hid hrow
  obtain ⟨a, cap, rfl, -⟩ := hrow
  refine callsIn_wide.1 (callsIn_of_wp_marks (n := 3) Try.func6 rfl trivial (wpIn_wide.2 ?_) rfl)
  simp only [Try.ntmps6, List.size_toArray, List.length_cons, List.length_nil, Nat.reduceAdd, Nat.reduceSub, Array.replicate_succ, Array.replicate_zero, List.push_toArray, List.append_toArray, List.nil_append, List.cons_append]
  go_wp2_with fail
  (with_reducible refine (speaks_any _).mono ?_); rintro e w1 ⟨rfl, hb1⟩
  go_wp2_with fail
  (with_reducible refine (TI.new _).mono ?_); rintro e w2 ⟨bl, b, rfl, h2⟩
  go_wp2_with fail
  have hbx : Below w2.heap.size w2 (w2.alloc (.cells #[.pointer (some ⟨bl, 0, none⟩)] 49)) := (Below.refl _ _).alloc (Nat.le_refl _) _
  have h5 : TI (fun g => g = w2.heap.size) w1 bl b [0] (w2.alloc (.cells #[.pointer (some ⟨bl, 0, none⟩)] 49)) := (h2.adopt hbx).fewer (fun g hg => .inr ⟨by omega, by rw [hg]; simp⟩)
  have c5 : (w2.alloc (.cells #[.pointer (some ⟨bl, 0, none⟩)] 49)).cell? ⟨w2.heap.size, 0, none⟩ = some (.pointer (some ⟨bl, 0, none⟩)) := cells_new w2 [_] _ 0
  have bG := Flds.new w 4 [.bool false]
  obtain ⟨M, hM⟩ : ∃ M : Nat, n.tmod 700 = (M : Int) := ⟨(n.tmod 700).toNat, by have := Int.tmod_nonneg (a := n) 700 (by omega); omega⟩
  have hM7 : M < 700 := by have := Int.tmod_lt_of_pos n (b := 700) (by omega); omega
  have H5 := Lib.hid h5; have C5 := Lib.hid c5; have HB1 := Lib.hid hb1; have BG := Lib.hid bG
  have hgle := h2.below.size
  have HBW : Hid (∀ (L : List Int) (F : Nat → Prop) (W : World), TI F w1 bl b L W → Below w.heap.size w W) := Lib.hid (fun L F W h => by
    have z1 := hb1.size
    rw [World.size_alloc] at z1
    exact (((Below.refl _ w).alloc (Nat.le_refl _) _).trans (hb1.mono (by simp))).trans (h.below.mono (by omega)))
  clear h5 c5 hb1 bG h2 hbx
  generalize w2.alloc (.cells #[.pointer (some ⟨bl, 0, none⟩)] 49) = W5 at *
  generalize w2.heap.size = G at *
  go_loopw [6, 7] (fun l i wr => ∃ (L : List Int) (q : Nat) (li : Int) (j : Nat), l = .int .i64 li ∧ i = .int .i64 (j : Int) ∧ j ≤ M ∧ L.length = j + 1 ∧ Hid (L[q]? = some li) ∧ Hid (TI (fun g => g = G) w1 bl b L wr) ∧ Hid (wr.cell? ⟨G, 0, none⟩ = some (.pointer (some ⟨bl, 0, none⟩)))) (fun _ i _ => match i with | .int _ j => 700 - j.toNat | _ => 0)
  case atStart => exact ⟨[0], 0, 0, 0, rfl, rfl, Nat.zero_le _, rfl, Lib.hid rfl, H5, C5⟩
  case round =>
    obtain ⟨L, q, li, j, rfl, rfl, hjM, hL, HQ, HT, HC⟩ := hrel
    have hd0 : (0 : Int) ≤ (j : Int) := by omega
    by_cases hj : j < M
    · have hd1 : (j : Int) < (M : Int) := by omega
      have cG := HC.out
      go_upto_region 9 with fail
      go_cut [47] from 24 to 46 (fun s47 wx => ∃ c : Bool, s47 = .bool c ∧ Hid (TI (fun g => g = G) w1 bl b L wx) ∧ Hid (wx.cell? ⟨G, 0, none⟩ = some (.pointer (some ⟨bl, 0, none⟩))))
      case first =>
        have hrw := HR.out.later (HBW.out _ _ _ HT.out)
        by_cases c1 : j < ts.length
        · obtain ⟨ba, off, cap', ea, hcell⟩ := hrw.pos (by omega)
          simp only [Value.slice.injEq] at ea
          obtain ⟨rfl, -, rfl⟩ := ea
          have g1 := hcell j (by omega)
          have hm : j % ts.length < ts.length := Nat.mod_lt _ (by omega)
          have g2 := hcell (j % ts.length) (by omega)
          have hmd : (j : Int).tmod (ts.length : Int) = ((j % ts.length : Nat) : Int) := by rw [Int.tmod_eq_emod_of_nonneg (by omega)]; rfl
          rw [List.getElem?_map, List.getElem?_eq_getElem c1] at g1
          rw [List.getElem?_map, List.getElem?_eq_getElem hm] at g2
          simp only [Option.map_some] at g1 g2
          generalize ts[j] = x1 at *
          generalize ts[j % ts.length] = x2 at *
          generalize j % ts.length = m at *
          have d1 : (j : Int) < (ts.length : Int) := by omega
          have d2 : (m : Int) < (ts.length : Int) := by omega
          have d3 : (0 : Int) ≤ (m : Int) := by omega
          have d4 : (0 : Int) < (ts.length : Int) := by omega
          clear hcell hrw
          cases x1 <;> cases x2
          all_goals (go_wp2_with fail)
          all_goals go_meet
          all_goals exact ⟨_, rfl, HT, HC⟩
        · by_cases c2 : 0 < ts.length
          · obtain ⟨ba, off, cap', ea, hcell⟩ := hrw.pos (by omega)
            simp only [Value.slice.injEq] at ea
            obtain ⟨rfl, -, rfl⟩ := ea
            have hm : j % ts.length < ts.length := Nat.mod_lt _ (by omega)
            have g2 := hcell (j % ts.length) (by omega)
            have hmd : (j : Int).tmod (ts.length : Int) = ((j % ts.length : Nat) : Int) := by rw [Int.tmod_eq_emod_of_nonneg (by omega)]; rfl
            rw [List.getElem?_map, List.getElem?_eq_getElem hm] at g2
            simp only [Option.map_some] at g2
            generalize ts[j % ts.length] = x2 at *
            generalize j % ts.length = m at *
            have d1 : ¬ (j : Int) < (ts.length : Int) := by omega
            have d2 : (m : Int) < (ts.length : Int) := by omega
            have d3 : (0 : Int) ≤ (m : Int) := by omega
            have d4 : (0 : Int) < (ts.length : Int) := by omega
            clear hcell hrw
            cases x2
            all_goals (go_wp2_with fail)
            all_goals go_meet
            all_goals exact ⟨_, rfl, HT, HC⟩
          · have d1 : ¬ (j : Int) < (ts.length : Int) := by omega
            have d4 : ¬ (0 : Int) < (ts.length : Int) := by omega
            go_wp2_with fail
            go_meet
            exact ⟨_, rfl, HT, HC⟩
      case rest =>
        obtain ⟨c, rfl, HT2, HC2⟩ := hcut
        go_upto_if 47 with fail
        go_cut [8] from 48 to 48 (fun s8 wx => ∃ (p : Nat) (i : Int), s8 = .int .i64 i ∧ Hid (L[p]? = some i) ∧ Hid (TI (fun g => g = G) w1 bl b L wx) ∧ Hid (wx.cell? ⟨G, 0, none⟩ = some (.pointer (some ⟨bl, 0, none⟩))))
        case first =>
          cases c
          · go_wp2_with fail
            go_meet
            exact ⟨0, 0, rfl, Lib.hid HT2.out.head, HT2, HC2⟩
          · go_wp2_with fail
            go_meet
            exact ⟨q, li, rfl, HQ, HT2, HC2⟩
        case rest =>
          obtain ⟨p, i, rfl, HQ3, HT3, HC3⟩ := hcut
          have c3 := HC3.out
          have hpl := (List.getElem?_eq_some_iff.1 HQ3.out).1
          have hA := HT3.out.after (by omega) HQ3.out
          have hii := ins_len (L := L) (p := p) (n := (L.length : Int))
          have e1 : (ins L p (L.length : Int))[p]? = some i := (ins_lt hpl (Nat.le_refl _)).trans HQ3.out
          have e2 : (ins L p (L.length : Int))[p + 1]? = some (L.length : Int) := ins_at hpl
          obtain ⟨N, hN⟩ : ∃ N : Int, (L.length : Int) = N := ⟨_, rfl⟩
          rw [hN] at hA e1 e2 hii
          have HA := Lib.hid hA
          clear hA hN
          go_wp2_with fail
          (with_reducible refine HA.out.mono ?_); rintro e w5 ⟨rfl, h5, hk5⟩
          have k0 := (World.cell?_of_block (a := ⟨G, 0, none⟩) (hk5 G rfl)).trans c3
          have K0 := Lib.hid k0
          have K5 := Lib.hid h5
          have E2 := Lib.hid e2
          have L1 := Lib.hid (fun W (hb : Below w5.heap.size w5 W) => (h5.later hb).less e1 e2)
          have L2 := Lib.hid (fun W (hb : Below w5.heap.size w5 W) => (h5.later hb).less h5.head e2)
          rw [decide_eq_true (by omega : p < p + 1)] at L1
          rw [decide_eq_true (by omega : 0 < p + 1)] at L2
          clear hk5 h5 e1 e2 k0
          have k1 := K0.out
          go_wp2_with fail
          (with_reducible refine (L1.out _ (by first | exact Below.refl _ _ | exact (Below.refl _ _).drew)).mono ?_); rintro e w6 ⟨rfl, hb6⟩
          have hb6 : Below w5.heap.size w5 w6 := by first | exact hb6 | exact ((Below.refl _ _).drew).trans hb6
          have k2 := cell_later hb6 K0.out
          go_wp2_with fail
          (with_reducible refine (L2.out _ (by first | exact hb6 | exact hb6.drew)).mono ?_); rintro e w7 ⟨rfl, hb7⟩
          have hb7 : Below w5.heap.size w5 w7 := by first | exact after hb6 hb7 hb6.size | exact after hb6 (((Below.refl _ _).drew).trans hb7) hb6.size
          go_wp2_with fail
          go_roundw
          case rel => exact ⟨_, p + 1, _, j + 1, rfl, rfl, by omega, by rw [hii, hL], E2, Lib.hid (K5.out.later hb7), Lib.hid (cell_later hb7 K0.out)⟩
          case measure => simp; omega
    · obtain rfl : j = M := by omega
      have cG := HC.out
      have hd1 : ¬ (j : Int) < (j : Int) := by omega
      have hB0 : Below wr.heap.size wr ((wr.alloc (.cells #[.int .i64 0] 3)).alloc (.cells #[.bool true] 4)) := ((Below.refl _ _).alloc (Nat.le_refl _) _).alloc (by simp) _
      have k0 := cell_later hB0 HC.out
      have HB0 := Lib.hid hB0
      clear hB0
      go_wp2_with fail
      refine (callsIn_wide.1 (all_in 1 bl _)).mono ?_
      rintro e w3 ⟨rfl, rfl⟩
      go_wp2_with fail
      refine (wpIn_wide (n := 3)).1 ?_
      have bN := (Boxed.new wr 3 (.int .i64 0)).alloc (.cells #[.bool true] 4)
      have bM := Boxed.new (wr.alloc (.cells #[.int .i64 0] 3)) 4 (.bool true)
      have bS := cells_new ((wr.alloc (.cells #[.int .i64 0] 3)).alloc (.cells #[.bool true] 4)) [.pointer (some ⟨bl, 0, none⟩)] 49 0
      have hBV : Below wr.heap.size wr (((wr.alloc (.cells #[.int .i64 0] 3)).alloc (.cells #[.bool true] 4)).alloc (.cells #[.pointer (some ⟨bl, 0, none⟩)] 49)) := HB0.out.alloc (by simp; omega) _
      rw [World.size_alloc, World.size_alloc] at bS
      rw [World.size_alloc] at bM
      refine range_idx rfl (by decide) (gf := 58) (lb := #[.pointer (some ⟨wr.heap.size + 1 + 1, 0, none⟩)]) rfl trivial (enters_of Try.func58 (by kernel_rfl) rfl)
        (HT.out.all hBV (PX wr.heap.size) (fun k hk => by unfold PX at hk; omega) _ (by decide) (wr.heap.size + 1 + 1) (fun h => by unfold PX at h; omega) bS) (fun h h' => h.trans h' (fun _ _ h => h)) (fun W l o o' hl _ _ _ => ⟨rfl, rfl, rfl, by simp, fun k hk hn => World.putObj_heap_other (fun e => hn (by unfold PX; simp at hl; omega))⟩) (fun _ => rfl)
        (KT L wr wr.heap.size) (fun _ _ _ => False) (KT.own (by simp; omega)) (fun _ _ _ _ _ hs _ _ => hs)
        ⟨⟨(bN.alloc _).cell, (bN.alloc _).frozen⟩, ⟨(bM.alloc _).cell, (bM.alloc _).frozen⟩, hBV⟩ ?a1 ?assign ?body ?done ?stop
      case stop =>
        rintro D c k W _ _ h _
        exact h.elim
      case assign =>
        intro l k W K hk hI hK
        clear hk hI
        unfold allArgs
        gi_wp2
        exact hK
      case body =>
        rintro l k W hk ⟨⟨hc1, hf1⟩, ⟨hc2, hf2⟩, hB⟩
        obtain ⟨x, hx⟩ : ∃ x, L[k]? = some x := ⟨_, List.getElem?_eq_getElem hk⟩
        rw [hx, Option.getD_some]
        have l1 : wr.heap.size < W.heap.size := World.block_lt_of_cell? W ⟨wr.heap.size, 0, none⟩ hc1
        by_cases h0 : k = 0
        · subst h0
          obtain rfl : x = 0 := by have := HT.out.head; rw [hx] at this; exact Option.some.inj this
          rw [show ((0 : Nat) == 0) = true from rfl] at hc2
          gi_wp2
          exact round_end hx hB (Below.refl _ _) (World.block_lt_of_cell? W ⟨wr.heap.size + 1, 0, none⟩ hc2) ⟨_, hc1⟩ hf1 ⟨_, hc2⟩ hf2
        · obtain ⟨y, hy⟩ : ∃ y, L[k - 1]? = some y := ⟨_, List.getElem?_eq_getElem (by omega)⟩
          rw [if_neg h0, hy, Option.getD_some] at hc1
          rw [show (k == 0) = false from beq_eq_false_iff_ne.2 h0] at hc2
          have cG := cell_later hB HC.out
          have L1 := Lib.hid (fun W' (hb : Below W.heap.size W W') => ((HT.out.later hB).later hb).less hy hx)
          have L2 := Lib.hid (fun W' (hb : Below W.heap.size W W') => ((HT.out.later hB).later hb).less hx hy)
          rw [decide_eq_true (by omega : k - 1 < k)] at L1
          rw [decide_eq_false (by omega : ¬ k < k - 1)] at L2
          have RE := Lib.hid (fun (W' : World) (h : Below W.heap.size W W') => round_end (C := (((wr.alloc (.cells #[.int .i64 0] 3)).alloc (.cells #[.bool true] 4)).alloc (.cells #[.pointer (some ⟨bl, 0, none⟩)] 49)).heap.size) hx hB h (World.block_lt_of_cell? W ⟨wr.heap.size + 1, 0, none⟩ hc2) ⟨_, hc1⟩ hf1 ⟨_, hc2⟩ hf2)
          have C1 := Lib.hid hc1; have C2 := Lib.hid hc2; have CG := Lib.hid cG; have F1 := Lib.hid hf1; have F2 := Lib.hid hf2
          gi_wp2
          refine ⟨trivial, (round_call (L1.out _ (Below.refl _ _))).mono ?_⟩
          rintro e w6 ⟨rfl, hb6⟩
          have a1 := cell_later hb6 C1.out; have a2 := cell_later hb6 CG.out
          gi_wp2
          refine ⟨trivial, (round_call (L2.out _ hb6)).mono ?_⟩
          rintro e w7 ⟨rfl, hb7⟩
          have hb7 := after hb6 hb7 hb6.size
          have b1 := cell_later hb7 C1.out; have b2 := cell_later hb7 C2.out
          have f1 : w7.frozen? ⟨wr.heap.size, 0, none⟩ = false := (World.frozen?_of_block (a := ⟨wr.heap.size, 0, none⟩) (hb7.block wr.heap.size l1)).trans F1.out
          have f2 : w7.frozen? ⟨wr.heap.size + 1, 0, none⟩ = false := (World.frozen?_of_block (a := ⟨wr.heap.size + 1, 0, none⟩) (hb7.block (wr.heap.size + 1) (World.block_lt_of_cell? W ⟨wr.heap.size + 1, 0, none⟩ C2.out))).trans F2.out
          gi_wp2
          exact RE.out _ hb7
      case done =>
        rintro D W hD ⟨-, -, hB⟩ hK
        have cG := cell_later hB HC.out
        have hT := HT.out.later hB
        have HLN := Lib.hid hT.len
        have z0 := HB1.out.size
        rw [World.size_alloc] at z0
        have bg := (BG.out.later (HB1.out.trans (hT.below.mono (by simp; omega))))
        have HFX := Lib.hid bg
        have HK := Lib.hid hK; have HBx := Lib.hid hB; have HTx := Lib.hid hT
        rw [hL] at HLN
        clear hB hK bg hT
        go_wp2_with fail
        (with_reducible refine HLN.out.mono ?_); rintro e w8 ⟨rfl, hb8⟩
        have hfw := HFX.out.later hb8
        have r1 := hfw.cell 0; have r2 := hfw.frozen 0; have r3 := hfw.lt
        simp only [List.getElem?_cons_zero] at r1
        have HFW := Lib.hid hfw; have HB8 := Lib.hid hb8
        have hcast : ((j + 1 : Nat) : Int) = 1 + (j : Int) := by omega
        rw [hcast]
        clear hfw hb8
        go_wp2_with fail
        have lD : D < W.heap.size := (Array.getElem?_eq_some_iff.1 HK.out).1
        have hD5 : w.heap.size ≠ D := by have := (HBW.out _ _ _ HT.out).size; simp at hD; omega
        have f0 : Flds (w8.setCell ⟨w.heap.size, 0, none⟩ (.bool true)) w.heap.size 4 [.bool true] := HFW.out.set 0 (.bool true)
        have k1 : (w8.setCell ⟨w.heap.size, 0, none⟩ (.bool true)).heap[D]? = some (.deferred (some [])) := (Below.heap_setCell _ _ _ _ (by simp; omega)).trans ((HB8.out.block D lD).trans HK.out)
        have b0 : Below w.heap.size w (w8.setCell ⟨w.heap.size, 0, none⟩ (.bool true)) := (after (HBW.out _ _ _ HTx.out) HB8.out (HBW.out _ _ _ HTx.out).size).setCell (Nat.le_refl _) _
        generalize w8.setCell ⟨w.heap.size, 0, none⟩ (.bool true) = W3 at *
        have f2 : Flds (W3.putObj D (.deferred none)) w.heap.size 4 [.bool true] := (World.putObj_heap_other hD5).trans f0
        have hcc := f2.cell 0
        simp only [List.getElem?_cons_zero] at hcc
        refine ⟨by simp, .inl ⟨_, _, rfl, run_takeDeferred k1, ?_⟩⟩
        refine ⟨.bool true, by simp [results, Try.f6, go_sem, hcc], rfl, ?_⟩
        refine Below.trans ?_ (belowK_b (w := w) (Nat.le_refl _) _ D _ _ (by have := (HBW.out _ _ _ HTx.out).size; simp at hD; have := HBW.out _ _ _ HT.out; have := this.size; omega) k1 rfl rfl)
        exact b0
theorem tight_walk (n : Int) (ts : List Bool) (v : Value) (w : World) (hrow : Row w v 1 ts.length (ts.map Value.bool)) (hmax : ts.length ≤ 9223372036854775807) (hn : 0 ≤ n ∧ n ≤ 65535) :
    Calls Try.prog 6 #[.int .u16 n, v] w fun e w' => e = .returned (.bool true) ∧ Below w.heap.size w w' := tight_in n hn ts v w hrow hmax
end Go.Proofs.Ytbaepjjanjhliaa.ord
