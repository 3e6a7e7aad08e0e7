/- The law PackBack, walked: where the texts are together of at most 2^20 bytes. -/
import Derived.Test.YtdobihnlegfkaaaPackReadsW
import Derived.Test.YtdobihnlegfkaaaRefPack
import Derived.BigRegionIn
namespace Go.Proofs.Ytdobihnlegfkaaa
set_option linter.unusedVariables false
open Go.RowKit Go.Shelf
attribute [local go_sem] Oper.semAt_some

theorem Row.take {w : World} {a : Option Addr} {n cap size : Nat} {xs : List Value} (h : Row w (.slice a n cap) size n xs) (m : Nat) (hm : m ≤ n) : Row w (.slice a m cap) size m (xs.take (m * size)) := by
  have hl := h.len
  have hms : m * size ≤ n * size := Nat.mul_le_mul_right _ hm
  obtain ⟨a', cap', e, _, h⟩ := h
  simp only [Value.slice.injEq] at e
  obtain ⟨rfl, -, rfl⟩ := e
  refine ⟨a, cap, rfl, by rw [List.length_take]; omega, ?_⟩
  rcases h with h | ⟨b, off, rfl, hc⟩
  · exact .inl (by omega)
  · exact .inr ⟨b, off, rfl, fun j hj => by rw [hc j (by omega), List.getElem?_take_of_lt hj]⟩

set_option maxRecDepth 100000 in
set_option maxHeartbeats 4000000 in
theorem back_in (a0 : Option Addr) (n0 cap0 : Nat) (ss0 : List ByteArray) (hn : ss0.length = n0) (hm : n0 ≤ 1048576) (hroom0 : (packB (ss0.take 20)).length ≤ 8388608) (hsz : ∀ s ∈ ss0, s.size ≤ 1048576) (w : World)
    (hR : Row w (.slice a0 n0 cap0) 1 n0 (ss0.map Value.string)) (hcap : n0 ≤ cap0) :
    CallsIn Fence.wide 3 Try.prog 3 #[.slice a0 n0 cap0] w fun e w' => e = .returned (.bool true) ∧ Below w.heap.size w w' := by
  obtain ⟨ss, hss⟩ : ∃ ss, ss0.take 20 = ss := ⟨_, rfl⟩
  obtain ⟨nn, hnn⟩ : ∃ nn : Nat, (min (n0 : Int) 20).toNat = nn := ⟨_, rfl⟩
  have hlen : ss.length = nn := by rw [← hss, List.length_take]; omega
  rw [hss] at hroom0
  have hRt : Row w (.slice a0 nn cap0) 1 ss.length (ss.map Value.string) := by
    have := hR.take nn (by omega)
    rw [hlen]
    rwa [Nat.mul_one, ← List.map_take, show ss0.take nn = ss by rw [← hss, ← List.take_length (l := ss0.take 20), List.take_take, List.length_take]; congr 1; omega] at this
  have hsz' : ∀ s ∈ ss, s.size < 4294967296 := fun s hs => by have := hsz s (by rw [← hss] at hs; exact List.mem_of_mem_take hs); omega
  have hspl := splitS_packB ss hsz'
  subst hlen
  refine callsIn_of_wp_marks Try.func3 rfl trivial ?_ rfl
  simp only [Try.ntmps3, List.size_toArray, List.length_cons, List.length_nil, Nat.reduceAdd, Nat.reduceSub, Array.replicate_succ, Array.replicate_zero, List.push_toArray, List.append_toArray, List.nil_append, List.cons_append]
  gi_wp2_with fail
  obtain ⟨W0, hW0⟩ : ∃ W0, (w.alloc (.cells #[.slice a0 n0 cap0] 22)).alloc (.cells #[.bool false] 4) = W0 := ⟨_, rfl⟩
  have hB0 : Below w.heap.size w W0 := by rw [← hW0]; exact ((Below.refl _ _).alloc (Nat.le_refl _) _).alloc (by simp) _
  have b1 : Boxed W0 w.heap.size 22 (.slice a0 n0 cap0) := by rw [← hW0]; exact (Boxed.new w _ _).alloc _
  have b2 : Boxed W0 (w.heap.size + 1) 4 (.bool false) := by rw [← hW0, show w.heap.size + 1 = (w.alloc (.cells #[.slice a0 n0 cap0] 22)).heap.size by simp]; exact Boxed.new _ _ _
  rw [hW0]
  clear hW0
  refine ⟨trivial, ?_⟩
  refine (callsIn_wide.2 (pack_speaks _)).mono ?_
  rintro e w1 ⟨rfl, hb1⟩
  have d1 := boxed_later b1 hb1
  have d2 := boxed_later b2 hb1
  have hB1 : Below w.heap.size w w1 := hB0.trans (hb1.mono hB0.size)
  clear b1 b2 hb1 hB0
  have c1 := d1.cell
  have f1 := d1.frozen
  have hmin0 : (0 : Int) ≤ min (n0 : Int) 20 := by omega
  have hmin1 : min (n0 : Int) 20 ≤ (n0 : Int) := by omega
  have hmin2 : min (n0 : Int) 20 ≤ (cap0 : Int) := by omega
  gi_wp2_with fail
  obtain ⟨W2, hW2⟩ : ∃ W2, w1.setCell ⟨w.heap.size, 0, none⟩ (.slice a0 ss.length cap0) = W2 := ⟨_, rfl⟩
  have hB2 : Below w.heap.size w W2 := by rw [← hW2]; exact hB1.setCell (p := ⟨w.heap.size, 0, none⟩) (Nat.le_refl _) _
  have b1 : Boxed W2 w.heap.size 22 (.slice a0 ss.length cap0) := by rw [← hW2]; exact d1.set _
  have b2 : Boxed W2 (w.heap.size + 1) 4 (.bool false) := by rw [← hW2]; exact d2.other (by omega) _
  rw [hW2]
  clear hW2 c1 f1 d1 d2 hB1
  refine ⟨trivial, ?_⟩
  refine (callsIn_wide.2 (pack_any _ ss _ (by omega) (hRt.later hB2) (by omega))).mono ?_
  rintro e w3 ⟨rfl, hb3⟩
  replace b1 := boxed_later b1 hb3
  replace b2 := boxed_later b2 hb3
  have hB3 := hB2.trans (hb3.mono hB2.size)
  clear hb3 hB2
  gi_wp2_with fail
  refine ⟨trivial, ?_⟩
  refine (callsIn_wide.2 (split_any _ _ (by rw [size_mk]; omega))).mono ?_
  rintro e w4 ⟨vl, rfl, hown4, hb4⟩
  rw [hspl] at hown4 ⊢
  dsimp only at hown4 ⊢
  rw [if_pos rfl] at hown4
  rw [if_pos rfl]
  obtain ⟨al, cl, rfl⟩ := owns_form hown4
  have hrl := Row.of_owns hown4
  replace b1 := boxed_later b1 hb4
  replace b2 := boxed_later b2 hb4
  have hB4 := hB3.trans (hb4.mono hB3.size)
  clear hb4 hB3 hown4
  have c1 := b1.cell
  have c1a : ∀ o, (w4.alloc o).cell? ⟨w.heap.size, 0, none⟩ = some (.slice a0 ss.length cap0) := fun o => (b1.alloc o).cell
  gi_wp2_with fail
  obtain ⟨W4, hW4⟩ : ∃ W4, w4.alloc (.cells #[.slice al ss.length cl] 22) = W4 := ⟨_, rfl⟩
  have hB4a : Below w4.heap.size w4 W4 := by rw [← hW4]; exact (Below.refl _ _).alloc (Nat.le_refl _) _
  have b4 : Boxed W4 w4.heap.size 22 (.slice al ss.length cl) := by rw [← hW4]; exact Boxed.new _ _ _
  replace b1 := boxed_later b1 hB4a
  replace b2 := boxed_later b2 hB4a
  replace hrl := hrl.later hB4a
  have hB5 : Below w.heap.size w W4 := hB4.trans (hB4a.mono hB4.size)
  rw [hW4]
  clear hW4 c1 c1a hB4a hB4
  refine ⟨trivial, ?_⟩
  refine (callsIn_wide.2 (refPack_any _ ss _ (by omega) (hRt.later hB5) (by omega))).mono ?_
  rintro e w5 ⟨rfl, hb5⟩
  replace b1 := boxed_later b1 hb5
  replace b2 := boxed_later b2 hb5
  replace b4 := boxed_later b4 hb5
  replace hrl := hrl.later hb5
  have hB6 := hB5.trans (hb5.mono hB5.size)
  have c1 := b1.cell
  have c4 := b4.cell
  clear hb5 hB5
  have HRT := Lib.hid hRt; have HRL := Lib.hid hrl; have HSP := Lib.hid hspl
  clear hRt hrl hspl hR
  gi_wp2_with fail
  clear c1 c4
  have hRr := Lib.hid (HRT.out.later hB6)
  refine ⟨trivial, ?_⟩
  refine (all_in _ _ _).mono ?_
  rintro e w6 ⟨rfl, rfl⟩
  gi_wp2
  have bN := Boxed.new w5 3 (.int .i64 0)
  obtain ⟨X, hX⟩ : ∃ X : ByteArray, ⟨(packB ss).toArray⟩ = X := ⟨_, rfl⟩
  have hXs : X.size ≤ 1099511627776 := by rw [← hX, size_mk]; omega
  have hXp : splitS X = (ss, true) := by rw [← hX]; exact HSP.out
  rw [hX]
  clear hX
  have bS : ((w5.alloc (.cells #[.int .i64 0] 3)).alloc (.cells #[.string X] 9)).cell? ⟨(w5.alloc (.cells #[.int .i64 0] 3)).heap.size, 0, none⟩ = some (.string X) := cells_new _ [_] _ 0
  have hBl : Below w5.heap.size w5 ((w5.alloc (.cells #[.int .i64 0] 3)).alloc (.cells #[.string X] 9)) := ((Below.refl _ _).alloc (Nat.le_refl _) _).alloc (by simp) _
  rw [World.size_alloc] at bS
  have hix := all_idx 2 (by decide) (w5.heap.size + 1) X hXs _ bS
  unfold allArgs at hix
  rw [hXp] at hix
  refine range_idx rfl (by decide) (gf := 38) (lb := #[.pointer (some ⟨w5.heap.size + 1, 0, none⟩)]) rfl trivial (enters_of Try.func38 (by kernel_rfl) rfl)
    hix (fun _ _ => trivial) (fun _ _ _ _ _ _ _ _ => trivial) (fun _ => rfl)
    (fun k W => (W.cell? ⟨w5.heap.size, 0, none⟩ = some (.int .i64 (k : Int)) ∧ W.frozen? ⟨w5.heap.size, 0, none⟩ = false) ∧ Below w5.heap.size w5 W)
    (fun _ _ _ => False)
    (OwnFrom.and (Own.from (fun s A B row hs hg hr => ⟨cell_kept hs.1 hg hr, (frozen_kept hs.1 hg hr).trans hs.2⟩) _) (ownFrom_below (Nat.le_refl _) (by simp; omega)))
    (fun _ _ _ _ _ hs _ _ => hs)
    ⟨⟨(bN.alloc _).cell, (bN.alloc _).frozen⟩, hBl⟩ ?a1 ?assign ?body ?done ?stop
  case assign =>
    intro l k W K hk hI hK
    clear hk hI
    gi_wp2
    exact hK
  case body =>
    rintro l k W hk ⟨⟨hc, hf⟩, hB⟩
    dsimp only at hk
    obtain ⟨bl, ol, cl', el, hcl⟩ := HRL.out.pos (by omega)
    obtain ⟨bw, ow, cw', ew, hcw⟩ := hRr.out.pos (by omega)
    simp only [Value.slice.injEq] at el ew
    obtain ⟨rfl, -, rfl⟩ := el
    obtain ⟨rfl, -, rfl⟩ := ew
    have g1 := (boxed_later b1 hB).cell
    have g4 := (boxed_later b4 hB).cell
    have hitem : (ss.map Value.string)[k]? = some (.string (ss[k]?.getD ByteArray.empty)) := by
      rw [List.getElem?_map, List.getElem?_eq_getElem hk]; rfl
    have gl := cell_later hB ((hcl k (by omega)).trans hitem)
    have gw := cell_later hB ((hcw k (by omega)).trans hitem)
    clear hcl hcw hitem
    have hk1 : (k : Int) < (ss.length : Int) := by omega
    have hk2 : (0 : Int) ≤ (k : Int) := by omega
    generalize ss[k]?.getD ByteArray.empty = T at *
    gi_wp2
    have hd2 : decide (ss.length ≤ k) = false := by simp; omega
    refine region_quiet_round (by kernel_rfl) (by kernel_rfl) (by kernel_rfl) ?_
    repeat (quiet_step_in (fail))
    refine wpQuietIn_nil ?_
    rintro _ ⟨nq, rfl⟩
    gi_wp2
    refine ⟨KeepsFrom.trans (Y := W.drewN nq) ⟨Nat.le_refl _, fun i o _ hi _ => hi⟩ ((KeepsOthers.setCell (W.drewN nq) ⟨w5.heap.size, 0, none⟩ _).from _), trivial, ⟨?_, ?_⟩, (below_drewN hB nq).setCell (p := ⟨w5.heap.size, 0, none⟩) (Nat.le_refl _) _⟩
    · exact World.cell?_setCell_same' _ _ _ (by show (W.cell? _).isSome = true; rw [hc]; rfl)
    · rw [World.frozen?_setCell]; exact hf
  case done =>
    rintro D W hD ⟨⟨hc, hf⟩, hB⟩ hK
    dsimp only at hc
    have g1 := (boxed_later b1 hB).cell
    have gr := boxed_later b2 hB
    have gr1 := gr.cell
    have gr2 := gr.frozen
    gi_wp2
    have hK' := (KeepsOthers.setCell W ⟨w.heap.size + 1, 0, none⟩ (.bool true)).same D _ hK rfl
    refine ⟨by simp, .inl ⟨_, _, rfl, run_takeDeferred hK', ?_⟩⟩
    have hc5 := cell_kept (World.cell?_setCell_same' W ⟨w.heap.size + 1, 0, none⟩ (.bool true) (by rw [gr1]; rfl)) (grownBy_putObj' _ D (.deferred none)) (fun r e => by cases e; exact ⟨_, hK', rfl⟩)
    refine ⟨.bool true, ?_, rfl, ((hB6.trans (hB.mono hB6.size)).setCell (p := ⟨w.heap.size + 1, 0, none⟩) (by simp) _).trans (belowK_b (w := w) (Nat.le_refl _) _ D _ _ (by have := hB6.size; simp at hD; omega) hK' rfl rfl)⟩
    simp [results, Try.f3, go_sem, hc5]
  case stop =>
    rintro D c k W _ _ h _
    exact h.elim

theorem back_walk (a0 : Option Addr) (n0 cap0 : Nat) (ss0 : List ByteArray) (hn : ss0.length = n0) (hm : n0 ≤ 1048576) (hroom0 : (packB (ss0.take 20)).length ≤ 8388608) (hsz : ∀ s ∈ ss0, s.size ≤ 1048576) (w : World)
    (hR : Row w (.slice a0 n0 cap0) 1 n0 (ss0.map Value.string)) (hcap : n0 ≤ cap0) :
    Calls Try.prog 3 #[.slice a0 n0 cap0] w fun e w' => e = .returned (.bool true) ∧ Below w.heap.size w w' :=
  callsIn_wide.1 (back_in a0 n0 cap0 ss0 hn hm hroom0 hsz w hR hcap)

end Go.Proofs.Ytdobihnlegfkaaa
