/- The law OrderPlays, walked. -/
import Derived.Test.YtbaepjjanjhliaaOrderM
import Derived.Test.YtbaepjjanjhliaaOrderV
import Derived.Test.YtbaepjjanjhliaaOrderT
import Derived.Test.YtbaepjjanjhliaaOpenActs
import Derived.Deep.RegionHeld3
namespace Go.Proofs.Ytbaepjjanjhliaa.ord
set_option linter.unusedVariables false
open Go.RowKit Go.Shelf arK
attribute [local go_sem] Oper.semAt_some

/-- what is left of a loop's rounds; no 'match' in the open -/
def upTo (n : Nat) : Value → Nat
  | .int _ j => n - j.toNat
  | _ => 0
/-- the blocks that the document's rows keep from -/
def XO (own : Nat → Prop) (bl bm bR : Nat) : Nat → Prop := fun k => own k ∨ k = bl ∨ k = bm ∨ k = bR
/-- the law's own things: the list at block bl, the document's list in the variable at block bm, the result's variable at block bR -/
def PO (w0 : World) (bR bl b bm : Nat) (L : List Int) (W : World) : Prop :=
  ∃ own s r aO cO aT cT aU cU aF cF ts, (LI own bl b s W ∧ Both s r L) ∧
    (ref01.RefAt (XO own bl bm bR) r ts aT cT aU cU aF cF W ∧ Row W (.slice aO L.length cO) 1 L.length (ref01.ints L) ∧ (L.length ≠ 0 → ∀ x, aO = some x → ¬ XO own bl bm bR x.block) ∧ L.length ≤ cO) ∧
    (Flds W bm ref02.TM [.slice aO L.length cO, .int .i64 r.room, .slice aT r.sl.length cT, .slice aU r.sl.length cU, .slice aF r.fr.length cF] ∧ Flds W bR 4 [.bool false]) ∧
    (∀ k, own k → w0.heap.size ≤ k ∧ k ≠ bm ∧ k ≠ bR) ∧ Below w0.heap.size w0 W ∧ (w0.heap.size ≤ bl ∧ w0.heap.size ≤ bm ∧ w0.heap.size ≤ bR ∧ bm ≠ bR ∧ bm ≠ bl ∧ bR ≠ bl)
theorem PO.mk5 {w0 w5 : World} {bR bl b bm : Nat} {own : Nat → Prop} {s' : Ar Lk} {r' : Ar Int} {L' : List Int} {aO : Option Addr} {cO : Nat} {ts : List Int} {aT aU aF : Option Addr} {cT cU cF : Nat} {q0 q1 q2 q3 q4 : Value} (hI : LI own bl b s' w5) (hb : Both s' r' L')
    (hR : ref01.RefAt (XO own bl bm bR) r' ts aT cT aU cU aF cF w5) (hrow : Row w5 (.slice aO L'.length cO) 1 L'.length (ref01.ints L')) (hfar : L'.length ≠ 0 → ∀ x, aO = some x → ¬ XO own bl bm bR x.block) (hle : L'.length ≤ cO)
    (hm : Flds w5 bm ref02.TM [q0, q1, q2, q3, q4]) (hfR : Flds w5 bR 4 [.bool false])
    (hown : ∀ k, own k → w0.heap.size ≤ k ∧ k ≠ bm ∧ k ≠ bR) (hbel : Below w0.heap.size w0 w5) (hbs : w0.heap.size ≤ bl ∧ w0.heap.size ≤ bm ∧ w0.heap.size ≤ bR ∧ bm ≠ bR ∧ bm ≠ bl ∧ bR ≠ bl) :
    PO w0 bR bl b bm L' (((((w5.setCell ⟨bm, 0, none⟩ (.slice aO L'.length cO)).setCell ⟨bm, 1, none⟩ (.int .i64 r'.room)).setCell ⟨bm, 2, none⟩ (.slice aT r'.sl.length cT)).setCell ⟨bm, 3, none⟩ (.slice aU r'.sl.length cU)).setCell ⟨bm, 4, none⟩ (.slice aF r'.fr.length cF)) := by
  obtain ⟨hgr, hfl⟩ := ref02.five hm (.slice aO L'.length cO) (.int .i64 r'.room) (.slice aT r'.sl.length cT) (.slice aU r'.sl.length cU) (.slice aF r'.fr.length cF)
  have ho : Only (fun k => k = bm) w5 _ := (Only.refl _ w5).grown hgr (fun k e _ => by cases e; rfl)
  exact ⟨own, s', r', aO, cO, aT, cT, aU, cU, aF, cF, ts, ⟨hI.keep ho (fun k hk e => (hown k hk).2.1 e) (fun e => hbs.2.2.2.2.1 e.symm), hb⟩,
    ⟨hR.only (ho.mono fun k _ e => .inr (.inr (.inl e))), ref01.row_only hrow ho (fun h0 x hx e => hfar h0 x hx (.inr (.inr (.inl e)))), hfar, hle⟩, ⟨hfl, hfR.only ho (fun e => hbs.2.2.2.1 e.symm)⟩, hown, hbel.trans (ho.below hbel.size (fun k e => e ▸ hbs.2.1)), hbs⟩
theorem PO.later {w0 w5 w6 : World} {bR bl b bm : Nat} {L : List Int} (h : PO w0 bR bl b bm L w5) (hb : Below w5.heap.size w5 w6) : PO w0 bR bl b bm L w6 := by
  obtain ⟨own, s, r, aO, cO, aT, cT, aU, cU, aF, cF, ts, ⟨hI, hB⟩, ⟨h1, h2, h3, h4⟩, ⟨hm, hfR⟩, hown, hbel, hbs⟩ := h
  exact ⟨own, s, r, aO, cO, aT, cT, aU, cU, aF, cF, ts, ⟨hI.later hb, hB⟩, ⟨h1.later hb, h2.later hb, h3, h4⟩, ⟨hm.later hb, hfR.later hb⟩, hown, after hbel hb hbel.size, hbs⟩
theorem XO.new {own : Nat → Prop} {bl bm bR : Nat} {w4 w5 : World} : ∀ k, XO (ownNew own w4 w5) bl bm bR k → ownNew (XO own bl bm bR) w4 w5 k := by
  rintro k ((h | h) | h)
  · exact .inl (.inl h)
  · exact .inr h
  · exact .inl (.inr h)
/-- a round in which the document answered first, and then the list -/
theorem PO.stepD {w0 wr w4 w5 : World} {bR bl b bm : Nat} {own : Nat → Prop} {s' : Ar Lk} {r' : Ar Int} {L' : List Int} {aO : Option Addr} {cO : Nat} {ts : List Int} {aT aU aF : Option Addr} {cT cU cF : Nat} {q0 q1 q2 q3 q4 : Value} (hsz : ∀ k, own k → k < wr.heap.size)
    (hown : ∀ k, own k → w0.heap.size ≤ k ∧ k ≠ bm ∧ k ≠ bR) (hbel : Below w0.heap.size w0 wr) (hbs : w0.heap.size ≤ bl ∧ w0.heap.size ≤ bm ∧ w0.heap.size ≤ bR ∧ bm ≠ bR ∧ bm ≠ bl ∧ bR ≠ bl) (b4 : Below wr.heap.size wr w4) (ho : Only own w4 w5)
    (hI : LI (ownNew own w4 w5) bl b s' w5) (hb : Both s' r' L') (hR : ref01.RefAt (XO own bl bm bR) r' ts aT cT aU cU aF cF w4) (hrow : Row w4 (.slice aO L'.length cO) 1 L'.length (ref01.ints L')) (hfar : L'.length ≠ 0 → ∀ x, aO = some x → ¬ XO own bl bm bR x.block) (hle : L'.length ≤ cO)
    (hm : Flds wr bm ref02.TM [q0, q1, q2, q3, q4]) (hfR : Flds wr bR 4 [.bool false]) :
    PO w0 bR bl b bm L' (((((w5.setCell ⟨bm, 0, none⟩ (.slice aO L'.length cO)).setCell ⟨bm, 1, none⟩ (.int .i64 r'.room)).setCell ⟨bm, 2, none⟩ (.slice aT r'.sl.length cT)).setCell ⟨bm, 3, none⟩ (.slice aU r'.sl.length cU)).setCell ⟨bm, 4, none⟩ (.slice aF r'.fr.length cF)) := by
  have nm : ¬ own bm := fun h => (hown _ h).2.1 rfl
  have nR : ¬ own bR := fun h => (hown _ h).2.2 rfl
  have l1 := hm.lt
  have l2 := hfR.lt
  have l3 := b4.size
  have l4 := hbel.size
  refine PO.mk5 hI hb ((hR.step' ho (fun k hk => .inl hk)).sub XO.new) (ref01.row_only hrow ho (fun h0 x hx hk => hfar h0 x hx (.inl hk))) (fun h0 x hx hk => ref01.row_news hrow hfar h0 x hx (XO.new _ hk)) hle ((hm.later b4).only ho nm) ((hfR.later b4).only ho nR) ?_ ?_ hbs
  · rintro k (h | h)
    · exact hown k h
    · exact ⟨by omega, by omega, by omega⟩
  · exact (hbel.trans (b4.mono l4)).trans (ho.below (by omega) (fun k hk => (hown k hk).1))
/-- the blocks that the last range's body turns, and those that come later -/
def PP (B : Nat) : Nat → Prop := fun k => k = B ∨ B + 1 + 1 ≤ k
/-- the law's own counter, ahead of the round k -/
def KP (wr : World) (B : Nat) (k : Nat) (W : World) : Prop :=
  (W.cell? ⟨B, 0, none⟩ = some (.int .i64 (k : Int)) ∧ W.frozen? ⟨B, 0, none⟩ = false) ∧ Below wr.heap.size wr W
theorem KP.own {wr : World} {B C : Nat} (h : wr.heap.size ≤ C) : OwnFrom C (KP wr B) :=
  OwnFrom.and (Own.from (fun s A B row hs hg hr => ⟨cell_kept hs.1 hg hr, (frozen_kept hs.1 hg hr).trans hs.2⟩) _) (ownFrom_below (Nat.le_refl _) h)
theorem keep1B {w W W' : World} {p : Addr} {a : Value} (hh : W.cell? p = some a ∧ Below w.heap.size w W) (hb : Below W.heap.size W W') : W'.cell? p = some a ∧ Below w.heap.size w W' := ⟨cell_later hb hh.1, after hh.2 hb hh.2.size⟩
theorem keep7B {w W W' : World} {p1 p2 q0 q1 q2 q3 q4 : Addr} {a1 a2 b0 b1 b2 b3 b4 : Value} (hh : W.cell? p1 = some a1 ∧ W.cell? p2 = some a2 ∧ W.cell? q0 = some b0 ∧ W.cell? q1 = some b1 ∧ W.cell? q2 = some b2 ∧ W.cell? q3 = some b3 ∧ W.cell? q4 = some b4 ∧ Below w.heap.size w W) (hb : Below W.heap.size W W') : W'.cell? p1 = some a1 ∧ W'.cell? p2 = some a2 ∧ W'.cell? q0 = some b0 ∧ W'.cell? q1 = some b1 ∧ W'.cell? q2 = some b2 ∧ W'.cell? q3 = some b3 ∧ W'.cell? q4 = some b4 ∧ Below w.heap.size w W' :=
  ⟨cell_later hb hh.1, cell_later hb hh.2.1, cell_later hb hh.2.2.1, cell_later hb hh.2.2.2.1, cell_later hb hh.2.2.2.2.1, cell_later hb hh.2.2.2.2.2.1, cell_later hb hh.2.2.2.2.2.2.1, after hh.2.2.2.2.2.2.2 hb hh.2.2.2.2.2.2.2.size⟩
set_option maxRecDepth 100000 in
set_option maxHeartbeats 4000000 in
theorem plays_walk (acts : List ActV) (v : Value) (w : World) (hrow : Row w v 3 acts.length (actCells acts)) (hmax : acts.length ≤ 9223372036854775807) :
    Calls Try.prog 5 #[v] w fun e w' => e = .returned (.bool true) ∧ Below w.heap.size w w' := by
  have HR := Lib.hid hrow
  obtain ⟨a, cap, rfl, -⟩ := hrow
  refine callsIn_wide.1 (callsIn_of_wp_marks (n := 3) Try.func5 rfl trivial (wpIn_wide.2 ?_) rfl)
  simp only [Try.ntmps5, List.size_toArray, List.length_cons, List.length_nil, Nat.reduceAdd, Nat.reduceSub, Array.replicate_succ, Array.replicate_zero, List.push_toArray, List.append_toArray, List.nil_append, List.cons_append]
  go_wp2_with fail
  (with_reducible refine (speaks_any _).mono ?_); rintro e w1 ⟨rfl, hb1⟩
  go_wp2_with fail
  (with_reducible refine (new_l _).mono ?_); rintro e w2 ⟨bl, b, rfl, own, h1, h2, h3, h4⟩
  go_wp2_with fail
  (with_reducible refine (ref02.new_ref _).mono ?_); rintro e w3 ⟨v3, rfl, ⟨aO, cO, aT, cT, aU, cU, aF, cF, ts, rfl, r1, r2, r3, r4⟩, hb3⟩
  rw [show ([0] : List Int).length = 1 from rfl, show ref02.r0.sl.length = 1 from rfl, show ref02.r0.fr.length = 0 from rfl, show ref02.r0.room = 1048576 from rfl] at *
  have hz1 := hb1.size
  rw [World.size_alloc] at hz1
  have hz2 := h4.size
  have hz3 := hb3.size
  have hpo : PO w w.heap.size bl b w3.heap.size [0] (w3.alloc (.cells #[.slice aO 1 cO, .int .i64 1048576, .slice aT 1 cT, .slice aU 1 cU, .slice aF 0 cF] ref02.TM)) := by
    have hx := h1.lt
    have hb : Below w3.heap.size w3 (w3.alloc (.cells #[.slice aO 1 cO, .int .i64 1048576, .slice aT 1 cT, .slice aU 1 cU, .slice aF 0 cF] ref02.TM)) := (Below.refl _ _).alloc (Nat.le_refl _) _
    have hw1 : Below w.heap.size w w1 := ((Below.refl _ w).alloc (Nat.le_refl _) _).trans (hb1.mono (by simp))
    have hw3 : Below w.heap.size w w3 := (hw1.trans (h4.mono (by omega))).trans (hb3.mono (by omega))
    have hfb : Flds w1 w.heap.size 4 [.bool false] := (Flds.new w 4 [.bool false]).later hb1
    have hfb3 : Flds w3 w.heap.size 4 [.bool false] := (hfb.later h4).later hb3
    have hsub : ∀ k, XO own bl w3.heap.size w.heap.size k → ownNew (fun k => k < w2.heap.size) w3 (w3.alloc (.cells #[.slice aO 1 cO, .int .i64 1048576, .slice aT 1 cT, .slice aU 1 cU, .slice aF 0 cF] ref02.TM)) k := by
      rintro k (hk | rfl | rfl | rfl)
      · exact .inl (h1.is.lt k hk)
      · exact .inl hx
      · exact .inr ⟨Nat.le_refl _, by simp⟩
      · exact .inl (by omega)
    have hoo : Only (fun k => k < w2.heap.size) w3 (w3.alloc (.cells #[.slice aO 1 cO, .int .i64 1048576, .slice aT 1 cT, .slice aU 1 cU, .slice aF 0 cF] ref02.TM)) := Only.of_below hb
    exact ⟨own, s0, ref02.r0, aO, cO, aT, cT, aU, cU, aF, cF, ts, ⟨(h1.later hb3).later hb, Both.new⟩, ⟨(r1.step hoo).sub hsub, r2.later hb, fun h0 x hx hk => ref01.row_news r2 (fun h0 x hx hk => r3 h0 x hx hk) h0 x hx (hsub _ hk), r4⟩, ⟨Flds.new w3 ref02.TM _, hfb3.later hb⟩,
      fun k hk => by have := h2 k hk; have := h1.is.lt k hk; omega, hw3.alloc hw3.size _, by omega⟩
  go_upto_block 0 with fail
  obtain ⟨bm, hbm⟩ : ∃ bm, w3.heap.size = bm := ⟨_, rfl⟩
  rw [hbm] at hpo ⊢
  have HPO := Lib.hid hpo
  have hlo : (0 : Int) ≤ (acts.length : Int) := by omega
  have hhi : (acts.length : Int) ≤ 9223372036854775807 := by omega
  have hbmw : w.heap.size < bm := by have := h1.lt; omega
  clear hpo h1 h2 h3 h4 r1 r2 r3 r4 hb1 hb3 hz1 hz2 hz3 hbm
  generalize w3.alloc (.cells #[.slice aO 1 cO, .int .i64 1048576, .slice aT 1 cT, .slice aU 1 cU, .slice aF 0 cF] 52) = W3 at *
  go_cut [5] from 6 to 126 (fun i wx => ∃ L, L.length ≤ 81 ∧ PO w w.heap.size bl b bm L wx)
  case first =>
    go_wp2_with fail
    go_loopw [5] (fun i wr => ∃ (j : Nat) (L : List Int), i = .int .i64 (j : Int) ∧ j ≤ 80 ∧ j ≤ acts.length ∧ L.length ≤ j + 1 ∧ PO w w.heap.size bl b bm L wr) (fun i _ => upTo 80 i)
    case atStart => exact ⟨0, _, rfl, by omega, by omega, by simp, HPO.out⟩
    case round =>
      obtain ⟨j, L, rfl, hj, hjn, hLj, hP⟩ := hrel
      have hd0 : (0 : Int) ≤ (j : Int) := by omega
      have HP0 := Lib.hid hP
      obtain ⟨own, s, r, aO', cO', aT', cT', aU', cU', aF', cF', ts', ⟨hI, hBo⟩, ⟨q1, q2, q3, q4⟩, ⟨hfm, hfR⟩, hown, hbel, hbs⟩ := hP
      have m0 := hfm.cell 0; have m1 := hfm.cell 1; have m2 := hfm.cell 2; have m3 := hfm.cell 3; have m4 := hfm.cell 4
      have n0 := hfm.frozen 0; have n1 := hfm.frozen 1; have n2 := hfm.frozen 2; have n3 := hfm.frozen 3; have n4 := hfm.frozen 4
      simp only [List.getElem?_cons_zero, List.getElem?_cons_succ] at m0 m1 m2 m3 m4
      have lm := hfm.lt; have lR := hfR.lt; have lb := hI.lt
      have HI := Lib.hid hI; have HBO := Lib.hid hBo; have HRS : Hid (ref02.RS (XO own bl bm w.heap.size) r L (ref02.lst aO' L.length cO' r.room aT' r.sl.length cT' aU' r.sl.length cU' aF' r.fr.length cF') wr) := Lib.hid ⟨aO', cO', aT', cT', aU', cU', aF', cF', ts', rfl, q1, q2, q3, q4⟩
      have HRW := Lib.hid q2
      have HFM := Lib.hid hfm; have HFR := Lib.hid hfR; have HOW := Lib.hid hown; have HBE := Lib.hid hbel; have HBS := Lib.hid hbs
      have hlX : ∀ k, XO own bl bm w.heap.size k → k < wr.heap.size := fun k hk => by
        rcases hk with h | h | h | h
        · exact hI.is.lt k h
        · omega
        · omega
        · omega
      have HLX := Lib.hid hlX
      clear hI hBo hfm hfR hown hbel q1 q2 q3 q4 hlX hbs
      by_cases c1 : j < acts.length
      · by_cases c2 : j < 80
        · have hrw := HR.out.later HBE.out
          obtain ⟨ba, off, cap', ea, hcell⟩ := hrw.pos (by omega)
          simp only [Value.slice.injEq] at ea
          obtain ⟨rfl, -, rfl⟩ := ea
          have hact := List.getElem?_eq_getElem c1
          obtain ⟨ca, cb, cc⟩ := actCells_at acts j _ hact
          have ga := (hcell (j * 3) (by omega)).trans ca
          have gb := (hcell (j * 3 + 1) (by omega)).trans cb
          have gc := (hcell (j * 3 + 2) (by omega)).trans cc
          generalize acts[j] = A at *
          obtain ⟨x0, x1, x2⟩ := A
          dsimp only at ga gb gc
          rw [← Nat.add_assoc] at gb gc
          have d1 : (j : Int) < (acts.length : Int) := by omega
          have d2 : (j : Int) < 80 := by omega
          clear hcell ca cb cc hact hrw
          have hb0 : ∀ o, Below wr.heap.size wr (wr.alloc o) := fun o => (Below.refl _ _).alloc (Nat.le_refl _) o
          have HB0 := Lib.hid hb0
          clear hb0
          go_upto_block 2 with fail
          go_cut [7, 8, 9, 10, 11, 12, 13, 14, 15] from 44 to 120 (fun _ _ _ _ _ _ _ _ _ wx => ∃ L', L'.length ≤ L.length + 1 ∧ PO w w.heap.size bl b bm L' wx)
          case first =>
            go_wp2_with fail
            · have HD := Lib.hid (fun W (hb : Below wr.heap.size wr W) => both_delete (HI.out.later hb) HBO.out x1)
              have hL2 := dL_len L x1
              have HC := Lib.hid (ref_delete HBO.out (fun k hk => by have := HLX.out k hk; simp; omega) (HRS.out.later (HB0.out (.cells #[.int .i64 x0, .int .i64 x1, .int .i64 x2] 55))) (by omega) x1)
              generalize dB L x1 = d at *
              generalize dL L x1 = L2 at *
              generalize dR r L x1 = r2 at *
              refine HC.out.mono ?_
              rintro e w4 ⟨v', rfl, ⟨aO2, cO2, aT2, cT2, aU2, cU2, aF2, cF2, ts2, rfl, p1, p2, p3, p4⟩, hb4⟩
              have P1 := Lib.hid p1; have P2 := Lib.hid p2; have P3 := Lib.hid p3
              have b4 : Below wr.heap.size wr w4 := (HB0.out _).trans (hb4.mono (by simp))
              have B4 := Lib.hid b4
              have f4 := (Flds.new wr 55 [.int .i64 x0, .int .i64 x1, .int .i64 x2]).later hb4
              have e1 := f4.cell 1
              simp only [List.getElem?_cons_zero, List.getElem?_cons_succ] at e1
              have lx := f4.lt
              have hA : ∀ o, Below w4.heap.size w4 (w4.alloc o) := fun o => (Below.refl _ _).alloc (Nat.le_refl _) o
              have e1' := fun o => cell_later (hA o) e1
              have hdd : (d != d) = false := by cases d <;> rfl
              have HA := Lib.hid hA
              clear p1 p2 p3 hb4 b4 f4 hA HC
              go_wp2_with fail
              have b5 : Below wr.heap.size wr (w4.alloc (.cells #[.slice aO2 L2.length cO2, .int .i64 r2.room, .slice aT2 r2.sl.length cT2, .slice aU2 r2.sl.length cU2, .slice aF2 r2.fr.length cF2] 52)) := B4.out.alloc B4.out.size _
              refine (HD.out _ b5).mono ?_
              rintro e w5 ⟨s2, rfl, hI5, hB5, ho5⟩
              have hno : ¬ own w4.heap.size := fun h => by have := HI.out.is.lt _ h; have := B4.out.size; omega
              have hf5 := (Flds.new w4 ref02.TM [.slice aO2 L2.length cO2, .int .i64 r2.room, .slice aT2 r2.sl.length cT2, .slice aU2 r2.sl.length cU2, .slice aF2 r2.fr.length cF2]).only ho5 hno
              have r0 := hf5.cell 0; have r1 := hf5.cell 1; have r2' := hf5.cell 2; have r3 := hf5.cell 3; have r4 := hf5.cell 4
              have hm5 := (HFM.out.later b5).only ho5 (fun h => (HOW.out _ h).2.1 rfl)
              have n50 := hm5.frozen 0; have n51 := hm5.frozen 1; have n52 := hm5.frozen 2; have n53 := hm5.frozen 3; have n54 := hm5.frozen 4
              have m50 := hm5.cell 0; have m51 := hm5.cell 1; have m52 := hm5.cell 2; have m53 := hm5.cell 3; have m54 := hm5.cell 4
              simp only [List.getElem?_cons_zero, List.getElem?_cons_succ] at m50 m51 m52 m53 m54 r0 r1 r2' r3 r4
              have lm5 := hm5.lt
              have l95 := hf5.lt
              have HI5 := Lib.hid hI5; have HO5 := Lib.hid ho5; have HB5 := Lib.hid b5; have HBO5 := Lib.hid hB5
              clear hI5 ho5 b5 hf5 hm5 hB5 HD
              go_wp2_with fail
              have h6 := PO.stepD HI.out.is.lt HOW.out HBE.out HBS.out HB5.out HO5.out HI5.out HBO5.out (P1.out.later (HA.out _)) (P2.out.later (HA.out _)) P3.out p4 HFM.out HFR.out
              go_meet
              exact ⟨L2, by omega, h6⟩
            · have e1 := cells_new wr [.int .i64 x0, .int .i64 x1, .int .i64 x2] 55 1
              have e2 := cells_new wr [.int .i64 x0, .int .i64 x1, .int .i64 x2] 55 2
              simp only [List.getElem?_cons_zero, List.getElem?_cons_succ] at e1 e2
              have k0 := HB0.out (.cells #[.int .i64 x0, .int .i64 x1, .int .i64 x2] 55)
              have k10 := cell_later k0 m0; have k11 := cell_later k0 m1; have k12 := cell_later k0 m2; have k13 := cell_later k0 m3; have k14 := cell_later k0 m4
              have HK0 := Lib.hid k0
              have HLS := Lib.hid (fun W (hb : Below wr.heap.size wr W) => less_l (HI.out.later hb) x1 x2)
              have HHS := Lib.hid (fun W (hb : Below wr.heap.size wr W) => has_l (HI.out.later hb) x1)
              have HAT := fun W (hb : Below wr.heap.size wr W) y => ref02.at_any aO' L cO' r.room aT' r.sl.length cT' aU' r.sl.length cU' aF' r.fr.length cF' W (HRW.out.later hb) (by omega) y
              have HA1 := Lib.hid (fun W hb => HAT W hb x1)
              have HA2 := Lib.hid (fun W hb => HAT W hb x2)
              clear HAT
              rw [HBO.out.less] at HLS
              rw [HBO.out.hasP] at HHS
              have hP0 := Lib.hid HP0.out
              clear k0 HRS HRW HFM HFR HOW HBE HBS HLX m0 m1 m2 m3 m4 n0 n1 n2 n3 n4 HI HBO HP0
              have hgA : wr.heap.size < (wr.alloc (.cells #[.int .i64 x0, .int .i64 x1, .int .i64 x2] 55)).heap.size := by simp
              have HKS := Lib.hid (fun W (hb : Below (wr.alloc (.cells #[.int .i64 x0, .int .i64 x1, .int .i64 x2] 55)).heap.size (wr.alloc (.cells #[.int .i64 x0, .int .i64 x1, .int .i64 x2] 55)) W) => after HK0.out hb HK0.out.size)
              generalize wr.alloc (.cells #[.int .i64 x0, .int .i64 x1, .int .i64 x2] 55) = Y at *
              generalize hgw : wr.heap.size = gA at *
              generalize ref02.placeF L x1 = P1 at *
              generalize ref02.placeF L x2 = P2 at *
              go_cut [9, 10] from 44 to 93 (fun s9 s10 wx => s9 = .int .i64 P1 ∧ s10 = .int .i64 P2 ∧ (wx.cell? ⟨gA, 1, none⟩ = some (.int .i64 x1) ∧ wx.cell? ⟨gA, 2, none⟩ = some (.int .i64 x2)) ∧ Hid (Below Y.heap.size Y wx))
              case first =>
                have S1 : Hid (∀ X : World, (X.cell? ⟨gA, 1, none⟩ = some (.int .i64 x1) ∧ X.cell? ⟨gA, 2, none⟩ = some (.int .i64 x2) ∧ X.cell? ⟨bm, 0, none⟩ = some (.slice aO' L.length cO') ∧ X.cell? ⟨bm, 1, none⟩ = some (.int .i64 r.room) ∧ X.cell? ⟨bm, 2, none⟩ = some (.slice aT' r.sl.length cT') ∧ X.cell? ⟨bm, 3, none⟩ = some (.slice aU' r.sl.length cU') ∧ X.cell? ⟨bm, 4, none⟩ = some (.slice aF' r.fr.length cF') ∧ Below Y.heap.size Y X) → Calls Try.prog 27 #[ref02.lst aO' L.length cO' r.room aT' r.sl.length cT' aU' r.sl.length cU' aF' r.fr.length cF', .int .i64 x1] X fun e w' => e = .returned (.int .i64 P1) ∧ Below X.heap.size X w') := Lib.hid (fun X hX => HA1.out X (HKS.out X hX.2.2.2.2.2.2.2))
                have S2 : Hid (∀ X : World, (X.cell? ⟨gA, 1, none⟩ = some (.int .i64 x1) ∧ X.cell? ⟨gA, 2, none⟩ = some (.int .i64 x2) ∧ X.cell? ⟨bm, 0, none⟩ = some (.slice aO' L.length cO') ∧ X.cell? ⟨bm, 1, none⟩ = some (.int .i64 r.room) ∧ X.cell? ⟨bm, 2, none⟩ = some (.slice aT' r.sl.length cT') ∧ X.cell? ⟨bm, 3, none⟩ = some (.slice aU' r.sl.length cU') ∧ X.cell? ⟨bm, 4, none⟩ = some (.slice aF' r.fr.length cF') ∧ Below Y.heap.size Y X) → Calls Try.prog 27 #[ref02.lst aO' L.length cO' r.room aT' r.sl.length cT' aU' r.sl.length cU' aF' r.fr.length cF', .int .i64 x2] X fun e w' => e = .returned (.int .i64 P2) ∧ Below X.heap.size X w') := Lib.hid (fun X hX => HA2.out X (HKS.out X hX.2.2.2.2.2.2.2))
                clear HA1 HA2 HKS HLS HHS hP0 HB0 HK0
                go_region_held3 (fun X => X.cell? ⟨gA, 1, none⟩ = some (.int .i64 x1) ∧ X.cell? ⟨gA, 2, none⟩ = some (.int .i64 x2) ∧ X.cell? ⟨bm, 0, none⟩ = some (.slice aO' L.length cO') ∧ X.cell? ⟨bm, 1, none⟩ = some (.int .i64 r.room) ∧ X.cell? ⟨bm, 2, none⟩ = some (.slice aT' r.sl.length cT') ∧ X.cell? ⟨bm, 3, none⟩ = some (.slice aU' r.sl.length cU') ∧ X.cell? ⟨bm, 4, none⟩ = some (.slice aF' r.fr.length cF') ∧ Below Y.heap.size Y X)
                  (first | exact ⟨e1, e2, k10, k11, k12, k13, k14, (Below.refl _ _).drew⟩ | exact keep7B (by assumption) hb')
                  (first | (go_at_call 27; (with_reducible refine (S1.out _ (by assumption)).mono ?_); rintro e w' ⟨rfl, hb'⟩) | (go_at_call 27; (with_reducible refine (S2.out _ (by assumption)).mono ?_); rintro e w' ⟨rfl, hb'⟩))
                have SE : Hid (∀ X : World, (X.cell? ⟨gA, 1, none⟩ = some (.int .i64 x1) ∧ X.cell? ⟨gA, 2, none⟩ = some (.int .i64 x2) ∧ X.cell? ⟨bm, 0, none⟩ = some (.slice aO' L.length cO') ∧ X.cell? ⟨bm, 1, none⟩ = some (.int .i64 r.room) ∧ X.cell? ⟨bm, 2, none⟩ = some (.slice aT' r.sl.length cT') ∧ X.cell? ⟨bm, 3, none⟩ = some (.slice aU' r.sl.length cU') ∧ X.cell? ⟨bm, 4, none⟩ = some (.slice aF' r.fr.length cF') ∧ Below Y.heap.size Y X) → (X.cell? ⟨gA, 1, none⟩ = some (.int .i64 x1) ∧ X.cell? ⟨gA, 2, none⟩ = some (.int .i64 x2)) ∧ Hid (Below Y.heap.size Y X)) := Lib.hid (fun X h => ⟨⟨h.1, h.2.1⟩, Lib.hid h.2.2.2.2.2.2.2⟩)
                all_goals (go_wp2_with fail)
                all_goals go_meet
                all_goals exact ⟨rfl, rfl, SE.out _ (by assumption)⟩
              case rest =>
                obtain ⟨rfl, rfl, ⟨e1, e2⟩, HBX⟩ := hcut
                have HB3 := Lib.hid (HKS.out _ HBX.out)
                have lgA : gA < wc.heap.size := World.block_lt_of_cell? wc ⟨gA, 1, none⟩ e1
                have hl1 := HLS.out _ HB3.out
                have hh1 := fun W (hb : Below wc.heap.size wc W) => HHS.out W (after HB3.out hb (by omega))
                clear HA1 HA2 HLS HHS HKS HBX HK0 k10 k11 k12 k13 k14
                by_cases k1 : 0 ≤ P1
                all_goals by_cases k2 : 0 ≤ P2
                all_goals by_cases k3 : P1 < P2
                all_goals (try (exfalso; omega))
                all_goals simp only [k1, k2, k3, decide_true, decide_false, Bool.and_true, Bool.and_false, Bool.true_and, Bool.false_and] at hl1 hh1
                all_goals
                  have HL1 := Lib.hid hl1; have HH1 := Lib.hid hh1
                  clear hl1 hh1
                  go_wp2_with fail
                  (with_reducible refine HL1.out.mono ?_); rintro e w7 ⟨rfl, hb7⟩
                  have e17 := cell_later hb7 e1
                  have lg7 := Nat.lt_of_lt_of_le lgA hb7.size
                  have HB7 := Lib.hid (after HB3.out hb7 (by omega))
                  go_wp2_with fail
                  (with_reducible refine (HH1.out _ hb7).mono ?_); rintro e w8 ⟨rfl, hb8⟩
                  go_wp2_with fail
                  go_meet
                  exact ⟨L, by omega, hP0.out.later (by rw [hgw]; exact after HB7.out hb8 (by omega))⟩
            · have b0 := HB0.out (.cells #[.int .i64 x0, .int .i64 x1, .int .i64 x2] 55)
              have hPA := both_after (HI.out.later b0) HBO.out (by omega) x1
              refine hPA.mono ?_
              clear hPA
              rintro e w4 ⟨s2, rfl, hI4, hB4, ho4⟩
              have hz4 := ho4.size
              rw [World.size_alloc] at hz4
              have hno : ¬ own wr.heap.size := fun h => by have := HI.out.is.lt _ h; omega
              have f4 := (Flds.new wr 55 [.int .i64 x0, .int .i64 x1, .int .i64 x2]).only ho4 hno
              have e1 := f4.cell 1
              have hm4 := (HFM.out.later b0).only ho4 (fun h => (HOW.out _ h).2.1 rfl)
              have hf4 := (HFR.out.later b0).only ho4 (fun h => (HOW.out _ h).2.2 rfl)
              have m40 := hm4.cell 0; have m41 := hm4.cell 1; have m42 := hm4.cell 2; have m43 := hm4.cell 3; have m44 := hm4.cell 4
              simp only [List.getElem?_cons_zero, List.getElem?_cons_succ] at m40 m41 m42 m43 m44 e1
              have lm4 := hm4.lt
              have hR4 : ref02.RS (XO (ownNew own (wr.alloc (.cells #[.int .i64 x0, .int .i64 x1, .int .i64 x2] 55)) w4) bl bm w.heap.size) r L _ w4 := ((HRS.out.later b0).step ho4 (fun k hk => .inl hk)).sub XO.new
              have hown4 : ∀ k, ownNew own (wr.alloc (.cells #[.int .i64 x0, .int .i64 x1, .int .i64 x2] 55)) w4 k → w.heap.size ≤ k ∧ k ≠ bm ∧ k ≠ w.heap.size := fun k hk => by
                rcases hk with h | h
                · exact HOW.out k h
                · have h1 := h.1
                  rw [World.size_alloc] at h1
                  have := HBE.out.size
                  exact ⟨by omega, by omega, by omega⟩
              have hbel4 : Below w.heap.size w w4 := (HBE.out.trans (b0.mono HBE.out.size)).trans (ho4.below (by have := HBE.out.size; simp; omega) (fun k hk => (HOW.out k hk).1))
              have hlX4 : ∀ k, XO (ownNew own (wr.alloc (.cells #[.int .i64 x0, .int .i64 x1, .int .i64 x2] 55)) w4) bl bm w.heap.size k → k < w4.heap.size := fun k hk => by
                rcases hk with (h | h) | h | h | h
                · have := HI.out.is.lt k h; omega
                · exact h.2
                · omega
                · omega
                · omega
              have hC := ref_after HBO.out hlX4 hR4 (by omega) x1
              have hL2 := aL_len r L x1
              have HC := Lib.hid hC; have HI4 := Lib.hid hI4; have HB4 := Lib.hid hB4; have HM4 := Lib.hid hm4; have HF4 := Lib.hid hf4; have HOW4 := Lib.hid hown4; have HBE4 := Lib.hid hbel4
              clear hC hI4 hB4 hm4 hf4 hown4 hbel4 hR4 hlX4 ho4 f4 b0 hno
              generalize ownNew own _ w4 = own4 at *
              generalize aN r L x1 = n at *
              generalize aL r L x1 = L2 at *
              generalize aR r L x1 = r2 at *
              generalize decide (x1 ∈ L) = d at *
              have hdd : (d != d) = false := by cases d <;> rfl
              have hnn : (n != n) = false := by simp
              go_wp2_with fail
              refine HC.out.mono ?_
              rintro e w5 ⟨v', rfl, ⟨aO2, cO2, aT2, cT2, aU2, cU2, aF2, cF2, ts2, rfl, p1, p2, p3, p4⟩, hb5⟩
              have P1 := Lib.hid p1; have P2 := Lib.hid p2; have P3 := Lib.hid p3; have HB5 := Lib.hid hb5
              have hm5 := HM4.out.later hb5
              have n50 := hm5.frozen 0; have n51 := hm5.frozen 1; have n52 := hm5.frozen 2; have n53 := hm5.frozen 3; have n54 := hm5.frozen 4
              have m50 := hm5.cell 0; have m51 := hm5.cell 1; have m52 := hm5.cell 2; have m53 := hm5.cell 3; have m54 := hm5.cell 4
              simp only [List.getElem?_cons_zero, List.getElem?_cons_succ] at m50 m51 m52 m53 m54
              have lm5 := hm5.lt
              clear p1 p2 p3 hm5 hb5 HC m40 m41 m42 m43 m44 e1
              go_wp2_with fail
              have h6 := PO.mk5 (HI4.out.later HB5.out) HB4.out P1.out P2.out P3.out p4 (HM4.out.later HB5.out) (HF4.out.later HB5.out) HOW4.out (after HBE4.out HB5.out HBE4.out.size) HBS.out
              go_meet
              exact ⟨L2, by omega, h6.later ((Below.refl _ _).alloc (Nat.le_refl _) _)⟩
          case rest =>
            obtain ⟨L', hL', h6⟩ := hcut
            have HP6 := Lib.hid h6
            obtain ⟨own6, s6, r6, aO6, cO6, aT6, cT6, aU6, cU6, aF6, cF6, ts6, ⟨hI6, hB6⟩, -, ⟨hm6, -⟩, -⟩ := h6
            have m60 := hm6.cell 0
            simp only [List.getElem?_cons_zero, List.getElem?_cons_succ] at m60
            have hlen := fun W (hb : Below wc.heap.size wc W) => len_l (hI6.later hb)
            rw [hB6.live] at hlen
            have HLN := Lib.hid hlen
            have hnn : ((L'.length : Int) != (L'.length : Int)) = false := by simp
            clear hI6 hB6 hm6 hlen HI HBO HRS HRW HFM HFR HOW HBE HBS HLX m0 m1 m2 m3 m4 n0 n1 n2 n3 n4 HP0 HB0 ga gb gc
            go_wp2_with fail
            go_cut [126] from 121 to 125 (fun v wx => v = .bool false ∧ Hid (Below wc.heap.size wc wx))
            case first =>
              go_region_held3 (fun X => X.cell? ⟨bm, 0, none⟩ = some (.slice aO6 L'.length cO6) ∧ Below wc.heap.size wc X)
                (first | exact ⟨m60, (Below.refl _ _).drew⟩ | exact keep1B (by assumption) hb')
                (first | (go_at_call 32; (with_reducible refine (HLN.out _ (And.right (by assumption))).mono ?_); rintro e w' ⟨rfl, hb'⟩))
              all_goals (go_wp2_with fail)
              all_goals (go_meet; exact ⟨rfl, Lib.hid (And.right (by assumption))⟩)
            case rest =>
              obtain ⟨rfl, HBX⟩ := hcut
              go_wp2_with fail
              go_roundw
              case rel => exact ⟨j + 1, L', rfl, by omega, by omega, by omega, HP6.out.later HBX.out⟩
              case measure => simp [upTo]; omega
        · have e1 : (j : Int) < (acts.length : Int) := by omega
          have e2 : ¬ (j : Int) < 80 := by omega
          go_wp2_with fail
          go_meet
          exact ⟨_, by omega, HP0.out⟩
      · have e1 : ¬ (j : Int) < (acts.length : Int) := by omega
        go_wp2_with fail
        go_meet
        exact ⟨_, by omega, HP0.out⟩
  case rest =>
    obtain ⟨L, hL81, hP⟩ := hcut
    obtain ⟨own, s, r, aO', cO', aT', cT', aU', cU', aF', cF', ts', ⟨hI, hBo⟩, ⟨q1, q2, q3, q4⟩, ⟨hfm, hfR⟩, hown, hbel, hbs⟩ := hP
    have lm := hfm.lt; have lR := hfR.lt; have lb := hI.lt
    have m0 := hfm.cell 0
    simp only [List.getElem?_cons_zero, List.getElem?_cons_succ] at m0
    have HI := Lib.hid hI; have HBO := Lib.hid hBo; have HRW := Lib.hid q2; have HFR := Lib.hid hfR; have HBE := Lib.hid hbel; have M0 := Lib.hid m0
    clear hI hBo hfm hfR hown hbel q1 q2 q3 q4 hbs HPO
    go_wp2_with fail
    refine (callsIn_wide.1 (all_in 1 bl _)).mono ?_
    rintro e w3 ⟨rfl, rfl⟩
    go_wp2_with fail
    refine (wpIn_wide (n := 3)).1 ?_
    have bN := Boxed.new wc 3 (.int .i64 0)
    have bS : ((wc.alloc (.cells #[.int .i64 0] 3)).alloc (.cells #[.pointer (some ⟨bl, 0, none⟩)] 49)).cell? ⟨(wc.alloc (.cells #[.int .i64 0] 3)).heap.size, 0, none⟩ = some (.pointer (some ⟨bl, 0, none⟩)) := cells_new _ [_] _ 0
    have hB0 : Below wc.heap.size wc ((wc.alloc (.cells #[.int .i64 0] 3)).alloc (.cells #[.pointer (some ⟨bl, 0, none⟩)] 49)) := ((Below.refl _ _).alloc (Nat.le_refl _) _).alloc (by simp) _
    have hIX := HI.out.later hB0
    rw [World.size_alloc] at bS
    refine range_idx rfl (by decide) (gf := 58) (lb := #[.pointer (some ⟨wc.heap.size + 1, 0, none⟩)]) rfl trivial (enters_of Try.func58 (by kernel_rfl) rfl)
      (all_idx _ (by decide) (wc.heap.size + 1) own bl b s L HBO.out.ok _ bS hIX (PP wc.heap.size) (fun k hk hp => by have := HI.out.is.lt k hk; unfold PP at hp; omega) (fun hp => by unfold PP at hp; omega) (fun hp => by unfold PP at hp; omega)) (fun h h' => h.trans h' (fun _ _ h => h)) (fun W l o o' hl _ _ _ => ⟨rfl, rfl, rfl, by simp, fun k hk hn => World.putObj_heap_other (fun e => hn (by unfold PP; simp at hl; omega))⟩) (fun _ => rfl)
      (KP wc wc.heap.size) (fun _ _ _ => False) (KP.own (by simp; omega)) (fun _ _ _ _ _ hs _ _ => hs)
      ⟨⟨(bN.alloc _).cell, (bN.alloc _).frozen⟩, hB0⟩ ?a1 ?assign ?body ?done ?stop
    case stop =>
      rintro D c k W _ _ h _
      exact h.elim
    case assign =>
      intro l k W K hk hI hK
      clear hk hI
      unfold allArgs
      gi_wp2
      exact hK
    case body =>
      rintro l k W hk ⟨⟨hc, hf⟩, hB⟩
      obtain ⟨x, hx⟩ : ∃ x, L[k]? = some x := ⟨_, List.getElem?_eq_getElem hk⟩
      obtain ⟨b0, off0, cap0, ea, hcell⟩ := HRW.out.pos (by omega)
      simp only [Value.slice.injEq] at ea
      obtain ⟨rfl, -, rfl⟩ := ea
      have gk := hcell k (by omega)
      rw [show ref01.ints L = L.map (Value.int .i64) from rfl, List.getElem?_map, hx] at gk
      have gk : wc.cell? ⟨b0, off0 + k, none⟩ = some (.int .i64 x) := gk
      have gW := cell_later hB gk
      have mW := cell_later hB M0.out
      have lk : wc.heap.size < W.heap.size := World.block_lt_of_cell? W ⟨wc.heap.size, 0, none⟩ hc
      have d0 : (0 : Int) ≤ (k : Int) := by omega
      have d1 : (k : Int) < (L.length : Int) := by omega
      have dx : (x != x) = false := by simp
      have hw : IntKind.i64.wrap ((k : Int) + 1) = (k : Int) + 1 := IntWalk.i64_in _ (by omega)
      have HB := Lib.hid hB; have HC := Lib.hid hc; have HF := Lib.hid hf
      rw [hx, Option.getD_some]
      clear hB gk hcell hx
      gi_wp2
      exact ⟨(KeepsOthers.setCell _ _ _).from _, (Only.refl _ _).setCell _ _ (fun _ => .inl rfl), ⟨⟨(World.cell?_setCell_same' _ _ _ (by rw [HC.out]; rfl)).trans (by simp), by rw [World.frozen?_setCell]; exact HF.out⟩, HB.out.setCell (p := ⟨wc.heap.size, 0, none⟩) (Nat.le_refl _) _⟩⟩
    case done =>
      rintro D W hD ⟨⟨hc, hf⟩, hB⟩ hK
      have hD0 : wc.heap.size + 2 ≤ D := by simpa using hD
      have lD : D < W.heap.size := (Array.getElem?_eq_some_iff.1 hK).1
      have HB := Lib.hid hB; have HK := Lib.hid hK; have HC := Lib.hid hc
      clear hB hK hD hc hf
      go_wp2_with fail
      (with_reducible refine (after_nil 0 _).mono ?_); rintro e w4 ⟨rfl, hb4⟩
      have HB4 := Lib.hid hb4
      clear hb4
      go_wp2_with fail
      refine (all_nil _).mono ?_
      rintro e w5 ⟨rfl, rfl⟩
      go_wp2_with fail
      refine (wpIn_wide (n := 3)).1 ?_
      have bS2 : (w4.alloc (.cells #[.pointer none] 49)).cell? ⟨w4.heap.size, 0, none⟩ = some (.pointer none) := cells_new w4 [_] _ 0
      have hB2 : Below w4.heap.size w4 (w4.alloc (.cells #[.pointer none] 49)) := (Below.refl _ w4).alloc (Nat.le_refl _) _
      refine range_idx rfl (by decide) (gf := 58) (lb := #[.pointer (some ⟨w4.heap.size, 0, none⟩)]) rfl trivial (enters_of Try.func58 (by kernel_rfl) rfl)
        (all_nil_idx _ w4.heap.size (allArgs L) (fun _ _ => True) _ bS2) (fun h h' => trivial) (fun _ _ _ _ _ _ _ _ => trivial) (fun _ => rfl)
        (fun _ W2 => Below w4.heap.size w4 W2) (fun _ _ _ => False) (ownFrom_below (Nat.le_refl _) (by simp)) (fun _ _ _ _ _ hs _ _ => hs)
        hB2 (fun _ => ⟨#[], []⟩) ?assign2 ?body2 ?done2 ?stop2
      case stop2 =>
        rintro D2 c k W2 _ _ h _
        exact h.elim
      case assign2 =>
        intro l k W2 K hk
        exact absurd hk (Nat.not_lt_zero _)
      case body2 =>
        intro l k W2 hk
        exact absurd hk (Nat.not_lt_zero _)
      case done2 =>
        rintro D2 W2 hD2 hB3 hK3
        have hBW : Below W.heap.size W W2 := after HB4.out hB3 HB4.out.size
        have hBW0 : Below wc.heap.size wc W2 := after HB.out hBW HB.out.size
        have c1 := cell_later hBW HC.out
        have c2 := cell_later hBW0 M0.out
        have lD2 : D2 < W2.heap.size := (Array.getElem?_eq_some_iff.1 hK3).1
        have hD2' : w4.heap.size + 1 ≤ D2 := by simpa using hD2
        have HB2 := Lib.hid hBW; have HK3 := Lib.hid hK3
        have hll : ((L.length : Int) == (L.length : Int)) = true := by simp
        have HW0 := Lib.hid hBW0
        have z4 := HB4.out.size
        clear hBW hBW0 hB3 hK3 bS2 hB2 hD2
        go_wp2_with fail
        (with_reducible refine (delete_nil 1 (by decide) _).mono ?_); rintro e w6 ⟨rfl, hb6⟩
        have HB6 := Lib.hid hb6
        clear hb6
        go_wp2_with fail
        (with_reducible refine (less_nil 0 1 _).mono ?_); rintro e w7 ⟨rfl, hb7⟩
        have HB7 := Lib.hid (after HB6.out hb7 HB6.out.size)
        clear hb7
        go_wp2_with fail
        (with_reducible refine (has_nil 0 _).mono ?_); rintro e w8 ⟨rfl, hb8⟩
        have HB8 := Lib.hid (after HB7.out hb8 HB7.out.size)
        clear hb8
        go_wp2_with fail
        (with_reducible refine (len_nil _).mono ?_); rintro e w9 ⟨rfl, hb9⟩
        have HB9 := Lib.hid (after HB8.out hb9 HB8.out.size)
        have hfw := (HFR.out.later HW0.out).later HB9.out
        have r1 := hfw.cell 0; have r2 := hfw.frozen 0; have r3 := hfw.lt
        simp only [List.getElem?_cons_zero] at r1
        have HFW := Lib.hid hfw
        clear hb9 hfw
        go_wp2_with fail
        have hD3 : D ≠ D2 := by omega
        have hD4 : w.heap.size ≠ D2 := by omega
        have hD5 : w.heap.size ≠ D := by omega
        have f0 : Flds (w9.setCell ⟨w.heap.size, 0, none⟩ (.bool true)) w.heap.size 4 [.bool true] := HFW.out.set 0 (.bool true)
        have k0 : (w9.setCell ⟨w.heap.size, 0, none⟩ (.bool true)).heap[D2]? = some (.deferred (some [])) := (Below.heap_setCell _ _ _ _ (by simp; omega)).trans ((HB9.out.block D2 lD2).trans HK3.out)
        have k1 : (w9.setCell ⟨w.heap.size, 0, none⟩ (.bool true)).heap[D]? = some (.deferred (some [])) := (Below.heap_setCell _ _ _ _ (by simp; omega)).trans ((HB9.out.block D (Nat.lt_of_lt_of_le lD HB2.out.size)).trans ((HB2.out.block D lD).trans HK.out))
        have b0 : Below w.heap.size w (w9.setCell ⟨w.heap.size, 0, none⟩ (.bool true)) := (after (after HBE.out HW0.out HBE.out.size) HB9.out (after HBE.out HW0.out HBE.out.size).size).setCell (Nat.le_refl _) _
        generalize w9.setCell ⟨w.heap.size, 0, none⟩ (.bool true) = W3 at *
        have k2 : (W3.putObj D2 (.deferred none)).heap[D]? = some (.deferred (some [])) := (World.putObj_heap_other hD3).trans k1
        have f2 : Flds ((W3.putObj D2 (.deferred none)).putObj D (.deferred none)) w.heap.size 4 [.bool true] := ((World.putObj_heap_other hD5).trans ((World.putObj_heap_other hD4).trans f0))
        have hcc := f2.cell 0
        simp only [List.getElem?_cons_zero] at hcc
        refine ⟨by simp, .inl ⟨_, _, rfl, run_takeDeferred k0, ?_⟩⟩
        refine ⟨by simp, .inl ⟨_, _, rfl, run_takeDeferred k2, ?_⟩⟩
        refine ⟨.bool true, by simp [results, Try.f5, go_sem, hcc], rfl, ?_⟩
        have z1 := HBE.out.size
        refine Below.trans ?_ (belowK_b (w := w) (Nat.le_refl _) _ D _ _ (by omega) k2 rfl rfl)
        refine Below.trans ?_ (belowK_b (w := w) (Nat.le_refl _) _ D2 _ _ (by omega) k0 rfl rfl)
        exact b0
end Go.Proofs.Ytbaepjjanjhliaa.ord
