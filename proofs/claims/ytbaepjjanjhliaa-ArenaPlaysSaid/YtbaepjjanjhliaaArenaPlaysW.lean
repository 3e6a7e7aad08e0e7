/- The law ArenaPlays, walked. -/
import Derived.Test.YtbaepjjanjhliaaArenaApartW
import Derived.Test.YtbaepjjanjhliaaArenaPlaysX
import Derived.Test.YtbaepjjanjhliaaArenaNil
import Derived.Test.YtbaepjjanjhliaaRef01S
import Derived.Deep.DeepCutAuto
import Derived.Deep.CutBlock
namespace Go.Proofs.Ytbaepjjanjhliaa
set_option linter.unusedVariables false
open Go.RowKit Go.Shelf
attribute [local go_sem ↓] Go.wp_at_zero Go.wp_at_succ
attribute [local go_sem] ag.upon_value ag.upon_skip ag.upon_enter
attribute [local go_sem] Oper.semAt_some

theorem run_max_keep {P : Program} (ts : Array TypeId) (t : TypeId) (k k' : IntKind) (x y : Int) (w : World) : (Builtin.max_ ts t #[.int k x, .int k' y]).run P w = .ok (.int k (max x y)) w := by
  rw [run_max_int2]
  congr 2
  split <;> omega
attribute [local go_sem high] run_min_keep run_max_keep

/-- what is left of a loop's rounds; no 'match' in the open, for the walk would split it -/
def upTo (n : Nat) : Value → Nat
  | .int _ j => n - j.toNat
  | _ => 0
/-- the law's own things: the arena at block b, the document's arena in the variable at block bm, the result's variable at block bR -/
def PI (w0 : World) (bR b bm : Nat) (s : Ar Int) (W : World) : Prop :=
  ∃ own aT cT aU cU aF cF ts, (arI.Is own b s W ∧ ref01.RefAt (fun k => own k ∨ k = bm ∨ k = bR) s ts aT cT aU cU aF cF W) ∧
    (Flds W bm ref01.TR [.int .i64 s.room, .slice aT s.sl.length cT, .slice aU s.sl.length cU, .slice aF s.fr.length cF] ∧ Flds W bR 4 [.bool false]) ∧
    (∀ k, own k → w0.heap.size ≤ k ∧ k ≠ bm ∧ k ≠ bR) ∧ Below w0.heap.size w0 W ∧ (w0.heap.size ≤ bm ∧ w0.heap.size ≤ bR ∧ bm ≠ bR)

/-- The document's arena is written back to its variable. -/
theorem PI.mk' {w0 w5 : World} {bR b bm : Nat} {own : Nat → Prop} {s' : Ar Int} {ts : List Int} {aT aU aF : Option Addr} {cT cU cF : Nat} {q0 q1 q2 q3 : Value} (hI : arI.Is own b s' w5) (hR : ref01.RefAt (fun k => own k ∨ k = bm ∨ k = bR) s' ts aT cT aU cU aF cF w5) (hm : Flds w5 bm ref01.TR [q0, q1, q2, q3]) (hfR : Flds w5 bR 4 [.bool false])
    (hown : ∀ k, own k → w0.heap.size ≤ k ∧ k ≠ bm ∧ k ≠ bR) (hbel : Below w0.heap.size w0 w5) (hbs : w0.heap.size ≤ bm ∧ w0.heap.size ≤ bR ∧ bm ≠ bR) :
    PI w0 bR b bm s' ((((w5.setCell ⟨bm, 0, none⟩ (.int .i64 s'.room)).setCell ⟨bm, 1, none⟩ (.slice aT s'.sl.length cT)).setCell ⟨bm, 2, none⟩ (.slice aU s'.sl.length cU)).setCell ⟨bm, 3, none⟩ (.slice aF s'.fr.length cF)) := by
  have ht := ref01.tRes_of hm (.int .i64 s'.room) (.slice aT s'.sl.length cT) (.slice aU s'.sl.length cU) (.slice aF s'.fr.length cF)
  have ho : Only (fun k => k = bm) w5 ((((w5.setCell ⟨bm, 0, none⟩ (.int .i64 s'.room)).setCell ⟨bm, 1, none⟩ (.slice aT s'.sl.length cT)).setCell ⟨bm, 2, none⟩ (.slice aU s'.sl.length cU)).setCell ⟨bm, 3, none⟩ (.slice aF s'.fr.length cF)) := (Only.refl _ w5).grown ht.1 (fun k e _ => by cases e; rfl)
  exact ⟨own, aT, cT, aU, cU, aF, cF, ts, ⟨hI.only ho (fun k hk e => (hown k hk).2.1 e), hR.only (ho.mono fun k _ e => .inr (.inl e))⟩, ⟨ht.2, hfR.only ho (fun e => hbs.2.2 e.symm)⟩, hown, hbel.trans (ho.below (hbel.size) (fun k e => e ▸ hbs.1)), hbs⟩
/-- the reference's rows lie apart from what the arena has made since -/
theorem ref_beside {own : Nat → Prop} {bm bR : Nat} {w4 w5 : World} {s : Ar Int} {ts : List Int} {aT aU aF : Option Addr} {cT cU cF : Nat} (hR : ref01.RefAt (fun k => own k ∨ k = bm ∨ k = bR) s ts aT cT aU cU aF cF w4) (ho : Only own w4 w5) :
    ref01.RefAt (fun k => ownNew own w4 w5 k ∨ k = bm ∨ k = bR) s ts aT cT aU cU aF cF w5 := (hR.step' ho (fun k hk => .inl hk)).sub (by
    rintro k (h | rfl | rfl)
    · rcases h with h | h
      · exact .inl (.inl h)
      · exact .inr h
    · exact .inl (.inr (.inl rfl))
    · exact .inl (.inr (.inr rfl)))
theorem alloc_room (s : Ar Int) (x : Int) : (s.alloc x).1.room = s.room := by
  unfold Ar.alloc
  split
  · rfl
  · split <;> rfl
/-- a round in which the document answered first, and then the arena -/
theorem PI.step {w0 wr w4 w5 : World} {bR b bm : Nat} {own : Nat → Prop} {s' : Ar Int} {ts : List Int} {aT aU aF : Option Addr} {cT cU cF : Nat} {q0 q1 q2 q3 : Value} (hsz : ∀ k, own k → k < wr.heap.size)
    (hown : ∀ k, own k → w0.heap.size ≤ k ∧ k ≠ bm ∧ k ≠ bR) (hbel : Below w0.heap.size w0 wr) (hbs : w0.heap.size ≤ bm ∧ w0.heap.size ≤ bR ∧ bm ≠ bR) (b4 : Below wr.heap.size wr w4) (ho : Only own w4 w5)
    (hI : arI.Is (ownNew own w4 w5) b s' w5) (hR : ref01.RefAt (fun k => own k ∨ k = bm ∨ k = bR) s' ts aT cT aU cU aF cF w4) (hm : Flds wr bm ref01.TR [q0, q1, q2, q3]) (hfR : Flds wr bR 4 [.bool false]) :
    PI w0 bR b bm s' ((((w5.setCell ⟨bm, 0, none⟩ (.int .i64 s'.room)).setCell ⟨bm, 1, none⟩ (.slice aT s'.sl.length cT)).setCell ⟨bm, 2, none⟩ (.slice aU s'.sl.length cU)).setCell ⟨bm, 3, none⟩ (.slice aF s'.fr.length cF)) := by
  have nm : ¬ own bm := fun h => (hown _ h).2.1 rfl
  have nR : ¬ own bR := fun h => (hown _ h).2.2 rfl
  have l1 := hm.lt
  have l2 := hfR.lt
  have l3 := b4.size
  have l4 := hbel.size
  have hR' : ref01.RefAt (fun k => ownNew own w4 w5 k ∨ k = bm ∨ k = bR) s' ts aT cT aU cU aF cF w5 := (hR.step' ho (fun k hk => .inl hk)).sub (by
    rintro k (h | rfl | rfl)
    · rcases h with h | h
      · exact .inl (.inl h)
      · exact .inr h
    · exact .inl (.inr (.inl rfl))
    · exact .inl (.inr (.inr rfl)))
  refine PI.mk' hI hR' ((hm.later b4).only ho nm) ((hfR.later b4).only ho nR) ?_ ?_ hbs
  · rintro k (h | h)
    · exact hown k h
    · exact ⟨by omega, by omega, by omega⟩
  · exact (hbel.trans (b4.mono l4)).trans (ho.below (by omega) (fun k hk => (hown k hk).1))
/-- what every round ends with: both answer how many live -/
theorem PI.later {w0 w5 w6 : World} {bR b bm : Nat} {s' : Ar Int} (h : PI w0 bR b bm s' w5) (hb : Below w5.heap.size w5 w6) : PI w0 bR b bm s' w6 := by
  obtain ⟨own, aT, cT, aU, cU, aF, cF, ts, ⟨hI, hR⟩, ⟨hm, hfR⟩, hown, hbel, hbs⟩ := h
  exact ⟨own, aT, cT, aU, cU, aF, cF, ts, ⟨hI.later hb, hR.later hb⟩, ⟨hm.later hb, hfR.later hb⟩, hown, hbel.trans (hb.mono hbel.size), hbs⟩
theorem PI.lives {w0 w5 : World} {bR b bm : Nat} {s' : Ar Int} (h : PI w0 bR b bm s' w5) :
    ∃ aT cT aU cU aF cF, (∀ W, Below w5.heap.size w5 W → ((W.cell? ⟨bm, 0, none⟩ = some (.int .i64 s'.room) ∧ W.cell? ⟨bm, 1, none⟩ = some (.slice aT s'.sl.length cT) ∧ W.cell? ⟨bm, 2, none⟩ = some (.slice aU s'.sl.length cU) ∧ W.cell? ⟨bm, 3, none⟩ = some (.slice aF s'.fr.length cF)) ∧ bm < W.heap.size)) ∧
      (∀ W, Below w5.heap.size w5 W → Calls Try.prog 19 #[.pointer (some ⟨b, 0, none⟩)] W fun e w' => e = .returned (.int .i64 s'.live) ∧ Below W.heap.size W w') ∧
      (∀ W, Below w5.heap.size w5 W → Calls Try.prog 20 #[ref01.st s'.room aT s'.sl.length cT aU s'.sl.length cU aF s'.fr.length cF] W fun e w' => e = .returned (.int .i64 s'.live) ∧ Below W.heap.size W w') := by
  obtain ⟨own, aT, cT, aU, cU, aF, cF, ts, ⟨hI, hR⟩, ⟨hm, hfR⟩, hown, hbel, hbs⟩ := h
  refine ⟨aT, cT, aU, cU, aF, cF, fun W hb => ?_, fun W hb => ?_, fun W hb => ?_⟩
  · have h := hm.later hb
    exact ⟨⟨h.cell 0, h.cell 1, h.cell 2, h.cell 3⟩, h.lt⟩
  · exact (arI.live_any own b s' W (hI.later hb)).mono (by rintro e w' ⟨rfl, n, rfl⟩; exact ⟨rfl, ⟨rfl, rfl, rfl, Nat.le_refl _, fun _ _ => rfl⟩⟩)
  · exact ref01.live_step s'.room hI.ok (hR.later hb)
theorem arI.Is.widen {own : Nat → Prop} {b : Nat} {s : Ar Int} {w4 w5 : World} (h : arI.Is own b s w5) (ho : Only own w4 w5) : arI.Is (ownNew own w4 w5) b s w5 :=
  h.mono (fun k hk => .inl hk) (fun k hk => hk.elim (fun e => h.lt k e) (fun e => e.2))
theorem ref01.row_empty (w : World) (a : Option Addr) (c : Nat) : Row w (.slice a 0 c) 1 0 [] := ⟨a, c, rfl, by simp, .inl rfl⟩
set_option maxRecDepth 100000 in
set_option maxHeartbeats 4000000 in
theorem plays_walk (room : Int) (acts : List ActV) (v : Value) (w : World) (hrow : Row w v 3 acts.length (actCells acts)) (hmax : acts.length ≤ 9223372036854775807) (hroom : -9223372036854775808 ≤ room ∧ room ≤ 9223372036854775807) :
    Calls Try.prog 3 #[.int .i64 room, v] w fun e w' => e = .returned (.bool true) ∧ Below w.heap.size w w' := by
  have HR := Lib.hid hrow
  obtain ⟨a, cap, rfl, -⟩ := hrow
  have hr0 : 0 ≤ min (max room 0) 1048576 := by omega
  have hr1 : min (max room 0) 1048576 ≤ 1048576 := by omega
  refine callsIn_wide.1 (callsIn_of_wp_marks (n := 3) Try.func3 rfl trivial (wpIn_wide.2 ?_) rfl)
  simp only [Try.ntmps3, List.size_toArray, List.length_cons, List.length_nil, Nat.reduceAdd, Nat.reduceSub, Array.replicate_succ, Array.replicate_zero, List.push_toArray, List.append_toArray, List.nil_append, List.cons_append]
  go_upto_block 0 with (first
    | (go_at_call 9; refine (arena_speaks _).mono ?_; rintro e w1 ⟨rfl, hb1⟩)
    | (go_at_call 10; refine (arI.new_any _ _).mono ?_; rintro e w2 ⟨rfl, h2, hb2, hs2⟩))
  have hpi : PI w w.heap.size w1.heap.size (w1.heap.size + 1) { room := min (max room 0) 1048576, sl := [], fr := [] } (w2.alloc (.cells #[.int .i64 (min (max room 0) 1048576), .slice none 0 0, .slice none 0 0, .slice none 0 0] 29)) := by
    have hfb := Flds.new w2 ref01.TR [.int .i64 (min (max room 0) 1048576), .slice none 0 0, .slice none 0 0, .slice none 0 0]
    rw [hs2] at hfb
    have hz := hb1.size
    rw [World.size_alloc] at hz
    have hfR := (((Flds.new w 4 [.bool false]).later hb1).later hb2).alloc (.cells #[.int .i64 (min (max room 0) 1048576), .slice none 0 0, .slice none 0 0, .slice none 0 0] 29)
    have hB : Below w.heap.size w w2 := ((Below.refl _ w).alloc (Nat.le_refl _) _ |>.trans (hb1.mono (by simp))).trans (hb2.mono (by omega))
    refine ⟨_, none, 0, none, 0, none, 0, [], ⟨h2.later ((Below.refl _ _).alloc (Nat.le_refl _) _), ⟨ref01.row_empty _ _ _, ref01.row_empty _ _ _, ref01.row_empty _ _ _, Nat.le_refl _, ⟨rfl, fun i v h => by simp at h⟩, fun _ x h => (nomatch h), fun _ x h => (nomatch h), fun _ x h => (nomatch h)⟩⟩, ⟨hfb, hfR⟩, ?_, hB.alloc hB.size _, by omega, Nat.le_refl _, by omega⟩
    rintro k rfl
    omega
  generalize min (max room 0) 1048576 = R at *
  have hbb : w.heap.size ≤ w1.heap.size := by have := hb1.size; simp at this; omega
  obtain ⟨b, hb⟩ : ∃ b, w1.heap.size = b := ⟨_, rfl⟩
  obtain ⟨bm, hbm⟩ : ∃ bm, w1.heap.size + 1 = bm := ⟨_, rfl⟩
  rw [hbm, hb] at hpi ⊢
  have HPI := Lib.hid hpi
  clear hpi h2 hb2 hs2 hb1 hbb
  have hlo : (0 : Int) ≤ (acts.length : Int) := by omega
  have hhi : (acts.length : Int) ≤ 9223372036854775807 := by omega
  go_cut [7] from 8 to 157 (fun i wx => ∃ s, PI w w.heap.size b bm s wx)
  case first =>
    go_wp2_with fail
    go_loopw [7] (fun i wr => ∃ j : Nat, ∃ s, i = .int .i64 (j : Int) ∧ j ≤ 60 ∧ j ≤ acts.length ∧ PI w w.heap.size b bm s wr) (fun i _ => upTo 60 i)
    case atStart => exact ⟨0, _, rfl, by omega, by omega, HPI.out⟩
    case round =>
      obtain ⟨j, s, rfl, hj, hjn, hP⟩ := hrel
      have hd0 : (0 : Int) ≤ (j : Int) := by omega
      obtain ⟨own, aT, cT, aU, cU, aF, cF, ts, ⟨hI, hRA⟩, ⟨hfm, hfR⟩, hown, hbel, hbs⟩ := hP
      have m0 := hfm.cell 0; have m1 := hfm.cell 1; have m2 := hfm.cell 2; have m3 := hfm.cell 3
      have n0 := hfm.frozen 0; have n1 := hfm.frozen 1; have n2 := hfm.frozen 2; have n3 := hfm.frozen 3
      simp only [List.getElem?_cons_zero, List.getElem?_cons_succ] at m0 m1 m2 m3
      have lm := hfm.lt; have lR := hfR.lt
      have HI := Lib.hid hI; have HRA := Lib.hid hRA; have HFM := Lib.hid hfm; have HFR := Lib.hid hfR; have HOW := Lib.hid hown; have HBE := Lib.hid hbel; have HBS := Lib.hid hbs
      clear hI hRA hfm hfR hown hbel hbs
      by_cases c1 : j < acts.length
      · by_cases c2 : j < 60
        · have hrw := HR.out.later HBE.out
          obtain ⟨ba, off, cap', ea, hcell⟩ := hrw.pos (by omega)
          simp only [Value.slice.injEq] at ea
          obtain ⟨rfl, -, rfl⟩ := ea
          have hact := List.getElem?_eq_getElem c1
          obtain ⟨ca, cb, cc⟩ := actCells_at acts j _ hact
          have ga := (hcell (j * 3) (by omega)).trans ca
          have gb := (hcell (j * 3 + 1) (by omega)).trans cb
          have gc := (hcell (j * 3 + 2) (by omega)).trans cc
          generalize acts[j] = A at *
          obtain ⟨x0, x1, x2⟩ := A
          dsimp only at ga gb gc
          rw [← Nat.add_assoc] at gb gc
          have d1 : (j : Int) < (acts.length : Int) := by omega
          have d2 : (j : Int) < 60 := by omega
          clear hcell ca cb cc hact hrw
          have hsz : ∀ k, own k → k < wr.heap.size := HI.out.lt
          have hlX : ∀ k, (own k ∨ k = bm ∨ k = w.heap.size) → k < wr.heap.size := fun k hk => by
            rcases hk with h | h | h
            · exact hsz k h
            · omega
            · omega
          have hok := HI.out.ok
          have HSZ := Lib.hid hsz; have HLX := Lib.hid hlX; have HOK := Lib.hid hok
          clear hsz hlX hok
          have hb0 : ∀ o, Below wr.heap.size wr (wr.alloc o) := fun o => (Below.refl _ _).alloc (Nat.le_refl _) o
          have HB0 := Lib.hid hb0
          clear hb0
          go_upto_block 2 with fail
          go_cut [9, 10, 11, 12, 13, 14, 15, 16, 17, 18, 19, 20] from 37 to 152 (fun _ _ _ _ _ _ _ _ _ _ _ _ wx => ∃ s', PI w w.heap.size b bm s' wx)
          case first =>
            go_wp2_with fail
            · refine (ref01.free_step s.room HOK.out (fun k hk => by have := HLX.out k hk; simp; omega) (HRA.out.later (HB0.out _)) x1).mono ?_
              rintro e w3 ⟨⟨aT', cT', aU', cU', aF', cF', rfl, hR3⟩, hb3⟩
              obtain ⟨s', hs'⟩ : ∃ s', (if s.has x1 = true then s.free 0 x1 else s) = s' := ⟨_, rfl⟩
              have hroom' : s'.room = s.room := by rw [← hs']; split <;> rfl
              rw [hs'] at hR3 ⊢
              have HS' := Lib.hid hs'; have HR3 := Lib.hid hR3
              have b3 : Below wr.heap.size wr w3 := (HB0.out _).trans (hb3.mono (by simp))
              have B3 := Lib.hid b3
              have q0 := cell_later hb3 (cells_new wr [.int .i64 x0, .int .i64 x1, .int .i64 x2] 31 0)
              have q1 := cell_later hb3 (cells_new wr [.int .i64 x0, .int .i64 x1, .int .i64 x2] 31 1)
              have q2 := cell_later hb3 (cells_new wr [.int .i64 x0, .int .i64 x1, .int .i64 x2] 31 2)
              have hz3 := hb3.size
              rw [World.size_alloc] at hz3
              have lx : wr.heap.size < w3.heap.size := by omega
              have hA : ∀ o, Below w3.heap.size w3 (w3.alloc o) := fun o => (Below.refl _ _).alloc (Nat.le_refl _) o
              have p0 := fun o => cell_later (hA o) q0
              have p1 := fun o => cell_later (hA o) q1
              have p2 := fun o => cell_later (hA o) q2
              clear hs' hR3 hb3 b3
              go_wp2_with fail
              have b4 : Below wr.heap.size wr (w3.alloc (.cells #[.int .i64 s.room, .slice aT' s'.sl.length cT', .slice aU' s'.sl.length cU', .slice aF' s'.fr.length cF'] 29)) := B3.out.alloc B3.out.size _
              refine (arI.free_any own b s _ (HI.out.later b4) x1).mono ?_
              rintro e w5 ⟨rfl, hI5, ho5⟩
              have hno : ¬ own w3.heap.size := fun h => by have := HSZ.out _ h; omega
              have hf5 := (Flds.new w3 ref01.TR [.int .i64 s.room, .slice aT' s'.sl.length cT', .slice aU' s'.sl.length cU', .slice aF' s'.fr.length cF']).only ho5 hno
              have r0 := hf5.cell 0; have r1 := hf5.cell 1; have r2 := hf5.cell 2; have r3 := hf5.cell 3
              simp only [List.getElem?_cons_zero, List.getElem?_cons_succ] at r0 r1 r2 r3
              have hm5 := (HFM.out.later b4).only ho5 (fun h => (HOW.out _ h).2.1 rfl)
              have n50 := hm5.frozen 0; have n51 := hm5.frozen 1; have n52 := hm5.frozen 2; have n53 := hm5.frozen 3
              have m50 := hm5.cell 0; have m51 := hm5.cell 1; have m52 := hm5.cell 2; have m53 := hm5.cell 3
              simp only [List.getElem?_cons_zero, List.getElem?_cons_succ] at m50 m51 m52 m53
              have lm5 := hm5.lt
              have l95 := hf5.lt
              have HI5 := Lib.hid hI5; have HO5 := Lib.hid ho5; have HB4 := Lib.hid b4; have HM5 := Lib.hid hm5
              clear hI5 ho5 b4 hf5 hm5
              go_wp2_with fail
              have h6 := PI.step HSZ.out HOW.out HBE.out HBS.out HB4.out HO5.out (HS'.out ▸ HI5.out) (HR3.out.later (hA _)) HFM.out HFR.out
              rw [hroom'] at h6
              go_meet
              exact ⟨_, h6⟩
            · have hHas : Calls Try.prog 14 #[ref01.st s.room aT s.sl.length cT aU s.sl.length cU aF s.fr.length cF, .int .i64 x1] (wr.alloc (.cells #[.int .i64 x0, .int .i64 x1, .int .i64 x2] 31)) fun e w' => e = .returned (.bool (s.has x1)) ∧ Below (wr.alloc (.cells #[.int .i64 x0, .int .i64 x1, .int .i64 x2] 31)).heap.size (wr.alloc (.cells #[.int .i64 x0, .int .i64 x1, .int .i64 x2] 31)) w' :=
                ref01.has_step s.room HOK.out (HRA.out.later (HB0.out _)) x1
              have hGet := arI.get_any own b s _ (HI.out.later (HB0.out (.cells #[.int .i64 x0, .int .i64 x1, .int .i64 x2] 31))) x1
              have hlen := HRA.out.agr.1
              have HHAS := Lib.hid hHas; have HGET := Lib.hid hGet; have HLEN := Lib.hid hlen
              clear hHas hGet hlen
              have HPI' : Hid (PI w w.heap.size b bm s wr) := Lib.hid ⟨own, aT, cT, aU, cU, aF, cF, ts, ⟨HI.out, HRA.out⟩, ⟨HFM.out, HFR.out⟩, HOW.out, HBE.out, HBS.out⟩
              cases hh : s.has x1
              · have eg : arI.getAt s x1 = 0 := by unfold arI.getAt; rw [hh]; rfl
                rw [hh] at HHAS HGET
                rw [eg] at HGET
                clear eg hh
                go_wp2_with (go_at_call 13; refine HGET.out.mono ?_; rintro e w3 ⟨rfl, rfl⟩)
                refine HHAS.out.mono ?_
                rintro e w3 ⟨rfl, hb3⟩
                have HB3 := Lib.hid hb3
                clear hb3
                go_wp2_with fail
                go_meet
                exact ⟨_, HPI'.out.later ((HB0.out _).trans (HB3.out.mono (by simp)))⟩
              · obtain ⟨z0, zl, x, zx⟩ := Ar.has_iff.1 hh
                obtain ⟨k, rfl⟩ : ∃ k : Nat, x1 = (k : Int) := ⟨x1.toNat, by omega⟩
                rw [Int.toNat_natCast] at zl zx
                have eg : arI.getAt s k = x := by unfold arI.getAt; rw [hh, Int.toNat_natCast, zx]; rfl
                rw [hh] at HHAS HGET
                rw [eg] at HGET
                have et := HRA.out.agr.2 k x zx
                obtain ⟨bT, oT, cT', eT, hT⟩ := HRA.out.t.pos (by rw [ref01.len_us]; omega)
                simp only [Value.slice.injEq] at eT
                obtain ⟨rfl, -, rfl⟩ := eT
                have gT := hT k (by rw [ref01.len_us]; omega)
                rw [show ref01.ints ts = ts.map (Value.int .i64) from rfl, List.getElem?_map, et] at gT
                have zk : (k : Int) < (s.sl.length : Int) := by omega
                have zk0 : (0 : Int) ≤ (k : Int) := by omega
                clear eg hh et hT zx z0
                go_wp2_with (go_at_call 13; refine HGET.out.mono ?_; rintro e w3 ⟨rfl, rfl⟩)
                refine HHAS.out.mono ?_
                rintro e w3 ⟨rfl, hb3⟩
                have HB3 := Lib.hid hb3
                have b3 : Below wr.heap.size wr w3 := (HB0.out _).trans (hb3.mono (by simp))
                have gT3 := cell_later b3 gT
                have m13 := cell_later b3 m1
                have q1 := cell_later hb3 (cells_new wr [.int .i64 x0, .int .i64 k, .int .i64 x2] 31 1)
                clear b3 hb3
                go_wp2_with fail
                go_meet
                exact ⟨_, HPI'.out.later ((HB0.out _).trans (HB3.out.mono (by simp)))⟩
            · obtain ⟨ts', hset⟩ := ref01.set_step s.room HOK.out (fun k hk => by have := HLX.out k hk; simp; omega) (HRA.out.later (HB0.out _)) x1 x2
              refine hset.mono ?_
              clear hset
              rintro e w3 ⟨⟨aT', cT', aU', cU', aF', cF', rfl, hR3⟩, hb3⟩
              obtain ⟨s', hs'⟩ : ∃ s', (if s.has x1 = true then s.put x1 x2 else s) = s' := ⟨_, rfl⟩
              have hroom' : s'.room = s.room := by rw [← hs']; split <;> rfl
              rw [hs'] at hR3 ⊢
              have HS' := Lib.hid hs'; have HR3 := Lib.hid hR3
              have b3 : Below wr.heap.size wr w3 := (HB0.out _).trans (hb3.mono (by simp))
              have B3 := Lib.hid b3
              have q0 := cell_later hb3 (cells_new wr [.int .i64 x0, .int .i64 x1, .int .i64 x2] 31 0)
              have q1 := cell_later hb3 (cells_new wr [.int .i64 x0, .int .i64 x1, .int .i64 x2] 31 1)
              have q2 := cell_later hb3 (cells_new wr [.int .i64 x0, .int .i64 x1, .int .i64 x2] 31 2)
              have hz3 := hb3.size
              rw [World.size_alloc] at hz3
              have lx : wr.heap.size < w3.heap.size := by omega
              have hA : ∀ o, Below w3.heap.size w3 (w3.alloc o) := fun o => (Below.refl _ _).alloc (Nat.le_refl _) o
              have p0 := fun o => cell_later (hA o) q0
              have p1 := fun o => cell_later (hA o) q1
              have p2 := fun o => cell_later (hA o) q2
              clear hs' hR3 hb3 b3
              go_wp2_with fail
              have b4 : Below wr.heap.size wr (w3.alloc (.cells #[.int .i64 s.room, .slice aT' s'.sl.length cT', .slice aU' s'.sl.length cU', .slice aF' s'.fr.length cF'] 29)) := B3.out.alloc B3.out.size _
              refine (arI.set_any own b s _ (HI.out.later b4) x1 x2).mono ?_
              rintro e w5 ⟨rfl, hI5', ho5⟩
              have hI5 := hI5'.widen ho5
              clear hI5'
              have hno : ¬ own w3.heap.size := fun h => by have := HSZ.out _ h; omega
              have hf5 := (Flds.new w3 ref01.TR [.int .i64 s.room, .slice aT' s'.sl.length cT', .slice aU' s'.sl.length cU', .slice aF' s'.fr.length cF']).only ho5 hno
              have r0 := hf5.cell 0; have r1 := hf5.cell 1; have r2 := hf5.cell 2; have r3 := hf5.cell 3
              simp only [List.getElem?_cons_zero, List.getElem?_cons_succ] at r0 r1 r2 r3
              have hm5 := (HFM.out.later b4).only ho5 (fun h => (HOW.out _ h).2.1 rfl)
              have n50 := hm5.frozen 0; have n51 := hm5.frozen 1; have n52 := hm5.frozen 2; have n53 := hm5.frozen 3
              have m50 := hm5.cell 0; have m51 := hm5.cell 1; have m52 := hm5.cell 2; have m53 := hm5.cell 3
              simp only [List.getElem?_cons_zero, List.getElem?_cons_succ] at m50 m51 m52 m53
              have lm5 := hm5.lt
              have l95 := hf5.lt
              have HI5 := Lib.hid hI5; have HO5 := Lib.hid ho5; have HB4 := Lib.hid b4; have HM5 := Lib.hid hm5
              clear hI5 ho5 b4 hf5 hm5
              go_wp2_with fail
              have h6 := PI.step HSZ.out HOW.out HBE.out HBS.out HB4.out HO5.out (HS'.out ▸ HI5.out) (HR3.out.later (hA _)) HFM.out HFR.out
              rw [hroom'] at h6
              go_meet
              exact ⟨_, h6⟩
            · have hPA := arI.alloc_any own b s _ (HI.out.later (HB0.out (.cells #[.int .i64 x0, .int .i64 x1, .int .i64 x2] 31))) x2
              refine hPA.mono ?_
              clear hPA
              rintro e w3 ⟨rfl, hI3, ho3⟩
              have hz0 : (wr.alloc (.cells #[.int .i64 x0, .int .i64 x1, .int .i64 x2] 31)).heap.size = wr.heap.size + 1 := World.size_alloc _ _
              have bA := HB0.out (.cells #[.int .i64 x0, .int .i64 x1, .int .i64 x2] 31)
              have hR3 := ref_beside (HRA.out.later bA) ho3
              have hm3 := (HFM.out.later bA).only ho3 (fun h => (HOW.out _ h).2.1 rfl)
              have hf3 := (HFR.out.later bA).only ho3 (fun h => (HOW.out _ h).2.2 rfl)
              have q0 := cell_only (cells_new wr [.int .i64 x0, .int .i64 x1, .int .i64 x2] 31 2) ho3 (fun h => by have := HSZ.out _ h; simp at this)
              have hz3 := ho3.size
              have hlX3 : ∀ k, (ownNew own (wr.alloc (.cells #[.int .i64 x0, .int .i64 x1, .int .i64 x2] 31)) w3 k ∨ k = bm ∨ k = w.heap.size) → k < w3.heap.size := fun k hk => by
                rcases hk with (h | h) | h | h
                · have := HSZ.out k h; omega
                · exact h.2
                · omega
                · omega
              obtain ⟨ts', hcall⟩ := ref01.alloc_step HOK.out hlX3 hR3 x2
              have hown3 : ∀ k, ownNew own (wr.alloc (.cells #[.int .i64 x0, .int .i64 x1, .int .i64 x2] 31)) w3 k → w.heap.size ≤ k ∧ k ≠ bm ∧ k ≠ w.heap.size := fun k hk => by
                rcases hk with h | h
                · exact HOW.out k h
                · exact ⟨by omega, by omega, by omega⟩
              have hbel3 : Below w.heap.size w w3 := (HBE.out.trans (bA.mono HBE.out.size)).trans (ho3.below (by have := HBE.out.size; omega) (fun k hk => (HOW.out k hk).1))
              have hroom' : (s.alloc x2).1.room = s.room := alloc_room s x2
              revert hI3 hcall hroom'
              generalize (s.alloc x2).1 = s'
              generalize (s.alloc x2).2.1 = n'
              generalize (s.alloc x2).2.2 = ok'
              generalize ownNew own _ w3 = own3 at *
              intro hI3 hcall hroom'
              have m30 := hm3.cell 0; have m31 := hm3.cell 1; have m32 := hm3.cell 2; have m33 := hm3.cell 3
              simp only [List.getElem?_cons_zero, List.getElem?_cons_succ] at m30 m31 m32 m33
              have lm3 := hm3.lt
              have HI3 := Lib.hid hI3; have HC3 := Lib.hid hcall; have HM3 := Lib.hid hm3; have HF3 := Lib.hid hf3; have HO3 := Lib.hid hown3; have HBL3 := Lib.hid hbel3; have HRM := Lib.hid hroom'
              clear hI3 hcall hm3 hf3 hR3 hlX3 hown3 hbel3 hroom' bA ho3 hz0 hz3
              go_wp2_with fail
              refine HC3.out.mono ?_
              rintro e w4 ⟨⟨aT', cT', aU', cU', aF', cF', rfl, hR4⟩, hb4⟩
              have hm4 := HM3.out.later hb4
              have m40 := cell_later hb4 m30
              have m41 := cell_later hb4 m31
              have m42 := cell_later hb4 m32
              have m43 := cell_later hb4 m33
              have n40 := hm4.frozen 0; have n41 := hm4.frozen 1; have n42 := hm4.frozen 2; have n43 := hm4.frozen 3
              have lm4 := hm4.lt
              have HR4 := Lib.hid hR4; have HB4 := Lib.hid hb4
              clear hR4 hb4 hm4
              go_wp2_with fail
              have h6 := PI.mk' (HI3.out.later HB4.out) HR4.out (HM3.out.later HB4.out) (HF3.out.later HB4.out) HO3.out (HBL3.out.trans (HB4.out.mono HBL3.out.size)) HBS.out
              rw [HRM.out] at h6
              go_meet
              exact ⟨_, h6.later ((Below.refl _ _).alloc (Nat.le_refl _) _)⟩
          case rest =>
            obtain ⟨s', h6⟩ := hcut
            revert h6
            generalize wc = w6
            intro h6
            go_wp2_with fail
            obtain ⟨kT, lT, kU, lU, kF, lF, hcs, hl1, hl2⟩ := PI.lives h6
            have HP6 := Lib.hid h6; have HCS := Lib.hid hcs; have HL1 := Lib.hid hl1; have HL2 := Lib.hid hl2
            clear h6 hcs hl1 hl2
            refine ag.region_ag (fun W => Below w6.heap.size w6 W) (fun _ _ _ _ => True)
              [.val (.pointer (some ⟨b, 0, none⟩)), .sat (fun v _ => v = .int .i64 s'.live) ref01.calm, .val (ref01.st s'.room kT s'.sl.length lT kU s'.sl.length lU kF s'.fr.length lF), .sat (fun v _ => v = .int .i64 s'.live) ref01.calm, .val (.bool false)]
              (by kernel_rfl) (by kernel_rfl) rfl (⟨rfl, rfl, rfl, Nat.le_refl _, fun _ _ => rfl⟩) ?hst ?hk ?hwalk
            case hst =>
              simp only [ag.Stab, ag.Row2, ag.Ok2, and_true]
              repeat' apply And.intro
              all_goals first
                | exact fun h => absurd rfl h
                | exact fun _ _ f v W W' hS hv _ ht => hv
                | trivial
            case hk => exact ⟨fun f W W' hS _ ht => hS.trans (ht.mono hS.size), fun f W W' hS _ ht => hS.trans (ht.mono hS.size), trivial⟩
            case hwalk =>
              refine ag.walk_val (by rfl) (fun W hS hE => ?_) ?_
              rotate_left; simp only [Act.put, List.setIfInBounds_toArray, List.set_cons_zero, List.set_cons_succ]; rotate_left
              · clear hS hE
                unfold ag.does
                go_simp
                try exact ⟨rfl, rfl⟩
              refine ag.walk_sat (by rfl) (fun W hS hE => ?_) (fun y1 => ?_)
              rotate_left; simp only [Act.put, List.setIfInBounds_toArray, List.set_cons_zero, List.set_cons_succ]; rotate_left
              · have hl := HL1.out W hS
                have HLL := Lib.hid hl
                clear hE hS hl
                unfold ag.does
                go_simp
                refine HLL.out.mono ?_
                rintro e W' ⟨rfl, hb'⟩
                exact ⟨_, rfl, rfl, hb', ag.News.none (fun _ _ => trivial) _ _⟩
              refine ag.walk_val (by rfl) (fun W hS hE => ?_) ?_
              rotate_left; simp only [Act.put, List.setIfInBounds_toArray, List.set_cons_zero, List.set_cons_succ]; rotate_left
              · obtain ⟨⟨v0, v1, v2, v3⟩, vl⟩ := HCS.out W hS
                clear hS hE
                unfold ag.does
                go_simp
                try exact ⟨rfl, rfl⟩
              refine ag.walk_sat (by rfl) (fun W hS hE => ?_) (fun y2 => ?_)
              rotate_left; simp only [Act.put, List.setIfInBounds_toArray, List.set_cons_zero, List.set_cons_succ]; rotate_left
              · have hl := HL2.out W hS
                have HLL := Lib.hid hl
                clear hE hS hl
                unfold ag.does
                go_simp
                refine HLL.out.mono ?_
                rintro e W' ⟨rfl, hb'⟩
                exact ⟨_, rfl, rfl, hb', ag.News.none (fun _ _ => trivial) _ _⟩
              refine ag.walk_val (by rfl) (fun W hS hE => ?_) ?_
              rotate_left; simp only [Act.put, List.setIfInBounds_toArray, List.set_cons_zero, List.set_cons_succ]; rotate_left
              · have h1 : y2 = .int .i64 s'.live := hE.get (by kernel_rfl)
                have h2 : y1 = .int .i64 s'.live := hE.tail.get (by kernel_rfl)
                clear hS hE
                subst h1 h2
                unfold ag.does
                go_simp
                try exact ⟨rfl, rfl⟩
              refine ag.walk_nil (fun w7 hS hF' hP => ?_)
              clear hF' hP
              have HS7 := Lib.hid hS
              clear hS
              have hd0 : (0 : Int) ≤ (j : Int) := by omega
              go_wp2
              go_roundw
              case rel => exact ⟨j + 1, s', rfl, by omega, by omega, HP6.out.later HS7.out⟩
              case measure => simp [upTo]; omega
        · have e1 : (j : Int) < (acts.length : Int) := by omega
          have e2 : ¬ (j : Int) < 60 := by omega
          have HPI' : Hid (PI w w.heap.size b bm s wr) := Lib.hid ⟨own, aT, cT, aU, cU, aF, cF, ts, ⟨HI.out, HRA.out⟩, ⟨HFM.out, HFR.out⟩, HOW.out, HBE.out, HBS.out⟩
          go_wp2_with fail
          go_meet
          exact ⟨_, HPI'.out⟩
      · have e1 : ¬ (j : Int) < (acts.length : Int) := by omega
        have HPI' : Hid (PI w w.heap.size b bm s wr) := Lib.hid ⟨own, aT, cT, aU, cU, aF, cF, ts, ⟨HI.out, HRA.out⟩, ⟨HFM.out, HFR.out⟩, HOW.out, HBE.out, HBS.out⟩
        go_wp2_with fail
        go_meet
        exact ⟨_, HPI'.out⟩
  case rest =>
    obtain ⟨s, own, aT, cT, aU, cU, aF, cF, ts, ⟨hI, hRA⟩, ⟨hfm, hfR⟩, hown, hbel, hbs⟩ := hcut
    have lm := hfm.lt; have lR := hfR.lt
    have hmany := hI.ok.many
    have HI := Lib.hid hI; have HRA := Lib.hid hRA; have HFM := Lib.hid hfm; have HFR := Lib.hid hfR; have HOW := Lib.hid hown; have HBE := Lib.hid hbel; have HBS := Lib.hid hbs
    clear hI hRA hfm hfR hown hbel hbs
    go_wp2_with fail
    refine (callsIn_wide.1 (arI.all_in 1 b _)).mono ?_
    rintro e w3 ⟨rfl, rfl⟩
    go_wp2_with fail
    refine (wpIn_wide (n := 3)).1 ?_
    have bN := Boxed.new wc 3 (.int .i64 0)
    have bS : ((wc.alloc (.cells #[.int .i64 0] 3)).alloc (.cells #[.pointer (some ⟨b, 0, none⟩)] 24)).cell? ⟨(wc.alloc (.cells #[.int .i64 0] 3)).heap.size, 0, none⟩ = some (.pointer (some ⟨b, 0, none⟩)) := cells_new _ [_] _ 0
    have hB0 : Below wc.heap.size wc ((wc.alloc (.cells #[.int .i64 0] 3)).alloc (.cells #[.pointer (some ⟨b, 0, none⟩)] 24)) := ((Below.refl _ _).alloc (Nat.le_refl _) _).alloc (by simp) _
    have hIX := HI.out.later hB0
    rw [World.size_alloc] at bS
    refine range_idx rfl (by decide) (gf := 48) (lb := #[.pointer (some ⟨wc.heap.size + 1, 0, none⟩)]) rfl trivial (enters_of Try.func48 (by kernel_rfl) rfl)
      (arI.all_idx _ (by decide) (wc.heap.size + 1) own b s _ bS hIX) (fun h h' => h.trans h') (fun W l o o' hl _ _ _ g hg => World.putObj_heap_other (by have := HI.out.lt g hg; simp at hl; omega)) (fun _ => rfl)
      (KC wc wc.heap.size s) (fun _ _ _ => False) (KC.own (by simp; omega)) (fun _ _ _ _ _ hs _ _ => hs)
      ⟨0, ⟨(bN.alloc _).cell, (bN.alloc _).frozen⟩, by omega, by simp, hB0⟩ ?a1 ?assign ?body ?done ?stop
    case stop =>
      rintro D c k W _ _ h _
      exact h.elim
    case assign =>
      intro l k W K hk hI hK
      clear hk hI
      unfold arI.allArgs
      gi_wp2
      exact hK
    case body =>
      rintro l k W hk ⟨kk, ⟨hc, hf⟩, hkl, hus, hB⟩
      obtain ⟨p, x, p1, p2, p3, p4, p5, p6⟩ := KC.next hus hk
      obtain ⟨bU, oU, cU', eU, hU⟩ := HRA.out.u.pos (by rw [ref01.len_us]; omega)
      obtain ⟨bT, oT, cT', eT, hT⟩ := HRA.out.t.pos (by rw [ref01.len_us]; omega)
      simp only [Value.slice.injEq] at eU eT
      obtain ⟨rfl, -, rfl⟩ := eU
      obtain ⟨rfl, -, rfl⟩ := eT
      have et := HRA.out.agr.2 p x p4
      have gT := hT p (by rw [ref01.len_us]; omega)
      rw [show ref01.ints ts = ts.map (Value.int .i64) from rfl, List.getElem?_map, et] at gT
      have hU' : ∀ q u, q < s.sl.length → s.sl[q]?.map (·.1) = some u → wc.cell? ⟨bU, oU + q, none⟩ = some (.bool u) := fun q u h1 h2 => by
        have := hU q (by rw [ref01.len_us]; omega)
        rw [List.getElem?_map, show (ref01.usOf s)[q]? = s.sl[q]?.map (·.1) from List.getElem?_map .., h2] at this
        exact this
      have HU := Lib.hid hU'; have HP3 := Lib.hid p3; have HP6 := Lib.hid p6; have HB := Lib.hid hB; have HT := Lib.hid gT; have HP4 := Lib.hid p4
      have lz := hB.size
      have lk : wc.heap.size < W.heap.size := World.block_lt_of_cell? W ⟨wc.heap.size, 0, none⟩ hc
      rw [p5]
      clear hus p5 hk hU hT hU' p3 p6 hB gT p4 et
      gi_wp2
      gi_loopw [162] (fun _ wr => ∃ q : Nat, kk ≤ q ∧ q ≤ p ∧ (wr.cell? ⟨wc.heap.size, 0, none⟩ = some (.int .i64 (q : Int)) ∧ wr.frozen? ⟨wc.heap.size, 0, none⟩ = false) ∧ Below wc.heap.size wc wr ∧ (∀ B, KeepsFrom B W wr) ∧ arI.Kp own W wr) (fun _ wr => upCell s.sl.length wc.heap.size wr)
      case atStart => exact ⟨kk, by omega, p1, ⟨hc, hf⟩, HB.out, fun B => KeepsFrom.refl B W, arI.Kp.refl _ _⟩
      case round =>
        obtain ⟨q, q1, q2, ⟨c1, f1⟩, hB1, hK1, hP1⟩ := hrel
        have c2 := (HFM.out.later hB1).cell 2
        have c3 := (HFM.out.later hB1).cell 1
        simp only [List.getElem?_cons_zero, List.getElem?_cons_succ] at c2 c3
        have c4 := cell_later hB1 HT.out
        have d1 : (q : Int) < (s.sl.length : Int) := by omega
        have d2 : (0 : Int) ≤ (q : Int) := by omega
        have lw : wc.heap.size < wr.heap.size := World.block_lt_of_cell? wr ⟨wc.heap.size, 0, none⟩ c1
        have hkp : ∀ u, arI.Kp own W (wr.setCell ⟨wc.heap.size, 0, none⟩ u) := fun u => hP1.trans (fun g hg => Below.heap_setCell _ _ _ _ (fun e => by have := HI.out.lt g hg; simp at e; omega))
        have hkf : ∀ u B, KeepsFrom B W (wr.setCell ⟨wc.heap.size, 0, none⟩ u) := fun u B => (hK1 B).trans ((KeepsOthers.setCell _ _ _).from B)
        have hbl : ∀ u, Below wc.heap.size wc (wr.setCell ⟨wc.heap.size, 0, none⟩ u) := fun u => hB1.setCell (p := ⟨wc.heap.size, 0, none⟩) (Nat.le_refl _) u
        have hcl : ∀ u, (wr.setCell ⟨wc.heap.size, 0, none⟩ u).cell? ⟨wc.heap.size, 0, none⟩ = some u := fun u => World.cell?_setCell_same' _ _ _ (by rw [c1]; rfl)
        have hfl : ∀ u, (wr.setCell ⟨wc.heap.size, 0, none⟩ u).frozen? ⟨wc.heap.size, 0, none⟩ = false := fun u => by rw [World.frozen?_setCell]; exact f1
        have HB1 := Lib.hid hB1; have HKP := Lib.hid hkp; have HKF := Lib.hid hkf; have HBL := Lib.hid hbl; have HCL := Lib.hid hcl; have HFL := Lib.hid hfl
        have hup := upCell_of (n := s.sl.length) c1
        have HUP := Lib.hid hup
        clear hkp hkf hbl hcl hfl hB1 hK1 hP1 hup
        by_cases hq : q < p
        · have c5 := cell_later HB1.out (HU.out q false (by omega) (HP3.out q q1 hq))
          gi_wp2
          go_roundw
          case rel => exact ⟨q + 1, by omega, by omega, ⟨(HCL.out _).trans (by simp), HFL.out _⟩, HBL.out _, fun B => HKF.out _ B, HKP.out _⟩
          case measure => rw [upCell_of (HCL.out _), HUP.out]; simp; omega
        · obtain rfl : q = p := by omega
          have c5 := cell_later HB1.out (HU.out q true (by omega) (by rw [HP4.out]; rfl))
          gi_wp2
          exact ⟨HKF.out _ _, HKP.out _, q + 1, ⟨(HCL.out _).trans (by simp), HFL.out _⟩, by omega, HP6.out, HBL.out _⟩
    case done =>
      rintro D W hD ⟨kk, ⟨hc, hf⟩, hkl, hus, hB⟩ hK
      have hno := KC.done hus
      have hD0 : wc.heap.size + 2 ≤ D := by simpa using hD
      have hU' : ∀ q, kk ≤ q → q < s.sl.length → ∃ bU oU, aU = some ⟨bU, oU, none⟩ ∧ wc.cell? ⟨bU, oU + q, none⟩ = some (.bool false) := fun q h0 h1 => by
        obtain ⟨bU, oU, cU', eU, hU⟩ := HRA.out.u.pos (by rw [ref01.len_us]; omega)
        simp only [Value.slice.injEq] at eU
        have := hU q (by rw [ref01.len_us]; omega)
        rw [List.getElem?_map, show (ref01.usOf s)[q]? = s.sl[q]?.map (·.1) from List.getElem?_map .., hno q h0 h1] at this
        exact ⟨bU, oU, eU.1, this⟩
      have HU := Lib.hid hU'; have HB := Lib.hid hB; have HK := Lib.hid hK
      clear hus hno hU' hB hK hD
      go_wp2_with fail
      go_loopw [198] (fun _ wr => ∃ q : Nat, kk ≤ q ∧ q ≤ s.sl.length ∧ (wr.cell? ⟨wc.heap.size, 0, none⟩ = some (.int .i64 (q : Int)) ∧ wr.frozen? ⟨wc.heap.size, 0, none⟩ = false) ∧ Below wc.heap.size wc wr ∧ wr.heap[D]? = some (.deferred (some []))) (fun _ wr => upCell s.sl.length wc.heap.size wr)
      case atStart => exact ⟨kk, by omega, hkl, ⟨hc, hf⟩, HB.out, HK.out⟩
      case round =>
        obtain ⟨q, q1, q2, ⟨c1, f1⟩, hB1, hK1⟩ := hrel
        have c2 := (HFM.out.later hB1).cell 2
        simp only [List.getElem?_cons_zero, List.getElem?_cons_succ] at c2
        have d2 : (0 : Int) ≤ (q : Int) := by omega
        have lw : wc.heap.size < wr.heap.size := World.block_lt_of_cell? wr ⟨wc.heap.size, 0, none⟩ c1
        have lD : D < wr.heap.size := (Array.getElem?_eq_some_iff.1 hK1).1
        by_cases hq : q < s.sl.length
        · have d1 : (q : Int) < (s.sl.length : Int) := by omega
          obtain ⟨bU, oU, eU, hU⟩ := HU.out q q1 hq
          have c5 := cell_later hB1 hU
          subst eU
          have hK2 : ∀ u, (wr.setCell ⟨wc.heap.size, 0, none⟩ u).heap[D]? = some (.deferred (some [])) := fun u => (Below.heap_setCell _ _ _ _ (by simp; omega)).trans hK1
          have hbl : ∀ u, Below wc.heap.size wc (wr.setCell ⟨wc.heap.size, 0, none⟩ u) := fun u => hB1.setCell (p := ⟨wc.heap.size, 0, none⟩) (Nat.le_refl _) u
          have hcl : ∀ u, (wr.setCell ⟨wc.heap.size, 0, none⟩ u).cell? ⟨wc.heap.size, 0, none⟩ = some u := fun u => World.cell?_setCell_same' _ _ _ (by rw [c1]; rfl)
          have hfl : ∀ u, (wr.setCell ⟨wc.heap.size, 0, none⟩ u).frozen? ⟨wc.heap.size, 0, none⟩ = false := fun u => by rw [World.frozen?_setCell]; exact f1
          have hup := upCell_of (n := s.sl.length) c1
          have HK2 := Lib.hid hK2; have HBL := Lib.hid hbl; have HCL := Lib.hid hcl; have HFL := Lib.hid hfl; have HUP := Lib.hid hup
          clear hU hK2 hbl hcl hfl hB1 hK1 hup
          go_wp2_with fail
          go_roundw
          case rel => exact ⟨q + 1, by omega, by omega, ⟨(HCL.out _).trans (by simp), HFL.out _⟩, HBL.out _, HK2.out _⟩
          case measure => rw [upCell_of (HCL.out _), HUP.out]; simp; omega
        · have d1 : ¬ (q : Int) < (s.sl.length : Int) := by omega
          have HB1 := Lib.hid hB1; have HK1 := Lib.hid hK1
          have e9 := hB1.size
          clear hB1 hK1 hc hf
          go_wp2_with (first
            | (go_at_call 17; refine (arI.alloc_nil _ _).mono ?_; rintro e w4 ⟨rfl, n4, rfl⟩)
            | (go_at_call 13; refine (arI.get_nil _ _).mono ?_; rintro e w4 ⟨rfl, rfl⟩)
            | (go_at_call 21; refine (arI.all_nil _).mono ?_; rintro e w4 ⟨rfl, rfl⟩))
          have bS2 : ((wr.drewN n4).alloc (.cells #[.pointer none] 24)).cell? ⟨wr.heap.size, 0, none⟩ = some (.pointer none) := cells_new (wr.drewN n4) [_] _ 0
          have hB2 : Below wr.heap.size wr ((wr.drewN n4).alloc (.cells #[.pointer none] 24)) := (below_drewN (Below.refl _ wr) n4).alloc (Nat.le_refl _) _
          go_wp2_with fail
          refine (wpIn_wide (n := 3)).1 ?_
          refine range_idx rfl (by decide) (gf := 48) (lb := #[.pointer (some ⟨wr.heap.size, 0, none⟩)]) rfl trivial (enters_of Try.func48 (by kernel_rfl) rfl)
            (arI.all_nil_idx _ wr.heap.size (arI.allArgs s) (fun _ _ => True) _ bS2) (fun h h' => trivial) (fun _ _ _ _ _ _ _ _ => trivial) (fun _ => rfl)
            (fun _ W2 => Below wr.heap.size wr W2) (fun _ _ _ => False) (ownFrom_below (Nat.le_refl _) (by simp)) (fun _ _ _ _ _ hs _ _ => hs)
            hB2 (fun _ => ⟨#[], []⟩) ?assign2 ?body2 ?done2 ?stop2
          case stop2 =>
            rintro D2 c k W2 _ _ h _
            exact h.elim
          case assign2 =>
            intro l k W2 K hk
            exact absurd hk (Nat.not_lt_zero _)
          case body2 =>
            intro l k W2 hk
            exact absurd hk (Nat.not_lt_zero _)
          case done2 =>
            rintro D2 W2 hD2 hB3 hK3
            have hfw := ((HFR.out.later HB1.out).later hB3)
            have r1 := hfw.cell 0; have r2 := hfw.frozen 0; have r3 := hfw.lt
            simp only [List.getElem?_cons_zero] at r1
            have HB3 := Lib.hid hB3; have HK3 := Lib.hid hK3; have HFW := Lib.hid hfw
            clear hB3 hK3 hfw
            go_wp2_with (first
              | (go_at_call 12; refine (arI.free_nil _ _).mono ?_; rintro e w4 ⟨rfl, rfl⟩)
              | (go_at_call 16; refine (arI.set_nil _ _ _).mono ?_; rintro e w4 ⟨rfl, rfl⟩)
              | (go_at_call 19; refine (arI.live_nil _).mono ?_; rintro e w4 ⟨rfl, rfl⟩))
            have lW2 : wr.heap.size ≤ W2.heap.size := HB3.out.size
            have hD3 : D ≠ D2 := by simp at hD2; omega
            have hD4 : w.heap.size ≠ D2 := by simp at hD2; omega
            have hD5 : w.heap.size ≠ D := by omega
            have f0 : Flds (W2.setCell ⟨w.heap.size, 0, none⟩ (.bool true)) w.heap.size 4 [.bool true] := HFW.out.set 0 (.bool true)
            have k0 : (W2.setCell ⟨w.heap.size, 0, none⟩ (.bool true)).heap[D2]? = some (.deferred (some [])) := (Below.heap_setCell _ _ _ _ (by simp; omega)).trans HK3.out
            have k1 : (W2.setCell ⟨w.heap.size, 0, none⟩ (.bool true)).heap[D]? = some (.deferred (some [])) := (Below.heap_setCell _ _ _ _ (by simp; omega)).trans ((HB3.out.block D lD).trans HK1.out)
            have b0 : Below w.heap.size w (W2.setCell ⟨w.heap.size, 0, none⟩ (.bool true)) := ((HBE.out.trans (HB1.out.mono HBE.out.size)).trans (HB3.out.mono (by have := HBE.out.size; omega))).setCell (Nat.le_refl _) _
            generalize W2.setCell ⟨w.heap.size, 0, none⟩ (.bool true) = W3 at *
            have k2 : (W3.putObj D2 (.deferred none)).heap[D]? = some (.deferred (some [])) := (World.putObj_heap_other hD3).trans k1
            have f2 : Flds ((W3.putObj D2 (.deferred none)).putObj D (.deferred none)) w.heap.size 4 [.bool true] := ((World.putObj_heap_other hD5).trans ((World.putObj_heap_other hD4).trans f0))
            have hcc := f2.cell 0
            simp only [List.getElem?_cons_zero] at hcc
            refine ⟨by simp, .inl ⟨_, _, rfl, run_takeDeferred k0, ?_⟩⟩
            refine ⟨by simp, .inl ⟨_, _, rfl, run_takeDeferred k2, ?_⟩⟩
            refine ⟨.bool true, by simp [results, Try.f3, go_sem, hcc], rfl, ?_⟩
            have z1 := HBE.out.size
            refine Below.trans ?_ (belowK_b (w := w) (Nat.le_refl _) _ D _ _ (by omega) k2 rfl rfl)
            refine Below.trans ?_ (belowK_b (w := w) (Nat.le_refl _) _ D2 _ _ (by simp at hD2; omega) k0 rfl rfl)
            exact b0

end Go.Proofs.Ytbaepjjanjhliaa
