/- The law ArenaApart, walked. -/
import Derived.Test.YtbaepjjanjhliaaArenaL
import Derived.Test.YtbaepjjanjhliaaArenaAll
import Derived.Sort.CutIn
namespace Go.Proofs.Ytbaepjjanjhliaa
set_option linter.unusedVariables false
open Go.RowKit Go.Shelf
attribute [local go_sem] Oper.semAt_some

/-- an act: its kind, a place, a thing -/
structure ActV where
  what : Int
  i : Int
  x : Int
def ActV.enc (a : ActV) : List Value := [.int .i64 a.what, .int .i64 a.i, .int .i64 a.x]
def actCells (l : List ActV) : List Value := l.flatMap ActV.enc
theorem actCells_at : ∀ (l : List ActV) (i : Nat) (a : ActV), l[i]? = some a → (actCells l)[i * 3]? = some (.int .i64 a.what) ∧ (actCells l)[i * 3 + 1]? = some (.int .i64 a.i) ∧ (actCells l)[i * 3 + 2]? = some (.int .i64 a.x)
  | [], i, a, h => by simp at h
  | b :: l, 0, a, h => by simp at h; subst h; exact ⟨rfl, rfl, rfl⟩
  | b :: l, i + 1, a, h => by
    have ih := actCells_at l i a (by simpa using h)
    have e : actCells (b :: l) = b.enc ++ actCells l := by simp [actCells]
    have el : b.enc.length = 3 := rfl
    rw [e, List.getElem?_append_right (by omega), List.getElem?_append_right (by omega), List.getElem?_append_right (by omega), el, show (i + 1) * 3 - 3 = i * 3 by omega, show (i + 1) * 3 + 1 - 3 = i * 3 + 1 by omega, show (i + 1) * 3 + 2 - 3 = i * 3 + 2 by omega]
    exact ih

/-- place 0 holds 7 -/
def Has7 (s : Ar Int) : Prop := s.sl[0]? = some (true, 7)
theorem Has7.put {s : Ar Int} (h : Has7 s) {i : Int} (x : Int) (hi : s.has i = true) (h0 : i ≠ 0) : Has7 (s.put i x) := by
  have := (Ar.has_iff.1 hi).1
  unfold Has7 Ar.put
  rw [List.getElem?_set_ne (by omega)]; exact h
theorem Has7.free {s : Ar Int} (h : Has7 s) {i : Int} (hi : s.has i = true) (h0 : i ≠ 0) : Has7 (s.free 0 i) := by
  have := (Ar.has_iff.1 hi).1
  unfold Has7 Ar.free
  rw [List.getElem?_set_ne (by omega)]; exact h
theorem Has7.put' {s : Ar Int} (h : Has7 s) {i : Int} (x : Int) (h0 : i ≠ 0) : Has7 (if s.has i = true then s.put i x else s) := by
  split
  · exact h.put x (by assumption) h0
  · exact h
theorem Has7.free' {s : Ar Int} (h : Has7 s) {i : Int} (h0 : i ≠ 0) : Has7 (if s.has i = true then s.free 0 i else s) := by
  split
  · exact h.free (by assumption) h0
  · exact h
theorem Has7.alloc {s : Ar Int} (h : Has7 s) (hok : s.Ok) (x : Int) : Has7 (s.alloc x).1 ∧ ((s.alloc x).2.2 = true → (s.alloc x).2.1 ≠ 0) ∧ 0 ≤ (s.alloc x).2.1 := by
  unfold Ar.alloc
  split
  · exact ⟨h, fun h => (by cases h), Int.le_refl _⟩
  · cases hg : s.fr.getLast? with
    | none =>
      have hl := (List.getElem?_eq_some_iff.1 h).1
      refine ⟨?_, fun _ => (by show (s.sl.length : Int) ≠ 0; omega), by simp⟩
      unfold Has7
      rw [List.getElem?_append_left hl]; exact h
    | some i =>
      have hne : i ≠ 0 := by
        rintro rfl
        have := hok.unused 0 (List.mem_of_getLast? hg)
        rw [show s.sl[0]? = some (true, 7) from h] at this
        cases this
      refine ⟨?_, fun _ => by simp; exact hne, by simp⟩
      unfold Has7
      rw [List.getElem?_set_ne hne]; exact h
theorem Has7.has {s : Ar Int} (h : Has7 s) : s.has 0 = true := Ar.has_iff.2 ⟨Int.le_refl _, (List.getElem?_eq_some_iff.1 h).1, 7, h⟩
theorem Has7.get {s : Ar Int} (h : Has7 s) : arI.getAt s 0 = 7 := by unfold arI.getAt; rw [if_pos h.has, show s.sl[(0 : Int).toNat]? = some (true, 7) from h]; rfl
theorem Has7.first {s : Ar Int} (h : Has7 s) : ∃ r, arI.usF 0 s.sl = (0, 7) :: r := by
  obtain ⟨p, l, e⟩ : ∃ p l, s.sl = p :: l := by
    cases hs : s.sl with
    | nil => rw [Has7, hs] at h; simp at h
    | cons p l => exact ⟨p, l, rfl⟩
  rw [Has7, e] at h
  simp at h
  subst h
  exact ⟨arI.usF 1 l, by rw [e]; simp [arI.usF]⟩
theorem live_us {s : Ar Int} (h : s.Ok) : s.live = ((arI.usF 0 s.sl).length : Int) := by
  rw [arI.usF_length]
  have := h.count
  unfold Ar.live; omega

set_option maxRecDepth 100000 in
set_option maxHeartbeats 4000000 in
theorem apart_in (acts : List ActV) (v : Value) (w : World) (hrow : Row w v 3 acts.length (actCells acts)) (hmax : acts.length ≤ 9223372036854775807) :
    CallsIn Fence.wide 3 Try.prog 4 #[v] w fun e w' => e = .returned (.bool true) ∧ Below w.heap.size w w' := by
  have e1 : ({ room := min (max 100 0) 1048576, sl := [], fr := [] } : Ar Int).alloc 7 = ({ room := 100, sl := [(true, 7)], fr := [] }, 0, true) := rfl
  have E1 := Lib.hid e1
  have HR := Lib.hid hrow
  obtain ⟨a, cap, rfl, -⟩ := hrow
  clear e1
  refine callsIn_of_wp_marks Try.func4 rfl trivial ?_ rfl
  simp only [Try.ntmps4, List.size_toArray, List.length_cons, List.length_nil, Nat.reduceAdd, Nat.reduceSub, Array.replicate_succ, Array.replicate_zero, List.push_toArray, List.append_toArray, List.nil_append, List.cons_append]
  gi_wp2_with (first
    | (refine ⟨trivial, ?_⟩; gi_at_call 9; refine (callsIn_wide.2 (arena_speaks _)).mono ?_; rintro e w1 ⟨rfl, hb1⟩)
    | (refine ⟨trivial, ?_⟩; gi_at_call 10; refine (callsIn_wide.2 (arI.Held.made hb1 100)).mono ?_; rintro e w2 ⟨rfl, h2, -⟩)
    | (refine ⟨trivial, ?_⟩; gi_at_call 17; with_reducible refine (callsIn_wide.2 (h2.alloc E1.out)).mono ?_; rintro e w3 ⟨rfl, h3⟩))
  have h37 : Has7 { room := 100, sl := [(true, 7)], fr := [] } := rfl
  generalize w1.heap.size = b at *
  have hlo : (0 : Int) ≤ (acts.length : Int) := by omega
  have hhi : (acts.length : Int) ≤ 9223372036854775807 := by omega
  gi_loopw [6] (fun i wr => ∃ j : Nat, ∃ s, i = .int .i64 (j : Int) ∧ j ≤ 50 ∧ j ≤ acts.length ∧ arI.Held w b s wr ∧ Has7 s) (fun i _ => match i with | .int _ j => 50 - j.toNat | _ => 0)
  case atStart => exact ⟨0, _, rfl, by omega, by omega, h3, h37⟩
  case round =>
    obtain ⟨j, s, rfl, hj, hjn, hs, h7⟩ := hrel
    have hd0 : (0 : Int) ≤ (j : Int) := by omega
    by_cases c1 : j < acts.length
    · by_cases c2 : j < 50
      · have hrw := HR.out.later hs.below
        obtain ⟨ba, off, cap', ea, hcell⟩ := hrw.pos (by omega)
        simp only [Value.slice.injEq] at ea
        obtain ⟨rfl, -, rfl⟩ := ea
        have hact := List.getElem?_eq_getElem c1
        obtain ⟨ca, cb, cc⟩ := actCells_at acts j _ hact
        have ga := (hcell (j * 3) (by omega)).trans ca
        have gb := (hcell (j * 3 + 1) (by omega)).trans cb
        have gc := (hcell (j * 3 + 2) (by omega)).trans cc
        generalize acts[j] = A at *
        obtain ⟨x0, x1, x2⟩ := A
        dsimp only at ga gb gc
        rw [← Nat.add_assoc] at gb gc
        have d1 : (j : Int) < (acts.length : Int) := by omega
        have d2 : (j : Int) < 50 := by omega
        obtain ⟨s', i', ok, ea⟩ : ∃ s' i' ok, s.alloc x2 = (s', i', ok) := ⟨_, _, _, rfl⟩
        have hA := h7.alloc hs.ok x2
        rw [ea] at hA
        dsimp only at hA
        have hla : ∀ o, arI.Held w b s (wr.alloc o) := fun o => hs.later ((Below.refl _ _).alloc (Nat.le_refl _) o)
        obtain ⟨m, hm⟩ : ∃ m, bits BinOp.and IntKind.i64 x1 127 = m := ⟨_, rfl⟩
        have HS := Lib.hid hs; have H7 := Lib.hid h7; have HA := Lib.hid hA; have HL := Lib.hid hla; have EA := Lib.hid ea
        clear hA hla ea
        clear hcell ca cb cc hact hrw hs h7 h3 h37 h2
        by_cases hm0 : m = 0
        · have hm1 : (m == 0) = true := by simp [hm0]
          gi_wp2
          go_roundw
          case rel => exact ⟨j + 1, s, rfl, by omega, by omega, HL.out _, H7.out⟩
          case measure => simp; omega
        · have hm1 : (m == 0) = false := by simp [hm0]
          cases ok
          · gi_wp2_with (first
              | (refine ⟨trivial, ?_⟩; gi_at_call 17; with_reducible refine (callsIn_wide.2 ((HL.out _).alloc EA.out)).mono ?_; rintro e w5 ⟨rfl, h5⟩)
              | (refine ⟨trivial, ?_⟩; gi_at_call 12; with_reducible refine (callsIn_wide.2 ((HL.out _).free _)).mono ?_; rintro e w5 ⟨rfl, h5⟩)
              | (refine ⟨trivial, ?_⟩; gi_at_call 16; with_reducible refine (callsIn_wide.2 ((HL.out _).set _ _)).mono ?_; rintro e w5 ⟨rfl, h5⟩))
            · go_roundw
              case rel => exact ⟨j + 1, s', rfl, by omega, by omega, h5, HA.out.1⟩
              case measure => simp; omega
            · go_roundw
              case rel => exact ⟨j + 1, _, rfl, by omega, by omega, h5, H7.out.free' hm0⟩
              case measure => simp; omega
            · go_roundw
              case rel => exact ⟨j + 1, _, rfl, by omega, by omega, h5, H7.out.put' x2 hm0⟩
              case measure => simp; omega
          · have hi0 : (i' == 0) = false := by simpa using HA.out.2.1 rfl
            gi_wp2_with (first
              | (refine ⟨trivial, ?_⟩; gi_at_call 17; with_reducible refine (callsIn_wide.2 ((HL.out _).alloc EA.out)).mono ?_; rintro e w5 ⟨rfl, h5⟩)
              | (refine ⟨trivial, ?_⟩; gi_at_call 12; with_reducible refine (callsIn_wide.2 ((HL.out _).free _)).mono ?_; rintro e w5 ⟨rfl, h5⟩)
              | (refine ⟨trivial, ?_⟩; gi_at_call 16; with_reducible refine (callsIn_wide.2 ((HL.out _).set _ _)).mono ?_; rintro e w5 ⟨rfl, h5⟩))
            · go_roundw
              case rel => exact ⟨j + 1, s', rfl, by omega, by omega, h5, HA.out.1⟩
              case measure => simp; omega
            · go_roundw
              case rel => exact ⟨j + 1, _, rfl, by omega, by omega, h5, H7.out.free' hm0⟩
              case measure => simp; omega
            · go_roundw
              case rel => exact ⟨j + 1, _, rfl, by omega, by omega, h5, H7.out.put' x2 hm0⟩
              case measure => simp; omega
      · have d1 : (j : Int) < (acts.length : Int) := by omega
        have d2 : ¬ (j : Int) < 50 := by omega
        have HS := Lib.hid hs; have H7 := Lib.hid h7
        clear hs h7 h3 h37 h2
        gi_wp2_with (fail)
        obtain ⟨own, hI, hown, hbel⟩ := HS.out
        have bN := Boxed.new wr 3 (.int .i64 0)
        refine ⟨trivial, ?_⟩
        refine (arI.all_in _ b _).mono ?_
        rintro e w6 ⟨rfl, rfl⟩
        gi_wp2
        have bS : ((wr.alloc (.cells #[.int .i64 0] 3)).alloc (.cells #[.pointer (some ⟨b, 0, none⟩)] 24)).cell? ⟨(wr.alloc (.cells #[.int .i64 0] 3)).heap.size, 0, none⟩ = some (.pointer (some ⟨b, 0, none⟩)) := cells_new _ [_] _ 0
        have hB0 : Below wr.heap.size wr ((wr.alloc (.cells #[.int .i64 0] 3)).alloc (.cells #[.pointer (some ⟨b, 0, none⟩)] 24)) := ((Below.refl _ _).alloc (Nat.le_refl _) _).alloc (by simp) _
        have hIX := hI.later hB0
        rw [World.size_alloc] at bS
        obtain ⟨r, hr⟩ := H7.out.first
        have hoc : ∀ u, OwnFrom ((wr.alloc (.cells #[.int .i64 0] 3)).alloc (.cells #[.pointer (some ⟨b, 0, none⟩)] 24)).heap.size (fun (k : Nat) W => (W.cell? ⟨wr.heap.size, 0, none⟩ = some u ∧ W.frozen? ⟨wr.heap.size, 0, none⟩ = false) ∧ Below wr.heap.size wr W) := fun u =>
          OwnFrom.and (Own.from (fun s A B row hs hg hr => ⟨cell_kept hs.1 hg hr, (frozen_kept hs.1 hg hr).trans hs.2⟩) _) (ownFrom_below (Nat.le_refl _) (by simp; omega))
        refine range_idx rfl (by decide) (gf := 48) (lb := #[.pointer (some ⟨wr.heap.size + 1, 0, none⟩)]) rfl trivial (enters_of Try.func48 (by kernel_rfl) rfl)
          (arI.all_idx _ (by decide) (wr.heap.size + 1) own b s _ bS hIX) (fun h h' => h.trans h') (fun W l o o' hl _ _ _ g hg => World.putObj_heap_other (by have := hI.lt g hg; simp at hl; omega)) (fun _ => rfl)
          (fun k W => k = 0 ∧ (W.cell? ⟨wr.heap.size, 0, none⟩ = some (.int .i64 0) ∧ W.frozen? ⟨wr.heap.size, 0, none⟩ = false) ∧ Below wr.heap.size wr W)
          (fun c k W => c = .exit 3 ∧ (W.cell? ⟨wr.heap.size, 0, none⟩ = some (.int .i64 1) ∧ W.frozen? ⟨wr.heap.size, 0, none⟩ = false) ∧ Below wr.heap.size wr W)
          ?zo1 ?zo2
          ⟨rfl, ⟨(bN.alloc _).cell, (bN.alloc _).frozen⟩, hB0⟩ ?za1 ?zassign ?zbody ?zdone ?zstop
        case zo1 => exact fun s A B row hs hg hr => ⟨hs.1, hoc _ s A B row hs.2 hg hr⟩
        case zo2 => exact fun c s A B row hs hg hr => ⟨hs.1, hoc _ s A B row hs.2 hg hr⟩
        case zassign =>
          intro l k W K hk hI hK
          clear hk hI
          unfold arI.allArgs
          gi_wp2
          exact hK
        case zbody =>
          rintro l k W hk ⟨rfl, ⟨hc, hf⟩, hB⟩
          gi_wp2
          exact ⟨(KeepsOthers.setCell _ _ _).from _, rfl, ⟨World.cell?_setCell_same' _ _ _ (by rw [hc]; rfl), by rw [World.frozen?_setCell]; exact hf⟩, hB.setCell (p := ⟨wr.heap.size, 0, none⟩) (Nat.le_refl _) _⟩
        case zdone =>
          rintro D W hD ⟨h0, -⟩ hK
          rw [hr] at h0
          simp at h0
        case zstop =>
          rintro D c k W hD hk ⟨rfl, ⟨hc, hf⟩, hB⟩ hK
          gi_wp2
          have hsW : arI.Held w b s W := ⟨own, hI.later hB, hown, hbel.trans (hB.mono hbel.size)⟩
          have hIW := hI.later hB
          have hN : ((arI.usF 0 s.sl).length : Int) ≤ 1048576 := by
            have h1 := hsW.ok.many
            have h2 := arI.usF_length 0 s.sl
            have h3 := List.length_filter_le (fun p : Bool × Int => p.1) s.sl
            omega
          have bM := Boxed.new W 3 (.int .i64 0)
          refine ⟨trivial, ?_⟩
          refine (arI.all_in _ b _).mono ?_
          rintro e w7 ⟨rfl, rfl⟩
          gi_wp2
          have bS2 : ((W.alloc (.cells #[.int .i64 0] 3)).alloc (.cells #[.pointer (some ⟨b, 0, none⟩)] 24)).cell? ⟨(W.alloc (.cells #[.int .i64 0] 3)).heap.size, 0, none⟩ = some (.pointer (some ⟨b, 0, none⟩)) := cells_new _ [_] _ 0
          have hB2 : Below W.heap.size W ((W.alloc (.cells #[.int .i64 0] 3)).alloc (.cells #[.pointer (some ⟨b, 0, none⟩)] 24)) := ((Below.refl _ _).alloc (Nat.le_refl _) _).alloc (by simp) _
          have hIX2 := hIW.later hB2
          rw [World.size_alloc] at bS2
          refine range_idx rfl (by decide) (gf := 48) (lb := #[.pointer (some ⟨W.heap.size + 1, 0, none⟩)]) rfl trivial (enters_of Try.func48 (by kernel_rfl) rfl)
            (arI.all_idx _ (by decide) (W.heap.size + 1) own b s _ bS2 hIX2) (fun h h' => h.trans h') (fun W' l o o' hl _ _ _ g hg => World.putObj_heap_other (by have := hIW.lt g hg; simp at hl; omega)) (fun _ => rfl)
            (fun k W2 => (W2.cell? ⟨W.heap.size, 0, none⟩ = some (.int .i64 (k : Int)) ∧ W2.frozen? ⟨W.heap.size, 0, none⟩ = false) ∧ Below W.heap.size W W2)
            (fun _ _ _ => False)
            (OwnFrom.and (Own.from (fun s A B row hs hg hr => ⟨cell_kept hs.1 hg hr, (frozen_kept hs.1 hg hr).trans hs.2⟩) _) (ownFrom_below (Nat.le_refl _) (by simp; omega)))
            (fun _ _ _ _ _ hs _ _ => hs)
            ⟨⟨(bM.alloc _).cell, (bM.alloc _).frozen⟩, hB2⟩ ?zb1 ?zassign2 ?zbody2 ?zdone2 ?zstop2
          case zassign2 =>
            intro l k W2 K hk hI2 hK2
            clear hk hI2
            unfold arI.allArgs
            gi_wp2
            exact hK2
          case zbody2 =>
            rintro l k W2 hk2 ⟨⟨hc2, hf2⟩, hBB⟩
            have hk3 : (k : Int) < 1048576 := by omega
            have hk4 : (0 : Int) ≤ (k : Int) := by omega
            gi_wp2
            refine ⟨(KeepsOthers.setCell _ _ _).from _, fun g hg => Below.heap_setCell _ _ _ _ (fun e => by have := hIW.lt g hg; simp at e; omega), ⟨?_, ?_⟩, hBB.setCell (p := ⟨W.heap.size, 0, none⟩) (Nat.le_refl _) _⟩
            · exact World.cell?_setCell_same' _ _ _ (by rw [hc2]; rfl)
            · rw [World.frozen?_setCell]; exact hf2
          case zdone2 =>
            rintro D2 W2 hD2 ⟨⟨hc2, hf2⟩, hBB⟩ hK2
            have hs2 := hsW.later hBB
            have hG := hs2.get 0
            rw [H7.out.get, H7.out.has] at hG
            have HG := Lib.hid hG
            have hcc := cell_later hBB hc
            clear hG
            gi_wp2_with (refine ⟨trivial, ?_⟩; gi_at_call 13; refine (callsIn_wide.2 HG.out).mono ?_; rintro e w8 ⟨rfl, rfl⟩)
            have hLV : ∀ n, Calls Try.prog 19 #[.pointer (some ⟨b, 0, none⟩)] (W2.drewN n) fun e w' => e = .returned (.int .i64 ((arI.usF 0 s.sl).length : Int)) ∧ ∃ m, w' = (W2.drewN n).drewN m := fun n => by
              have := (hs2.later (below_drewN (Below.refl _ W2) n)).live
              rw [live_us hs2.ok] at this
              exact this
            have HLV := Lib.hid hLV
            clear hLV
            refine wpIn_region_quiet_lit rfl (by kernel_rfl) (by kernel_rfl) ?_
            repeat (
              refine wpQuietIn_step (by first | quiet_asked_in | (go_simp; exact trivial)) (fun K hK => ?_)
              go_simp
              first
                | (refine hK _ ?_; clear hK K)
                | (apply Exists.intro; refine ⟨fun _ => ?_, hK _ ?_⟩; (gi_at_call 19; exact CallsIn.quiet_of (callsIn_wide.2 (HLV.out _))); clear hK K))
            refine wpQuietIn_nil ?_
            rintro _ ⟨nq, rfl⟩
            gi_wp2
            have hDlt : D < W.heap.size := (Array.getElem?_eq_some_iff.1 hK).1
            have hK3 : (W2.drewN nq).heap[D2]? = some (.deferred (some [])) := hK2
            refine ⟨by simp, .inl ⟨_, _, rfl, run_takeDeferred hK3, ?_⟩⟩
            have hD3 : D ≠ D2 := by simp at hD2; omega
            have hK4 : ((W2.drewN nq).putObj D2 (.deferred none)).heap[D]? = some (.deferred (some [])) := (World.putObj_heap_other hD3).trans ((hBB.block D hDlt).trans hK)
            refine ⟨by simp, .inl ⟨_, _, rfl, run_takeDeferred hK4, ?_⟩⟩
            refine ⟨.bool true, by simp [results, Try.f4, go_sem], rfl, ?_⟩
            have z1 := hbel.size
            have z2 := hB.size
            refine Below.trans ?_ (belowK_b (w := w) (Nat.le_refl _) _ D _ _ (by simp at hD; omega) hK4 rfl rfl)
            refine Below.trans ?_ (belowK_b (w := w) (Nat.le_refl _) _ D2 _ _ (by simp at hD2; omega) hK3 rfl rfl)
            exact below_drewN ((hbel.trans (hB.mono z1)).trans (hBB.mono (by omega))) nq
          case zstop2 =>
            rintro D c k W _ _ h _
            exact h.elim
    · have d1 : ¬ (j : Int) < (acts.length : Int) := by omega
      have HS := Lib.hid hs; have H7 := Lib.hid h7
      clear hs h7 h3 h37 h2
      gi_wp2_with (fail)
      obtain ⟨own, hI, hown, hbel⟩ := HS.out
      have bN := Boxed.new wr 3 (.int .i64 0)
      refine ⟨trivial, ?_⟩
      refine (arI.all_in _ b _).mono ?_
      rintro e w6 ⟨rfl, rfl⟩
      gi_wp2
      have bS : ((wr.alloc (.cells #[.int .i64 0] 3)).alloc (.cells #[.pointer (some ⟨b, 0, none⟩)] 24)).cell? ⟨(wr.alloc (.cells #[.int .i64 0] 3)).heap.size, 0, none⟩ = some (.pointer (some ⟨b, 0, none⟩)) := cells_new _ [_] _ 0
      have hB0 : Below wr.heap.size wr ((wr.alloc (.cells #[.int .i64 0] 3)).alloc (.cells #[.pointer (some ⟨b, 0, none⟩)] 24)) := ((Below.refl _ _).alloc (Nat.le_refl _) _).alloc (by simp) _
      have hIX := hI.later hB0
      rw [World.size_alloc] at bS
      obtain ⟨r, hr⟩ := H7.out.first
      have hoc : ∀ u, OwnFrom ((wr.alloc (.cells #[.int .i64 0] 3)).alloc (.cells #[.pointer (some ⟨b, 0, none⟩)] 24)).heap.size (fun (k : Nat) W => (W.cell? ⟨wr.heap.size, 0, none⟩ = some u ∧ W.frozen? ⟨wr.heap.size, 0, none⟩ = false) ∧ Below wr.heap.size wr W) := fun u =>
        OwnFrom.and (Own.from (fun s A B row hs hg hr => ⟨cell_kept hs.1 hg hr, (frozen_kept hs.1 hg hr).trans hs.2⟩) _) (ownFrom_below (Nat.le_refl _) (by simp; omega))
      refine range_idx rfl (by decide) (gf := 48) (lb := #[.pointer (some ⟨wr.heap.size + 1, 0, none⟩)]) rfl trivial (enters_of Try.func48 (by kernel_rfl) rfl)
        (arI.all_idx _ (by decide) (wr.heap.size + 1) own b s _ bS hIX) (fun h h' => h.trans h') (fun W l o o' hl _ _ _ g hg => World.putObj_heap_other (by have := hI.lt g hg; simp at hl; omega)) (fun _ => rfl)
        (fun k W => k = 0 ∧ (W.cell? ⟨wr.heap.size, 0, none⟩ = some (.int .i64 0) ∧ W.frozen? ⟨wr.heap.size, 0, none⟩ = false) ∧ Below wr.heap.size wr W)
        (fun c k W => c = .exit 3 ∧ (W.cell? ⟨wr.heap.size, 0, none⟩ = some (.int .i64 1) ∧ W.frozen? ⟨wr.heap.size, 0, none⟩ = false) ∧ Below wr.heap.size wr W)
        ?o1 ?o2
        ⟨rfl, ⟨(bN.alloc _).cell, (bN.alloc _).frozen⟩, hB0⟩ ?a1 ?assign ?body ?done ?stop
      case o1 => exact fun s A B row hs hg hr => ⟨hs.1, hoc _ s A B row hs.2 hg hr⟩
      case o2 => exact fun c s A B row hs hg hr => ⟨hs.1, hoc _ s A B row hs.2 hg hr⟩
      case assign =>
        intro l k W K hk hI hK
        clear hk hI
        unfold arI.allArgs
        gi_wp2
        exact hK
      case body =>
        rintro l k W hk ⟨rfl, ⟨hc, hf⟩, hB⟩
        gi_wp2
        exact ⟨(KeepsOthers.setCell _ _ _).from _, rfl, ⟨World.cell?_setCell_same' _ _ _ (by rw [hc]; rfl), by rw [World.frozen?_setCell]; exact hf⟩, hB.setCell (p := ⟨wr.heap.size, 0, none⟩) (Nat.le_refl _) _⟩
      case done =>
        rintro D W hD ⟨h0, -⟩ hK
        rw [hr] at h0
        simp at h0
      case stop =>
        rintro D c k W hD hk ⟨rfl, ⟨hc, hf⟩, hB⟩ hK
        gi_wp2
        have hsW : arI.Held w b s W := ⟨own, hI.later hB, hown, hbel.trans (hB.mono hbel.size)⟩
        have hIW := hI.later hB
        have hN : ((arI.usF 0 s.sl).length : Int) ≤ 1048576 := by
          have h1 := hsW.ok.many
          have h2 := arI.usF_length 0 s.sl
          have h3 := List.length_filter_le (fun p : Bool × Int => p.1) s.sl
          omega
        have bM := Boxed.new W 3 (.int .i64 0)
        refine ⟨trivial, ?_⟩
        refine (arI.all_in _ b _).mono ?_
        rintro e w7 ⟨rfl, rfl⟩
        gi_wp2
        have bS2 : ((W.alloc (.cells #[.int .i64 0] 3)).alloc (.cells #[.pointer (some ⟨b, 0, none⟩)] 24)).cell? ⟨(W.alloc (.cells #[.int .i64 0] 3)).heap.size, 0, none⟩ = some (.pointer (some ⟨b, 0, none⟩)) := cells_new _ [_] _ 0
        have hB2 : Below W.heap.size W ((W.alloc (.cells #[.int .i64 0] 3)).alloc (.cells #[.pointer (some ⟨b, 0, none⟩)] 24)) := ((Below.refl _ _).alloc (Nat.le_refl _) _).alloc (by simp) _
        have hIX2 := hIW.later hB2
        rw [World.size_alloc] at bS2
        refine range_idx rfl (by decide) (gf := 48) (lb := #[.pointer (some ⟨W.heap.size + 1, 0, none⟩)]) rfl trivial (enters_of Try.func48 (by kernel_rfl) rfl)
          (arI.all_idx _ (by decide) (W.heap.size + 1) own b s _ bS2 hIX2) (fun h h' => h.trans h') (fun W' l o o' hl _ _ _ g hg => World.putObj_heap_other (by have := hIW.lt g hg; simp at hl; omega)) (fun _ => rfl)
          (fun k W2 => (W2.cell? ⟨W.heap.size, 0, none⟩ = some (.int .i64 (k : Int)) ∧ W2.frozen? ⟨W.heap.size, 0, none⟩ = false) ∧ Below W.heap.size W W2)
          (fun _ _ _ => False)
          (OwnFrom.and (Own.from (fun s A B row hs hg hr => ⟨cell_kept hs.1 hg hr, (frozen_kept hs.1 hg hr).trans hs.2⟩) _) (ownFrom_below (Nat.le_refl _) (by simp; omega)))
          (fun _ _ _ _ _ hs _ _ => hs)
          ⟨⟨(bM.alloc _).cell, (bM.alloc _).frozen⟩, hB2⟩ ?b1 ?assign2 ?body2 ?done2 ?stop2
        case assign2 =>
          intro l k W2 K hk hI2 hK2
          clear hk hI2
          unfold arI.allArgs
          gi_wp2
          exact hK2
        case body2 =>
          rintro l k W2 hk2 ⟨⟨hc2, hf2⟩, hBB⟩
          have hk3 : (k : Int) < 1048576 := by omega
          have hk4 : (0 : Int) ≤ (k : Int) := by omega
          gi_wp2
          refine ⟨(KeepsOthers.setCell _ _ _).from _, fun g hg => Below.heap_setCell _ _ _ _ (fun e => by have := hIW.lt g hg; simp at e; omega), ⟨?_, ?_⟩, hBB.setCell (p := ⟨W.heap.size, 0, none⟩) (Nat.le_refl _) _⟩
          · exact World.cell?_setCell_same' _ _ _ (by rw [hc2]; rfl)
          · rw [World.frozen?_setCell]; exact hf2
        case done2 =>
          rintro D2 W2 hD2 ⟨⟨hc2, hf2⟩, hBB⟩ hK2
          have hs2 := hsW.later hBB
          have hG := hs2.get 0
          rw [H7.out.get, H7.out.has] at hG
          have HG := Lib.hid hG
          have hcc := cell_later hBB hc
          clear hG
          gi_wp2_with (refine ⟨trivial, ?_⟩; gi_at_call 13; refine (callsIn_wide.2 HG.out).mono ?_; rintro e w8 ⟨rfl, rfl⟩)
          have hLV : ∀ n, Calls Try.prog 19 #[.pointer (some ⟨b, 0, none⟩)] (W2.drewN n) fun e w' => e = .returned (.int .i64 ((arI.usF 0 s.sl).length : Int)) ∧ ∃ m, w' = (W2.drewN n).drewN m := fun n => by
            have := (hs2.later (below_drewN (Below.refl _ W2) n)).live
            rw [live_us hs2.ok] at this
            exact this
          have HLV := Lib.hid hLV
          clear hLV
          refine wpIn_region_quiet_lit rfl (by kernel_rfl) (by kernel_rfl) ?_
          repeat (
            refine wpQuietIn_step (by first | quiet_asked_in | (go_simp; exact trivial)) (fun K hK => ?_)
            go_simp
            first
              | (refine hK _ ?_; clear hK K)
              | (apply Exists.intro; refine ⟨fun _ => ?_, hK _ ?_⟩; (gi_at_call 19; exact CallsIn.quiet_of (callsIn_wide.2 (HLV.out _))); clear hK K))
          refine wpQuietIn_nil ?_
          rintro _ ⟨nq, rfl⟩
          gi_wp2
          have hDlt : D < W.heap.size := (Array.getElem?_eq_some_iff.1 hK).1
          have hK3 : (W2.drewN nq).heap[D2]? = some (.deferred (some [])) := hK2
          refine ⟨by simp, .inl ⟨_, _, rfl, run_takeDeferred hK3, ?_⟩⟩
          have hD3 : D ≠ D2 := by simp at hD2; omega
          have hK4 : ((W2.drewN nq).putObj D2 (.deferred none)).heap[D]? = some (.deferred (some [])) := (World.putObj_heap_other hD3).trans ((hBB.block D hDlt).trans hK)
          refine ⟨by simp, .inl ⟨_, _, rfl, run_takeDeferred hK4, ?_⟩⟩
          refine ⟨.bool true, by simp [results, Try.f4, go_sem], rfl, ?_⟩
          have z1 := hbel.size
          have z2 := hB.size
          refine Below.trans ?_ (belowK_b (w := w) (Nat.le_refl _) _ D _ _ (by simp at hD; omega) hK4 rfl rfl)
          refine Below.trans ?_ (belowK_b (w := w) (Nat.le_refl _) _ D2 _ _ (by simp at hD2; omega) hK3 rfl rfl)
          exact below_drewN ((hbel.trans (hB.mono z1)).trans (hBB.mono (by omega))) nq
        case stop2 =>
          rintro D c k W _ _ h _
          exact h.elim

theorem apart_walk (acts : List ActV) (v : Value) (w : World) (hrow : Row w v 3 acts.length (actCells acts)) (hmax : acts.length ≤ 9223372036854775807) :
    Calls Try.prog 4 #[v] w fun e w' => e = .returned (.bool true) ∧ Below w.heap.size w w' :=
  callsIn_wide.1 (apart_in acts v w hrow hmax)

end Go.Proofs.Ytbaepjjanjhliaa
