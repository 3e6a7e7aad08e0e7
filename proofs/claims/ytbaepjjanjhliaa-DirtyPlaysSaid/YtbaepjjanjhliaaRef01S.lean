/- The reference's arena beside an arena as plain mathematics: each call, in one form. -/
import Derived.Test.YtbaepjjanjhliaaRef01A
namespace Go.Proofs.Ytbaepjjanjhliaa.ref01
set_option linter.unusedVariables false
open Go.RowKit

set_option maxRecDepth 100000 in
set_option maxHeartbeats 400000 in
theorem free_no (room : Int) (aT : Option Addr) (nT cT : Nat) (aU : Option Addr) (us : List Bool) (cU : Nat) (aF : Option Addr) (nF cF : Nat) (w : World)
    (hr : Row w (.slice aU us.length cU) 1 us.length (us.map Value.bool)) (hm : us.length ≤ 1048576) (i : Int) (hb : has us i = false) :
    Calls Try.prog 11 #[st room aT nT cT aU us.length cU aF nF cF, .int .i64 i] w fun e w' =>
      e = .returned (.tuple #[st room aT nT cT aU us.length cU aF nF cF, .bool false]) ∧ Below w.heap.size w w' := by
  have hH := fun W (hB : Below w.heap.size w W) => has_any room aT nT cT aU us cU aF nF cF W (hr.later hB) hm i
  rw [hb] at hH
  have HH := Lib.hid hH
  clear hH hr
  go_enter Try.func11, Try.ntmps11
  go_wp2_with (go_at_call 14; refine (HH.out _ (((Below.refl _ _).alloc (Nat.le_refl _) _).alloc (by simp) _)).mono ?_; rintro e w1 ⟨rfl, hb1⟩; obtain ⟨B1, B2⟩ := boxes _ _ _ _ _ _ _ _ _ hb1; have c0 := B1.cell 0; have c1 := B1.cell 1; have c2 := B1.cell 2; have c3 := B1.cell 3; have z0 := B2.cell 0; have z1 := B2.cell 1; have z2 := B2.cell 2; have z3 := B2.cell 3; have y0 := B2.frozen 0; have y1 := B2.frozen 1; have y2 := B2.frozen 2; have y3 := B2.frozen 3; simp only [List.getElem?_cons_zero, List.getElem?_cons_succ] at c0 c1 c2 c3 z0 z1 z2 z3; have HB2 := Lib.hid B2; have HB1 := Lib.hid hb1; clear B1 B2 hb1)
  have e0 : Below w.heap.size w w1 := (((Below.refl _ w).alloc (Nat.le_refl _) _).alloc (by simp) _).trans (HB1.out.mono (by simp; omega))
  have e5 := (((e0.setCell (p := ⟨w.heap.size + 1, 0, none⟩) (Nat.le_succ _) (.int .i64 room)).setCell (p := ⟨w.heap.size + 1, 1, none⟩) (Nat.le_succ _) (.slice aT nT cT)).setCell (p := ⟨w.heap.size + 1, 2, none⟩) (Nat.le_succ _) (.slice aU us.length cU)).setCell (p := ⟨w.heap.size + 1, 3, none⟩) (Nat.le_succ _) (.slice aF nF cF)
  exact bodyPost_ret (v := .tuple #[st room aT nT cT aU us.length cU aF nF cF, .bool false]) (by simp [results, Try.results11, go_sem, z0, z1, z2, z3]) rfl ⟨rfl, e5⟩

abbrev usOf (s : Ar Int) : List Bool := s.sl.map (·.1)
abbrev frOf (s : Ar Int) : List Int := s.fr.map fun i : Nat => (i : Int)
/-- at the places in use the reference has what the arena has -/
def Agr (s : Ar Int) (ts : List Int) : Prop := ts.length = s.sl.length ∧ ∀ (i : Nat) (v : Int), s.sl[i]? = some (true, v) → ts[i]? = some v

theorem has_of (s : Ar Int) (i : Int) : has (usOf s) i = s.has i := by
  unfold has Ar.has usOf; rw [List.length_map, List.getElem?_map]
theorem count_of (s : Ar Int) (hok : s.Ok) : (count (usOf s) : Int) = s.live := by
  have h := hok.count
  have : count (usOf s) = (s.sl.filter (·.1)).length := by
    unfold count usOf; rw [List.filter_map, List.length_map]; rfl
  unfold Ar.live; omega

/-- the reference's struct, at letters of its own: it reads as s and ts; none of its rows lies in 'own' -/
structure RefAt (own : Nat → Prop) (s : Ar Int) (ts : List Int) (aT : Option Addr) (cT : Nat) (aU : Option Addr) (cU : Nat) (aF : Option Addr) (cF : Nat) (W : World) : Prop where
  t : Row W (.slice aT (usOf s).length cT) 1 (usOf s).length (ints ts)
  u : Row W (.slice aU (usOf s).length cU) 1 (usOf s).length ((usOf s).map Value.bool)
  f : Row W (.slice aF (frOf s).length cF) 1 (frOf s).length (ints (frOf s))
  cap : (frOf s).length ≤ cF
  agr : Agr s ts
  ft : (usOf s).length ≠ 0 → ∀ x, aT = some x → ¬ own x.block
  fu : (usOf s).length ≠ 0 → ∀ x, aU = some x → ¬ own x.block
  ff : (frOf s).length ≠ 0 → ∀ x, aF = some x → ¬ own x.block

theorem row_only {own : Nat → Prop} {W W' : World} {a : Option Addr} {n c : Nat} {xs : List Value} (h : Row W (.slice a n c) 1 n xs) (ho : Only own W W') (hn : n ≠ 0 → ∀ x, a = some x → ¬ own x.block) : Row W' (.slice a n c) 1 n xs := by
  by_cases h0 : n = 0
  · obtain ⟨a', c', e, hl, -⟩ := h
    exact ⟨a', c', e, hl, .inl h0⟩
  · refine h.only ho (fun b hb => ?_)
    cases a with
    | none => cases hb
    | some x => cases hb; exact hn h0 x rfl
theorem row_news {own : Nat → Prop} {W W' : World} {a : Option Addr} {n c : Nat} {xs : List Value} (h : Row W (.slice a n c) 1 n xs) (hn : n ≠ 0 → ∀ x, a = some x → ¬ own x.block) : n ≠ 0 → ∀ x, a = some x → ¬ ownNew own W W' x.block := by
  intro h0 x hx
  obtain ⟨b, off, cap, e, hc⟩ := h.pos (by omega)
  simp only [Value.slice.injEq] at e
  obtain ⟨rfl, -, rfl⟩ := e
  cases hx
  have h1 := hc 0 (by omega)
  rw [List.getElem?_eq_getElem (by have := h.len; omega)] at h1
  have hlt := World.block_lt_of_cell? W _ h1
  rintro (h2 | h2)
  · exact hn h0 _ rfl h2
  · have : b < W.heap.size := hlt
    have : W.heap.size ≤ b := h2.1
    omega
theorem RefAt.only {own : Nat → Prop} {s : Ar Int} {ts : List Int} {aT aU aF : Option Addr} {cT cU cF : Nat} {W W' : World} (h : RefAt own s ts aT cT aU cU aF cF W) (ho : Only own W W') : RefAt own s ts aT cT aU cU aF cF W' :=
  ⟨row_only h.t ho h.ft, row_only h.u ho h.fu, row_only h.f ho h.ff, h.cap, h.agr, h.ft, h.fu, h.ff⟩
/-- and none lies in a block that the arena has made -/
theorem RefAt.step {own : Nat → Prop} {s : Ar Int} {ts : List Int} {aT aU aF : Option Addr} {cT cU cF : Nat} {W W' : World} (h : RefAt own s ts aT cT aU cU aF cF W) (ho : Only own W W') : RefAt (ownNew own W W') s ts aT cT aU cU aF cF W' :=
  ⟨row_only h.t ho h.ft, row_only h.u ho h.fu, row_only h.f ho h.ff, h.cap, h.agr, row_news h.t h.ft, row_news h.u h.fu, row_news h.f h.ff⟩
theorem RefAt.later {own : Nat → Prop} {s : Ar Int} {ts : List Int} {aT aU aF : Option Addr} {cT cU cF : Nat} {W W' : World} (h : RefAt own s ts aT cT aU cU aF cF W) (hb : Below W.heap.size W W') : RefAt own s ts aT cT aU cU aF cF W' :=
  h.only (Only.of_below hb)
/-- what a call of the reference leaves -/
def RefOut (own : Nat → Prop) (room : Int) (s' : Ar Int) (ts' : List Int) (extra : List Value) (w : World) (e : Ending) (w' : World) : Prop :=
  (∃ aT cT aU cU aF cF, e = .returned (.tuple (st room aT (usOf s').length cT aU (usOf s').length cU aF (frOf s').length cF :: extra).toArray) ∧ RefAt own s' ts' aT cT aU cU aF cF w') ∧ Below w.heap.size w w'

theorem far_new {own : Nat → Prop} {w : World} {a a' : Option Addr} {n : Nat} (hn : New w a a') (hl : ∀ k, own k → k < w.heap.size) : n ≠ 0 → ∀ x, a' = some x → ¬ own x.block := by
  intro _ x hx ho
  have := hn x hx
  have := hl _ ho
  omega

theorem ref_set {own : Nat → Prop} {room : Int} {s : Ar Int} {ts : List Int} {aT aU aF : Option Addr} {cT cU cF : Nat} {w : World} (hok : s.Ok) (hl : ∀ k, own k → k < w.heap.size) (h : RefAt own s ts aT cT aU cU aF cF w) (i x : Int) :
    ∃ ts', Calls Try.prog 15 #[st room aT (usOf s).length cT aU (usOf s).length cU aF (frOf s).length cF, .int .i64 i, .int .i64 x] w (RefOut own room (if s.has i = true then s.put i x else s) ts' [.bool (s.has i)] w) := by
  have hm : (usOf s).length ≤ 1048576 := by rw [List.length_map]; exact hok.many
  by_cases hh : s.has i = true
  · obtain ⟨h0, hlt, v, hv⟩ := Ar.has_iff.1 hh
    obtain ⟨k, rfl⟩ : ∃ k : Nat, i = k := ⟨i.toNat, by omega⟩
    rw [Int.toNat_natCast] at hlt hv
    have hk : k < (usOf s).length := by rw [List.length_map]; exact hlt
    have hsl : usOf (s.put k x) = usOf s := by
      unfold usOf Ar.put
      rw [Int.toNat_natCast, List.map_set]
      refine List.ext_getElem? fun j => ?_
      by_cases e : k = j
      · subst e; rw [List.getElem?_set_self (by rw [List.length_map]; exact hlt), List.getElem?_map, hv]; rfl
      · rw [List.getElem?_set_ne e]
    have hfr : frOf (s.put k x) = frOf s := rfl
    refine ⟨ts.set k x, (set_yes room aT ts cT aU (usOf s) cU aF (frOf s).length cF w h.t h.u hm k hk x (by rw [has_of]; exact hh)).mono ?_⟩
    rintro e w' ⟨⟨aT', cT', rfl, hT', hN⟩, hb⟩
    rw [if_pos hh, hh]
    refine ⟨⟨aT', cT', aU, cU, aF, cF, by rw [hsl, hfr], ?_⟩, hb⟩
    have h' := h.later hb
    refine ⟨by rw [hsl]; exact hT', by rw [hsl]; exact h'.u, h'.f, h.cap, ⟨?_, ?_⟩, far_new hN hl, by rw [hsl]; exact h.fu, h.ff⟩
    · simp [Ar.put, h.agr.1]
    · intro j u hu
      simp only [Ar.put, Int.toNat_natCast] at hu
      by_cases e : k = j
      · subst e
        rw [List.getElem?_set_self hlt] at hu
        cases hu
        rw [List.getElem?_set_self (by rw [h.agr.1]; exact hlt)]
      · rw [List.getElem?_set_ne e] at hu ⊢
        exact h.agr.2 j u hu
  · have hf : s.has i = false := by simpa using hh
    refine ⟨ts, (set_no room aT ts cT aU (usOf s) cU aF (frOf s).length cF w h.t h.u hm i x (by rw [has_of]; exact hf)).mono ?_⟩
    rintro e w' ⟨rfl, hb⟩
    rw [if_neg (by rw [hf]; decide), hf]
    exact ⟨⟨aT, cT, aU, cU, aF, cF, rfl, h.later hb⟩, hb⟩

theorem ref_free {own : Nat → Prop} {room : Int} {s : Ar Int} {ts : List Int} {aT aU aF : Option Addr} {cT cU cF : Nat} {w : World} (hok : s.Ok) (hl : ∀ k, own k → k < w.heap.size) (h : RefAt own s ts aT cT aU cU aF cF w) (i : Int) :
    Calls Try.prog 11 #[st room aT (usOf s).length cT aU (usOf s).length cU aF (frOf s).length cF, .int .i64 i] w (RefOut own room (if s.has i = true then s.free 0 i else s) ts [.bool (s.has i)] w) := by
  have hm : (usOf s).length ≤ 1048576 := by rw [List.length_map]; exact hok.many
  have hmf : (frOf s).length ≤ 1048576 := by rw [List.length_map]; have := hok.frle; have := hok.many; omega
  by_cases hh : s.has i = true
  · obtain ⟨h0, hlt, v, hv⟩ := Ar.has_iff.1 hh
    obtain ⟨k, rfl⟩ : ∃ k : Nat, i = k := ⟨i.toNat, by omega⟩
    rw [Int.toNat_natCast] at hlt hv
    have hk : k < (usOf s).length := by rw [List.length_map]; exact hlt
    have hsl : usOf (s.free 0 k) = (usOf s).set k false := by unfold usOf Ar.free; rw [Int.toNat_natCast, List.map_set]
    have hsn : (usOf (s.free 0 k)).length = (usOf s).length := by rw [hsl, List.length_set]
    have hfr : frOf (s.free 0 k) = frOf s ++ [(k : Int)] := by unfold frOf Ar.free; simp
    have hfn : (frOf (s.free 0 k)).length = (frOf s).length + 1 := by rw [hfr]; simp
    refine (free_yes room aT cT aU (usOf s) cU aF (frOf s) cF w h.u h.f hm hmf k hk (by rw [has_of]; exact hh)).mono ?_
    rintro e w' ⟨⟨aU', cU', aF', cF', rfl, hU', hNU, hF', hNF, hc⟩, hb⟩
    rw [if_pos hh, hh]
    have h' := h.later hb
    refine ⟨⟨aT, cT, aU', cU', aF', cF', by rw [hsn, hfn], ?_⟩, hb⟩
    refine ⟨by rw [hsn]; exact h'.t, by rw [hsn, hsl]; exact hU', by rw [hfn, hfr]; exact hF', by rw [hfn]; exact hc, ⟨?_, ?_⟩, by rw [hsn]; exact h.ft, far_new hNU hl, far_new hNF hl⟩
    · simp [Ar.free, h.agr.1]
    · intro j u hu
      simp only [Ar.free, Int.toNat_natCast] at hu
      by_cases e : k = j
      · subst e
        rw [List.getElem?_set_self hlt] at hu
        cases hu
      · rw [List.getElem?_set_ne e] at hu
        exact h.agr.2 j u hu
  · have hf : s.has i = false := by simpa using hh
    refine (free_no room aT (usOf s).length cT aU (usOf s) cU aF (frOf s).length cF w h.u hm i (by rw [has_of]; exact hf)).mono ?_
    rintro e w' ⟨rfl, hb⟩
    rw [if_neg (by rw [hf]; decide), hf]
    exact ⟨⟨aT, cT, aU, cU, aF, cF, rfl, h.later hb⟩, hb⟩

theorem ref_alloc {own : Nat → Prop} {s : Ar Int} {ts : List Int} {aT aU aF : Option Addr} {cT cU cF : Nat} {w : World} (hok : s.Ok) (hl : ∀ k, own k → k < w.heap.size) (h : RefAt own s ts aT cT aU cU aF cF w) (x : Int) :
    ∃ ts', Calls Try.prog 18 #[st s.room aT (usOf s).length cT aU (usOf s).length cU aF (frOf s).length cF, .int .i64 x] w (RefOut own s.room (s.alloc x).1 ts' [.int .i64 (s.alloc x).2.1, .bool (s.alloc x).2.2] w) := by
  have hm : (usOf s).length ≤ 1048576 := by rw [List.length_map]; exact hok.many
  have hmf : (frOf s).length ≤ 1048576 := by rw [List.length_map]; have := hok.frle; have := hok.many; omega
  have hcnt := count_of s hok
  by_cases hfull : s.room ≤ s.live
  · have e : s.alloc x = (s, 0, false) := by unfold Ar.alloc; rw [if_pos hfull]
    refine ⟨ts, (alloc_full s.room aT cT aU (usOf s) cU aF (frOf s).length cF x w h.u hm (by omega)).mono ?_⟩
    rintro e' w' ⟨rfl, hb⟩
    rw [e]
    exact ⟨⟨aT, cT, aU, cU, aF, cF, rfl, h.later hb⟩, hb⟩
  · cases hg : s.fr.getLast? with
    | none =>
      have hfr : s.fr = [] := List.getLast?_eq_none_iff.1 hg
      have e : s.alloc x = ({ s with sl := s.sl ++ [(true, x)] }, (s.sl.length : Int), true) := by unfold Ar.alloc; rw [if_neg hfull, hg]
      have hf0 : (frOf s).length = 0 := by rw [List.length_map, hfr]; rfl
      rw [hf0]
      refine ⟨ts ++ [x], (alloc_more s.room aT ts cT aU (usOf s) cU aF cF x w h.t h.u hm (by omega)).mono ?_⟩
      rintro e' w' ⟨⟨aT', cT', aU', cU', rfl, hT', hNT, hU', hNU⟩, hb⟩
      rw [e]
      have hsl : usOf { s with sl := s.sl ++ [(true, x)] } = usOf s ++ [true] := by unfold usOf; simp
      have hsn : (usOf { s with sl := s.sl ++ [(true, x)] }).length = (usOf s).length + 1 := by rw [hsl]; simp
      have hfo : frOf { s with sl := s.sl ++ [(true, x)] } = frOf s := rfl
      have h' := h.later hb
      refine ⟨⟨aT', cT', aU', cU', aF, cF, by rw [hsn, hfo, hf0, show ((usOf s).length : Int) = (s.sl.length : Int) by rw [List.length_map]], ?_⟩, hb⟩
      refine ⟨by rw [hsn]; exact hT', by rw [hsn, hsl]; exact hU', h'.f, h.cap, ⟨?_, ?_⟩, far_new hNT hl, far_new hNU hl, h.ff⟩
      · simp [h.agr.1]
      · intro j u hu
        dsimp only at hu
        by_cases hj : j < s.sl.length
        · rw [List.getElem?_append_left hj] at hu
          rw [List.getElem?_append_left (by rw [h.agr.1]; exact hj)]
          exact h.agr.2 j u hu
        · have hj' : j = s.sl.length := by
            have := (List.getElem?_eq_some_iff.1 hu).1
            simp at this; omega
          subst hj'
          rw [List.getElem?_append_right (Nat.le_refl _)] at hu
          rw [List.getElem?_append_right (by rw [h.agr.1]; exact Nat.le_refl _), h.agr.1]
          simpa using hu
    | some k =>
      have e : s.alloc x = ({ s with sl := s.sl.set k (true, x), fr := s.fr.dropLast }, (k : Int), true) := by unfold Ar.alloc; rw [if_neg hfull, hg]
      have hmem : k ∈ s.fr := List.mem_of_getLast? hg
      have hlt := hok.lt hmem
      have hk : k < (usOf s).length := by rw [List.length_map]; exact hlt
      have hpos : 0 < s.fr.length := List.length_pos_of_mem hmem
      obtain ⟨m, hm1⟩ : ∃ m, (frOf s).length = m + 1 := ⟨s.fr.length - 1, by rw [List.length_map]; omega⟩
      have hm1' : s.fr.length = m + 1 := by rw [← hm1, List.length_map]
      have hlast : (frOf s)[m]? = some (k : Int) := by
        rw [List.getLast?_eq_getElem?] at hg
        rw [List.getElem?_map, show m = s.fr.length - 1 by omega, hg]; rfl
      have hF := h.f
      have hcap := h.cap
      rw [hm1] at hF hcap ⊢
      refine ⟨ts.set k x, (alloc_again s.room aT ts cT aU (usOf s) cU aF m cF (frOf s) k x w h.t h.u hF hlast hcap hm (by omega) hk (by omega)).mono ?_⟩
      rintro e' w' ⟨⟨aT', cT', aU', cU', rfl, hT', hNT, hU', hNU⟩, hb⟩
      rw [e]
      have hsl : usOf { s with sl := s.sl.set k (true, x), fr := s.fr.dropLast } = (usOf s).set k true := by unfold usOf; rw [List.map_set]
      have hsn : (usOf { s with sl := s.sl.set k (true, x), fr := s.fr.dropLast }).length = (usOf s).length := by rw [hsl, List.length_set]
      have hfo : frOf { s with sl := s.sl.set k (true, x), fr := s.fr.dropLast } = (frOf s).dropLast := by unfold frOf; rw [List.map_dropLast]
      have hfn : (frOf { s with sl := s.sl.set k (true, x), fr := s.fr.dropLast }).length = m := by rw [hfo, List.length_dropLast, hm1]; rfl
      have h' := h.later hb
      refine ⟨⟨aT', cT', aU', cU', aF, cF, by rw [hsn, hfn], ?_⟩, hb⟩
      refine ⟨by rw [hsn]; exact hT', by rw [hsn, hsl]; exact hU', ?_, by rw [hfn]; omega, ⟨?_, ?_⟩, far_new hNT hl, far_new hNU hl, fun h0 => h.ff (by omega)⟩
      · rw [hfn, hfo]
        have h2 := h'.f
        rw [hm1] at h2
        obtain ⟨a, c, ea, hlen, hc⟩ := h2
        simp only [Value.slice.injEq] at ea
        obtain ⟨rfl, -, rfl⟩ := ea
        refine ⟨_, _, rfl, by simp; omega, ?_⟩
        rcases hc with hc | ⟨b, o, rfl, hc⟩
        · omega
        · refine .inr ⟨b, o, rfl, fun j hj => ?_⟩
          rw [hc j (by omega), show ints (frOf s).dropLast = (ints (frOf s)).dropLast from List.map_dropLast, List.getElem?_dropLast, if_pos (by rw [List.length_map, hm1]; omega)]
      · simp [h.agr.1]
      · intro j u hu
        dsimp only at hu
        by_cases ej : k = j
        · subst ej
          rw [List.getElem?_set_self hlt] at hu
          cases hu
          rw [List.getElem?_set_self (by rw [h.agr.1]; exact hlt)]
        · rw [List.getElem?_set_ne ej] at hu ⊢
          exact h.agr.2 j u hu

/-- the same, with lengths as a walk has them -/
def RefOut' (own : Nat → Prop) (room : Int) (s' : Ar Int) (ts' : List Int) (extra : List Value) (w : World) (e : Ending) (w' : World) : Prop :=
  (∃ aT cT aU cU aF cF, e = .returned (.tuple (st room aT s'.sl.length cT aU s'.sl.length cU aF s'.fr.length cF :: extra).toArray) ∧ RefAt own s' ts' aT cT aU cU aF cF w') ∧ Below w.heap.size w w'
theorem len_us (s : Ar Int) : (usOf s).length = s.sl.length := List.length_map _
theorem len_fr (s : Ar Int) : (frOf s).length = s.fr.length := List.length_map _
theorem RefOut.conv {own : Nat → Prop} {room : Int} {s' : Ar Int} {ts' : List Int} {extra : List Value} {w : World} {e : Ending} {w' : World} (h : RefOut own room s' ts' extra w e w') : RefOut' own room s' ts' extra w e w' := by
  unfold RefOut at h
  rw [len_us, len_fr] at h
  exact h
section
variable {own : Nat → Prop} {s : Ar Int} {ts : List Int} {aT aU aF : Option Addr} {cT cU cF : Nat} {w : World}
theorem set_step (room : Int) (hok : s.Ok) (hl : ∀ k, own k → k < w.heap.size) (h : RefAt own s ts aT cT aU cU aF cF w) (i x : Int) :
    ∃ ts', Calls Try.prog 15 #[st room aT s.sl.length cT aU s.sl.length cU aF s.fr.length cF, .int .i64 i, .int .i64 x] w (RefOut' own room (if s.has i = true then s.put i x else s) ts' [.bool (s.has i)] w) := by
  obtain ⟨ts', h⟩ := ref_set (room := room) hok hl h i x
  rw [len_us, len_fr] at h
  exact ⟨ts', h.mono fun e w' hr => hr.conv⟩
theorem free_step (room : Int) (hok : s.Ok) (hl : ∀ k, own k → k < w.heap.size) (h : RefAt own s ts aT cT aU cU aF cF w) (i : Int) :
    Calls Try.prog 11 #[st room aT s.sl.length cT aU s.sl.length cU aF s.fr.length cF, .int .i64 i] w (RefOut' own room (if s.has i = true then s.free 0 i else s) ts [.bool (s.has i)] w) := by
  have h := ref_free (room := room) hok hl h i
  rw [len_us, len_fr] at h
  exact h.mono fun e w' hr => hr.conv
theorem alloc_step (hok : s.Ok) (hl : ∀ k, own k → k < w.heap.size) (h : RefAt own s ts aT cT aU cU aF cF w) (x : Int) :
    ∃ ts', Calls Try.prog 18 #[st s.room aT s.sl.length cT aU s.sl.length cU aF s.fr.length cF, .int .i64 x] w (RefOut' own s.room (s.alloc x).1 ts' [.int .i64 (s.alloc x).2.1, .bool (s.alloc x).2.2] w) := by
  obtain ⟨ts', h⟩ := ref_alloc hok hl h x
  rw [len_us, len_fr] at h
  exact ⟨ts', h.mono fun e w' hr => hr.conv⟩
theorem has_step (room : Int) (hok : s.Ok) (h : RefAt own s ts aT cT aU cU aF cF w) (i : Int) :
    Calls Try.prog 14 #[st room aT s.sl.length cT aU s.sl.length cU aF s.fr.length cF, .int .i64 i] w fun e w' => e = .returned (.bool (s.has i)) ∧ Below w.heap.size w w' := by
  have h := has_any room aT (usOf s).length cT aU (usOf s) cU aF (frOf s).length cF w h.u (by rw [len_us]; exact hok.many) i
  rw [len_us, len_fr, has_of] at h
  exact h
theorem live_step (room : Int) (hok : s.Ok) (h : RefAt own s ts aT cT aU cU aF cF w) :
    Calls Try.prog 20 #[st room aT s.sl.length cT aU s.sl.length cU aF s.fr.length cF] w fun e w' => e = .returned (.int .i64 s.live) ∧ Below w.heap.size w w' := by
  have h := live_any room aT (usOf s).length cT aU (usOf s) cU aF (frOf s).length cF w h.u (by rw [len_us]; exact hok.many)
  rw [len_us, len_fr, count_of s hok] at h
  exact h
end
/-- of blocks of 'own' alone, and new ones; 'own' is part of what the rows keep from -/
theorem RefAt.step' {own X : Nat → Prop} {s : Ar Int} {ts : List Int} {aT aU aF : Option Addr} {cT cU cF : Nat} {W W' : World} (h : RefAt X s ts aT cT aU cU aF cF W) (ho : Only own W W') (hs : ∀ k, own k → X k) : RefAt (ownNew X W W') s ts aT cT aU cU aF cF W' :=
  h.step (ho.mono fun k _ hk => hs k hk)
theorem RefAt.sub {own X : Nat → Prop} {s : Ar Int} {ts : List Int} {aT aU aF : Option Addr} {cT cU cF : Nat} {W : World} (h : RefAt X s ts aT cT aU cU aF cF W) (hs : ∀ k, own k → X k) : RefAt own s ts aT cT aU cU aF cF W :=
  ⟨h.t, h.u, h.f, h.cap, h.agr, fun h0 x e ho => h.ft h0 x e (hs _ ho), fun h0 x e ho => h.fu h0 x e (hs _ ho), fun h0 x e ho => h.ff h0 x e (hs _ ho)⟩

end Go.Proofs.Ytbaepjjanjhliaa.ref01
