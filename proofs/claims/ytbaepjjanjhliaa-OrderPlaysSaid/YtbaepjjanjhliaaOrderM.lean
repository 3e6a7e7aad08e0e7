/- The list of stamps beside the document's: After, Delete, Less on any numbers; what both lists are then. -/
import Derived.Test.YtbaepjjanjhliaaOrderD
import Derived.Test.YtbaepjjanjhliaaRef02D
import Derived.Test.YtbaepjjanjhliaaRef02N
namespace Go.Proofs.Ytbaepjjanjhliaa.ref02
set_option linter.unusedVariables false
open Go.RowKit ref01
variable {X X' own : Nat → Prop} {r : Ar Int} {L : List Int} {v : Value} {W W' : World}
theorem RS.later (h : RS X r L v W) (hb : Below W.heap.size W W') : RS X r L v W' := by
  obtain ⟨aO, cO, aT, cT, aU, cU, aF, cF, ts, e, h1, h2, h3, h4⟩ := h
  exact ⟨aO, cO, aT, cT, aU, cU, aF, cF, ts, e, h1.later hb, h2.later hb, h3, h4⟩
theorem RS.sub (h : RS X r L v W) (hs : ∀ k, X' k → X k) : RS X' r L v W := by
  obtain ⟨aO, cO, aT, cT, aU, cU, aF, cF, ts, e, h1, h2, h3, h4⟩ := h
  exact ⟨aO, cO, aT, cT, aU, cU, aF, cF, ts, e, h1.sub hs, h2, fun h0 x hx hk => h3 h0 x hx (hs _ hk), h4⟩
theorem RS.only (h : RS X r L v W) (ho : Only own W W') (hs : ∀ k, own k → X k) : RS X r L v W' := by
  obtain ⟨aO, cO, aT, cT, aU, cU, aF, cF, ts, e, h1, h2, h3, h4⟩ := h
  exact ⟨aO, cO, aT, cT, aU, cU, aF, cF, ts, e, h1.only (ho.mono fun k _ => hs k), row_only h2 ho (fun h0 x hx hk => h3 h0 x hx (hs _ hk)), h3, h4⟩
/-- and none lies in a block that came since -/
theorem RS.step (h : RS X r L v W) (ho : Only own W W') (hs : ∀ k, own k → X k) : RS (ownNew X W W') r L v W' := by
  obtain ⟨aO, cO, aT, cT, aU, cU, aF, cF, ts, e, h1, h2, h3, h4⟩ := h
  exact ⟨aO, cO, aT, cT, aU, cU, aF, cF, ts, e, h1.step' ho hs, row_only h2 ho (fun h0 x hx hk => h3 h0 x hx (hs _ hk)), row_news h2 h3, h4⟩
end Go.Proofs.Ytbaepjjanjhliaa.ref02
namespace Go.Proofs.Ytbaepjjanjhliaa.ord
set_option linter.unusedVariables false
open Go.RowKit Go.Shelf arK

/-- the document's list behind After, Delete: its stamps, its numbers, the new number -/
def aL (r : Ar Int) (L : List Int) (x : Int) : List Int := if x ∈ L then ins L (L.idxOf x) (r.alloc 0).2.1 else L
def aR (r : Ar Int) (L : List Int) (x : Int) : Ar Int := if x ∈ L then (r.alloc 0).1 else r
def aN (r : Ar Int) (L : List Int) (x : Int) : Int := if x ∈ L then (r.alloc 0).2.1 else 0
def dB (L : List Int) (x : Int) : Bool := decide (x ∈ L ∧ x ≠ 0)
def dL (L : List Int) (x : Int) : List Int := if x ∈ L ∧ x ≠ 0 then L.eraseIdx (L.idxOf x) else L
def dR (r : Ar Int) (L : List Int) (x : Int) : Ar Int := if x ∈ L ∧ x ≠ 0 then r.free 0 x else r
theorem idx_at {L : List Int} {x : Int} (h : x ∈ L) : L[L.idxOf x]? = some x := by
  have h1 : L.idxOf x < L.length := List.idxOf_lt_length_of_mem h
  rw [List.getElem?_eq_getElem h1, List.getElem_idxOf h1]
/-- both lists: the program's arena s, the document's numbers r, the stamps L -/
structure Both (s : Ar Lk) (r : Ar Int) (L : List Int) : Prop where
  ok : Ok s L
  sok : s.Ok
  rok : r.Ok
  agr : Agree s r
  room : s.room = 1048576
  live : s.live = (L.length : Int)
theorem Both.new : Both s0 ref02.r0 [0] := by
  have h1 : s0.Ok := (Ar.Ok.new 1048576 (by decide) (by decide) : Ar.Ok ({ room := 1048576, sl := [], fr := [] } : Ar Lk)).alloc ⟨-1, -1, 0⟩
  have h2 : ref02.r0.Ok := (Ar.Ok.new 1048576 (by decide) (by decide) : Ar.Ok ({ room := 1048576, sl := [], fr := [] } : Ar Int)).alloc 0
  refine ⟨ok0, h1, h2, ⟨rfl, rfl, rfl, fun i => ?_⟩, rfl, rfl⟩
  unfold Ar.has s0
  simp only [List.length_singleton]
  by_cases h : 0 ≤ i ∧ i < 1
  · obtain rfl : i = 0 := by omega
    rfl
  · rcases (by omega : ¬ 0 ≤ i ∨ ¬ i < 1) with h | h
    · rw [decide_eq_false h]; rfl
    · have : ¬ i < ((1 : Nat) : Int) := by simpa using h
      rw [decide_eq_false this]; simp
section
variable {own : Nat → Prop} {bl b : Nat} {s s' : Ar Lk} {r : Ar Int} {L : List Int} {w w' : World}
theorem Both.has (h : Both s r L) (x : Int) : s.has x = decide (x ∈ L) := Bool.eq_iff_iff.2 (by rw [h.ok.has, decide_eq_true_eq])
theorem Both.alloc (h : Both s r L) (hl : L.length ≤ 1000000) : (r.alloc 0).2.2 = true := by
  obtain ⟨s1, n, e, -⟩ := alloc_is h.sok (by rw [h.live, h.room]; omega) Lk.zero
  have := (h.agr.alloc h.sok h.rok Lk.zero 0).1
  rw [this, e]
theorem LI.same (h : LI own bl b s w) (hb : Below w.heap.size w w') : LI (ownNew own w w') bl b s w' :=
  (h.later hb).widen (fun k hk => .inl hk) (fun k hk => hk.elim (fun q => Nat.lt_of_lt_of_le (h.is.lt k q) hb.size) (fun q => q.2)) (fun q => q.elim h.nown (fun q => by have := h.lt; omega))
theorem both_after (hI : LI own bl b s w) (h : Both s r L) (hl : L.length ≤ 1000000) (x : Int) :
    Calls Try.prog 30 #[.pointer (some ⟨bl, 0, none⟩), .int .i64 x] w fun e w' => ∃ s', e = .returned (.tuple #[.int .i64 (aN r L x), .bool (decide (x ∈ L))]) ∧ LI (ownNew own w w') bl b s' w' ∧ Both s' (aR r L x) (aL r L x) ∧ Only own w w' := by
  by_cases hx : x ∈ L
  · refine (after_yes hI h.ok (by omega) (by rw [h.live]; omega) h.room (idx_at hx)).mono ?_
    rintro e w' ⟨n, s', rfl, q1, q2, ⟨y, s1, q3, q4⟩, q5, q6⟩
    obtain ⟨a1, a2⟩ := h.agr.alloc h.sok h.rok y 0
    rw [q3] at a1 a2
    have e1 : aN r L x = n := by unfold aN; rw [if_pos hx, a1]
    have e2 : aL r L x = ins L (L.idxOf x) n := by unfold aL; rw [if_pos hx, a1]
    have e3 : aR r L x = (r.alloc 0).1 := if_pos hx
    have hh : ∀ i, s'.has i = s1.has i := fun i => Bool.eq_iff_iff.2 (by
      obtain ⟨s1', n', f1, f2, f3, f4, -⟩ := alloc_is h.sok (by rw [h.live, h.room]; omega) y
      rw [q3] at f1
      cases f1
      rw [q2.has, ins_mem, f4, h.ok.has])
    have h5 := alloc_is h.sok (by rw [h.live, h.room]; omega) y
    obtain ⟨s1', n', f1, -, -, -, -, -, f7, f8⟩ := h5
    rw [q3] at f1
    cases f1
    have a3 : Agree s' (r.alloc 0).1 := a2.same q4 hh
    exact ⟨s', by rw [e1, decide_eq_true hx], q1, ⟨by rw [e2]; exact q2, q1.is.ok, by rw [e3]; exact h.rok.alloc 0, by rw [e3]; exact a3, q4.room.trans (f8.trans h.room), by rw [q4.live, f7, h.live, e2, ins_len]; omega⟩, q6⟩
  · refine (after_no hI x (by rw [h.has, decide_eq_false hx])).mono ?_
    rintro e w' ⟨rfl, hb⟩
    have e1 : aN r L x = 0 := if_neg hx
    have e2 : aL r L x = L := if_neg hx
    have e3 : aR r L x = r := if_neg hx
    exact ⟨s, by rw [e1, decide_eq_false hx], hI.same hb, by rw [e2, e3]; exact h, Only.of_below hb⟩
theorem both_delete (hI : LI own bl b s w) (h : Both s r L) (x : Int) :
    Calls Try.prog 26 #[.pointer (some ⟨bl, 0, none⟩), .int .i64 x] w fun e w' => ∃ s', e = .returned (.bool (dB L x)) ∧ LI (ownNew own w w') bl b s' w' ∧ Both s' (dR r L x) (dL L x) ∧ Only own w w' := by
  by_cases h0 : x = 0
  · subst h0
    refine (delete_zero _ w).mono ?_
    rintro e w' ⟨rfl, hb⟩
    exact ⟨s, by unfold dB; simp, hI.same hb, by unfold dL dR; simpa using h, Only.of_below hb⟩
  · by_cases hx : x ∈ L
    · have hc : x ∈ L ∧ x ≠ 0 := ⟨hx, h0⟩
      have hs : s.has x = true := by rw [h.has, decide_eq_true hx]
      refine (delete_yes hI x h0 hs).mono ?_
      rintro e w' ⟨rfl, q1, q2⟩
      have e1 : dB L x = true := decide_eq_true hc
      have e2 : dL L x = L.eraseIdx (L.idxOf x) := if_pos hc
      have e3 : dR r L x = r.free 0 x := if_pos hc
      have hp0 : L.idxOf x ≠ 0 := fun q => by
        have := idx_at hx
        rw [q, h.ok.head] at this
        exact h0 (Option.some.inj this).symm
      have hi1 : (joinF s (getAt s x).p (getAt s x).n).has x = true := by rw [joinF_has]; exact hs
      have hag : Agree (joinF s (getAt s x).p (getAt s x).n) r := h.agr.same (joinF_same _ _ _) (fun i => joinF_has _ _ _ _)
      have hlv : ((joinF s (getAt s x).p (getAt s x).n).free Lk.zero x).live = s.live - 1 := by
        have e := (joinF_same s (getAt s x).p (getAt s x).n).live
        rw [← e]
        unfold Ar.live Ar.free
        simp only [List.length_set, List.length_append, List.length_singleton]
        omega
      have hlen := List.idxOf_lt_length_of_mem hx
      exact ⟨_, by rw [e1], q1, ⟨by rw [e2]; exact delete_ok h.ok hp0 (idx_at hx) _, q1.is.ok, by rw [e3]; exact h.rok.free 0 (by rw [h.agr.has]; exact hs), by rw [e3]; exact hag.free hi1 _ _, (joinF_same s _ _).room.trans h.room, by rw [hlv, h.live, e2, List.length_eraseIdx, if_pos hlen]; omega⟩, q2⟩
    · have hc : ¬ (x ∈ L ∧ x ≠ 0) := fun q => hx q.1
      refine (delete_no hI x h0 (by rw [h.has, decide_eq_false hx])).mono ?_
      rintro e w' ⟨rfl, hb⟩
      have e1 : dB L x = false := decide_eq_false hc
      have e2 : dL L x = L := if_neg hc
      have e3 : dR r L x = r := if_neg hc
      exact ⟨s, by rw [e1], hI.same hb, by rw [e2, e3]; exact h, Only.of_below hb⟩
theorem Both.less (h : Both s r L) (x y : Int) : lessF s x y = (decide (0 ≤ ref02.placeF L x) && (decide (0 ≤ ref02.placeF L y) && decide (ref02.placeF L x < ref02.placeF L y))) := by
  by_cases hx : x ∈ L
  · have e1 := ref02.place_at h.ok.nodup (idx_at hx)
    by_cases hy : y ∈ L
    · have e2 := ref02.place_at h.ok.nodup (idx_at hy)
      rw [less_pos h.ok (idx_at hx) (idx_at hy), e1, e2, decide_eq_true (by omega : (0 : Int) ≤ (L.idxOf x : Int)), decide_eq_true (by omega : (0 : Int) ≤ (L.idxOf y : Int)), Bool.true_and, Bool.true_and, decide_eq_decide]
      omega
    · have e2 := ref02.place_no hy
      unfold lessF
      rw [h.has y, decide_eq_false hy, e2, decide_eq_false (by omega : ¬ (0 : Int) ≤ -1)]
      simp
  · have e1 := ref02.place_no hx
    unfold lessF
    rw [h.has x, decide_eq_false hx, e1, decide_eq_false (by omega : ¬ (0 : Int) ≤ -1)]
    simp
theorem Both.hasP (h : Both s r L) (x : Int) : s.has x = decide (0 ≤ ref02.placeF L x) := by
  rw [h.has, decide_eq_decide]
  by_cases hx : x ∈ L
  · have e1 := ref02.place_at h.ok.nodup (idx_at hx)
    rw [e1]; exact ⟨fun _ => by omega, fun _ => hx⟩
  · have e1 := ref02.place_no hx
    rw [e1]; exact ⟨fun q => absurd q hx, fun q => by omega⟩
theorem aL_len (r : Ar Int) (L : List Int) (x : Int) : (aL r L x).length ≤ L.length + 1 := by
  unfold aL
  split
  · rw [ins_len]; omega
  · omega
theorem dL_len (L : List Int) (x : Int) : (dL L x).length ≤ L.length := by
  unfold dL
  split
  · exact List.length_eraseIdx_le ..
  · omega
end
/-- the document's calls, in the same words -/
theorem ref_after {X : Nat → Prop} {s : Ar Lk} {r : Ar Int} {L : List Int} {v : Value} {w : World} (h : Both s r L) (hl : ∀ k, X k → k < w.heap.size) (hR : ref02.RS X r L v w) (hm : L.length ≤ 1000000) (x : Int) :
    Calls Try.prog 31 #[v, .int .i64 x] w fun e w' => ∃ v', e = .returned (.tuple #[v', .int .i64 (aN r L x), .bool (decide (x ∈ L))]) ∧ ref02.RS X (aR r L x) (aL r L x) v' w' ∧ Below w.heap.size w w' := by
  by_cases hx : x ∈ L
  · have e1 : aN r L x = (r.alloc 0).2.1 := if_pos hx
    have e2 : aL r L x = ins L (L.idxOf x) (r.alloc 0).2.1 := if_pos hx
    have e3 : aR r L x = (r.alloc 0).1 := if_pos hx
    rw [e1, e2, e3, decide_eq_true hx]
    exact ref02.after_yes h.rok hl hR hm h.ok.nodup (idx_at hx) (by have := h.alloc hm; rw [← this])
  · have e1 : aN r L x = 0 := if_neg hx
    have e2 : aL r L x = L := if_neg hx
    have e3 : aR r L x = r := if_neg hx
    rw [e1, e2, e3, decide_eq_false hx]
    refine (ref02.after_no hR (by omega) hx).mono ?_
    rintro e w' ⟨rfl, hb⟩
    exact ⟨v, rfl, hR.later hb, hb⟩
theorem ref_delete {X : Nat → Prop} {s : Ar Lk} {r : Ar Int} {L : List Int} {v : Value} {w : World} (h : Both s r L) (hl : ∀ k, X k → k < w.heap.size) (hR : ref02.RS X r L v w) (hm : L.length ≤ 1000000) (x : Int) :
    Calls Try.prog 25 #[v, .int .i64 x] w fun e w' => ∃ v', e = .returned (.tuple #[v', .bool (dB L x)]) ∧ ref02.RS X (dR r L x) (dL L x) v' w' ∧ Below w.heap.size w w' := by
  by_cases hx : x ∈ L ∧ x ≠ 0
  · have e1 : dB L x = true := decide_eq_true hx
    have e2 : dL L x = L.eraseIdx (L.idxOf x) := if_pos hx
    have e3 : dR r L x = r.free 0 x := if_pos hx
    have hp0 : L.idxOf x ≠ 0 := fun q => by
      have := idx_at hx.1
      rw [q, h.ok.head] at this
      exact hx.2 (Option.some.inj this).symm
    rw [e1, e2, e3]
    exact ref02.delete_yes h.rok hl hR hm h.ok.nodup hp0 (idx_at hx.1) (by rw [h.agr.has, h.has, decide_eq_true hx.1]) rfl
  · have e1 : dB L x = false := decide_eq_false hx
    have e2 : dL L x = L := if_neg hx
    have e3 : dR r L x = r := if_neg hx
    rw [e1, e2, e3]
    have hp : ref02.placeF L x ≤ 0 := by
      by_cases hx1 : x ∈ L
      · have h0 : x = 0 := by
          by_cases q : x = 0
          · exact q
          · exact absurd ⟨hx1, q⟩ hx
        subst h0
        rw [ref02.place_at h.ok.nodup h.ok.head]; omega
      · rw [ref02.place_no hx1]; omega
    refine (ref02.delete_no hR (by omega) hp).mono ?_
    rintro e w' ⟨rfl, hb⟩
    exact ⟨v, rfl, hR.later hb, hb⟩
end Go.Proofs.Ytbaepjjanjhliaa.ord
