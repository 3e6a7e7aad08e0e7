/- The reference's list (regraterref02): At, After, Delete, New, at any struct whose slices read as lists. -/
import Derived.Test.YtbaepjjanjhliaaRef01S
import Derived.Deep.RegionLaw
namespace Go.Proofs.Ytbaepjjanjhliaa.ref02
set_option linter.unusedVariables false
open Go.RowKit ref01

/-- an append of any row, as a step of a region that draws its order -/
theorem step_append_row {P : Program} (w : World) {ops : Array Oper} {o : Oper} {a : Act} {K : Act → World → Prop} {Q : Exit → Act → World → Prop} {E : Prop} (hgd : o.guard = none) (s x : Operand) (t : TypeId) (ho : o.op = .call { callee := .builtin .append, args := #[s, x], argTypes := #[t, t] })
    (base : Nat) (e : TypeId) (i : TypeInfo) (z : Value) (size bytes : Nat) (ht : P.underlying t = some (.slice e)) (hi : P.info? e = some i) (hz : i.zero = some z)
    (hsize : i.size = size) (hby : i.bytes = bytes) (hzs : z.cells.size = size) (hsz : 0 < size)
    (v : Value) (n : Nat) (xs : List Value) (hs : a.eval s = v) (hown : w.ownsRow base e size v n xs)
    (vx : Value) (m : Nat) (news : List Value) (hx : a.eval x = vx) (hrow : Row w vx size m news) (h1 : ∀ u ∈ news, u.oneCell' = true)
    (h63 : n + m ≤ maxLen) (hbytes : (n + m) * bytes ≤ 140737488355328) (hbase : base ≤ w.heap.size)
    (h : ∀ a' cap w', Appended base e size v n m xs news w (.slice a' (n + m) cap) w' → K (a.put o.dst (.slice a' (n + m) cap)) w') :
    if Region.wanted o (yielded ops a.tmps) = true then Oper.wp P o a w K Q else E := by
  have hw : Region.wanted o (yielded ops a.tmps) = true := by simp [Region.wanted, hgd]
  rw [if_pos hw]
  refine ag.wp_of_does (does_append s x t ho base e i z size bytes ht hi hz hsize hby hzs hsz v n xs hs hown vx m news hx hrow h1 h63 hbytes hbase (fun v' w' h => h)) ?_
  rintro v' w' hap
  obtain ⟨a', cap, rfl⟩ := hap.form
  exact h a' cap w' hap

abbrev TM : TypeId := 52
/-- the struct by value -/
abbrev lst (aO : Option Addr) (nO cO : Nat) (room : Int) (aT : Option Addr) (nT cT : Nat) (aU : Option Addr) (nU cU : Nat) (aF : Option Addr) (nF cF : Nat) : Value :=
  .agg #[.slice aO nO cO, .int .i64 room, .slice aT nT cT, .slice aU nU cU, .slice aF nF cF]
/-- the place of a stamp, or -1 -/
def placeF (L : List Int) (s : Int) : Int := if s ∈ L then (L.idxOf s : Int) else -1

set_option maxHeartbeats 400000 in
theorem at_any (aO : Option Addr) (L : List Int) (cO : Nat) (room : Int) (aT : Option Addr) (nT cT : Nat) (aU : Option Addr) (nU cU : Nat) (aF : Option Addr) (nF cF : Nat) (w : World)
    (hr : Row w (.slice aO L.length cO) 1 L.length (ints L)) (hm : L.length ≤ 1048576) (s : Int) :
    Calls Try.prog 27 #[lst aO L.length cO room aT nT cT aU nU cU aF nF cF, .int .i64 s] w fun e w' => e = .returned (.int .i64 (placeF L s)) ∧ Below w.heap.size w w' := by
  have HR := Lib.hid hr
  have hmi : (L.length : Int) ≤ 1048576 := by omega
  have hlo : (0 : Int) ≤ (L.length : Int) := by omega
  clear hr
  go_enter Try.func27, Try.ntmps27
  go_wp2
  obtain ⟨W, hW⟩ : ∃ W, w.alloc (.cells #[.slice aO L.length cO, .int .i64 room, .slice aT nT cT, .slice aU nU cU, .slice aF nF cF] TM) = W := ⟨_, rfl⟩
  have hB : Below w.heap.size w W := by rw [← hW]; exact (Below.refl _ _).alloc (Nat.le_refl _) _
  have g0 : W.cell? ⟨w.heap.size, 0, none⟩ = some (.slice aO L.length cO) := by rw [← hW]; exact cells_new w [_, _, _, _, _] _ 0
  have HW := Lib.hid (HR.out.later hB)
  have HB := Lib.hid hB
  rw [hW]
  clear hW hB HR
  go_loop [5] (fun i => ∃ k : Nat, i = .int .i64 (k : Int) ∧ k ≤ L.length ∧ Hid (∀ j, j < k → L[j]? ≠ some s)) (fun i => match i with | .int _ j => L.length - j.toNat | _ => 0)
  case atStart => exact ⟨0, rfl, Nat.zero_le _, Lib.hid (fun j hj => by omega)⟩
  case round =>
    obtain ⟨k, rfl, hk, HN⟩ := hrel
    have hd0 : (0 : Int) ≤ (k : Int) := by omega
    by_cases hkn : k < L.length
    · have hd1 : (k : Int) < (L.length : Int) := by omega
      obtain ⟨b, off, cap, ea, hc⟩ := HW.out.pos (by omega)
      simp only [Value.slice.injEq] at ea
      obtain ⟨rfl, -, rfl⟩ := ea
      have hu := List.getElem?_eq_getElem hkn
      have gk : W.cell? ⟨b, off + k, none⟩ = some (.int .i64 L[k]) := (hc k (by omega)).trans (by rw [List.getElem?_map, hu]; rfl)
      have HU := Lib.hid hu
      clear hu hc
      generalize L[k] = u at gk HU
      by_cases e : u = s
      · subst e
        have HP : Hid (placeF L u = (k : Int)) := Lib.hid (by
          unfold placeF
          rw [if_pos (List.mem_of_getElem? HU.out)]
          have h1 : L.idxOf u < L.length := List.idxOf_lt_length_of_mem (List.mem_of_getElem? HU.out)
          have h2 : L[L.idxOf u]? = some u := by rw [List.getElem?_eq_getElem h1, List.getElem_idxOf h1]
          have h3 : ¬ L.idxOf u < k := fun h => HN.out _ h h2
          have h4 : L.idxOf u ≤ k := by
            have := (List.getElem?_eq_some_iff.1 HU.out)
            exact Nat.le_of_not_lt fun h => by
              have := List.not_of_lt_findIdx (p := (· == u)) (xs := L) h
              simp at this
              exact this (List.getElem?_eq_some_iff.1 HU.out).2
          omega)
        have q : (u == u) = true := by simp
        go_wp2
        go_ret
        exact ⟨by rw [HP.out]; rfl, HB.out⟩
      · have q : (u == s) = false := by simpa using e
        go_wp2
        go_round
        case rel => exact ⟨k + 1, rfl, by omega, Lib.hid (fun j hj => by
          by_cases h : j < k
          · exact HN.out j h
          · obtain rfl : j = k := by omega
            rw [HU.out]; exact fun h => e (Option.some.inj h))⟩
        case measure => simp; omega
    · obtain rfl : k = L.length := by omega
      have HP : Hid (placeF L s = -1) := Lib.hid (by
        unfold placeF
        rw [if_neg]
        intro hm
        obtain ⟨j, hj⟩ := List.getElem?_of_mem hm
        exact HN.out j (List.getElem?_eq_some_iff.1 hj).1 hj)
      go_wp2
      go_ret
      exact ⟨by rw [HP.out]; rfl, HB.out⟩
end Go.Proofs.Ytbaepjjanjhliaa.ref02
