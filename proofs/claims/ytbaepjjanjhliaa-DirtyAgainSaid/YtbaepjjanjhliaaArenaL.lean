/- The first test of the laws on arenas: a place that is used again. -/
import Derived.Test.YtbaepjjanjhliaaArenaS
import Derived.Test.YtbaepjjanjhliaaArenaI
namespace Go.Proofs.Ytbaepjjanjhliaa
set_option linter.unusedVariables false
open Go.RowKit

abbrev tA : ByteArray := ⟨#[97]⟩
abbrev tB : ByteArray := ⟨#[98]⟩
abbrev tC : ByteArray := ⟨#[99]⟩
abbrev tD : ByteArray := ⟨#[100]⟩

set_option maxRecDepth 100000 in
set_option maxHeartbeats 1000000 in
theorem arena_speaks (w : World) :
    Calls Try.prog 9 #[] w fun e w' => e = .returned (.bool true) ∧ Below w.heap.size w w' := by
  have e1 : ({ room := min (max 2 0) 1048576, sl := [], fr := [] } : Ar ByteArray).alloc tA = ({ room := 2, sl := [(true, tA)], fr := [] }, 0, true) := rfl
  have e2 : ({ room := 2, sl := [(true, tA)], fr := [] } : Ar ByteArray).alloc tB = ({ room := 2, sl := [(true, tA), (true, tB)], fr := [] }, 1, true) := rfl
  have e3 : ({ room := 2, sl := [(true, tA), (true, tB)], fr := [] } : Ar ByteArray).alloc tC = ({ room := 2, sl := [(true, tA), (true, tB)], fr := [] }, 0, false) := rfl
  have e4 : ({ room := 2, sl := [(true, tA), (true, tB)], fr := [] } : Ar ByteArray).has 0 = true := rfl
  have e5 : ({ room := 2, sl := [(true, tA), (true, tB)], fr := [] } : Ar ByteArray).free ⟨#[]⟩ 0 = { room := 2, sl := [(false, ⟨#[]⟩), (true, tB)], fr := [0] } := rfl
  have e6 : ({ room := 2, sl := [(false, ⟨#[]⟩), (true, tB)], fr := [0] } : Ar ByteArray).alloc tD = ({ room := 2, sl := [(true, tD), (true, tB)], fr := [] }, 0, true) := rfl
  have e7 : ({ room := 2, sl := [(true, tD), (true, tB)], fr := [] } : Ar ByteArray).has 0 = true := rfl
  have e8 : arS.getAt ({ room := 2, sl := [(true, tD), (true, tB)], fr := [] } : Ar ByteArray) 0 = tD := rfl
  have e9 : ({ room := 2, sl := [(true, tD), (true, tB)], fr := [] } : Ar ByteArray).live = 2 := rfl
  have E1 := Lib.hid e1; have E2 := Lib.hid e2; have E3 := Lib.hid e3; have E4 := Lib.hid e4; have E5 := Lib.hid e5; have E6 := Lib.hid e6; have E7 := Lib.hid e7; have E8 := Lib.hid e8; have E9 := Lib.hid e9
  clear e1 e2 e3 e4 e5 e6 e7 e8 e9
  go_enter Try.func9, Try.ntmps9
  go_wp2_with (first
    | (go_at_call 42; refine (arS.Held.made (Below.refl _ w) 2).mono ?_; rintro e w1 ⟨rfl, h1, -⟩)
    | (go_at_call 43; with_reducible refine (h1.alloc E1.out).mono ?_; rintro e w2 ⟨rfl, h2⟩)
    | (go_at_call 43; with_reducible refine (h2.alloc E2.out).mono ?_; rintro e w3 ⟨rfl, h3⟩)
    | (go_at_call 43; with_reducible refine (h3.alloc E3.out).mono ?_; rintro e w4 ⟨rfl, h4⟩)
    | (go_at_call 44; with_reducible refine (h4.free 0).mono ?_; rintro e w5 ⟨rfl, h5⟩; rw [E4.out, if_pos rfl, E5.out] at h5; rw [E4.out])
    | (go_at_call 43; with_reducible refine (h5.alloc E6.out).mono ?_; rintro e w6 ⟨rfl, h6⟩)
    | (go_at_call 45; with_reducible refine (h6.get 0).mono ?_; rintro e w7 ⟨rfl, rfl⟩; rw [E7.out, E8.out]; skip)
    | (go_at_call 46; with_reducible refine h6.live.mono ?_; rintro e w8 ⟨rfl, n8, rfl⟩; rw [E9.out]))
  go_ret
  exact ⟨rfl, below_drewN h6.below n8⟩

end Go.Proofs.Ytbaepjjanjhliaa
