/- The iterator over an arena's things, for every loop body that leaves the arena's own blocks as they are. -/
import Derived.Test.YtbaepjjanjhliaaArenaI
import Derived.Test.YtbaepjjanjhliaaRng
namespace Go.Proofs.Ytbaepjjanjhliaa.arI
set_option linter.unusedVariables false
open Go.RowKit Go.Shelf
attribute [local go_sem] Oper.semAt_some

/-- the places in use, from a place on -/
def usF : Nat → List (Bool × Int) → List (Nat × Int)
  | _, [] => []
  | i, p :: l => (if p.1 then [(i, p.2)] else []) ++ usF (i + 1) l
theorem usF_append : ∀ (i : Nat) (a b : List (Bool × Int)), usF i (a ++ b) = usF i a ++ usF (i + a.length) b
  | i, [], b => by simp [usF]
  | i, p :: a, b => by simp [usF, usF_append (i + 1) a b]; congr 1; omega
theorem usF_length : ∀ (i : Nat) (l : List (Bool × Int)), (usF i l).length = (l.filter (·.1)).length
  | i, [] => rfl
  | i, p :: l => by
    have ih := usF_length (i + 1) l
    obtain ⟨u, x⟩ := p
    cases u <;> simp [usF, ih]
theorem usF_take (l : List (Bool × Int)) (j : Nat) (u : Bool) (x : Int) (h : l[j]? = some (u, x)) : usF 0 (l.take (j + 1)) = usF 0 (l.take j) ++ (if u then [(j, x)] else []) ∧ ∃ r, usF 0 l = usF 0 (l.take (j + 1)) ++ r := by
  obtain ⟨hl, e⟩ := List.getElem?_eq_some_iff.1 h
  constructor
  · rw [List.take_succ_eq_append_getElem hl, usF_append, e]
    rw [List.length_take, Nat.min_eq_left (Nat.le_of_lt hl)]
    simp [usF]
  · exact ⟨usF (0 + (l.take (j + 1)).length) (l.drop (j + 1)), by rw [← usF_append, List.take_append_drop]⟩
/-- what is yielded: a place, a thing -/
def allArgs (s : Ar Int) (k : Nat) : Array Value := #[.int .i64 ((((usF 0 s.sl)[k]?.getD (0, 0)).1 : Nat) : Int), .int .i64 ((usF 0 s.sl)[k]?.getD (0, 0)).2]
/-- the blocks of 'own' are as they were -/
def Kp (own : Nat → Prop) (W W' : World) : Prop := ∀ g, own g → W'.heap[g]? = W.heap[g]?
theorem Kp.refl (own : Nat → Prop) (W : World) : Kp own W W := fun _ _ => rfl
theorem Kp.trans {own : Nat → Prop} {A B C : World} (h : Kp own A B) (h' : Kp own B C) : Kp own A C := fun g hg => (h' g hg).trans (h g hg)

set_option maxHeartbeats 1000000 in
theorem all_in (n : Nat) (b : Nat) (w : World) :
    CallsIn Fence.wide n Try.prog 21 #[.pointer (some ⟨b, 0, none⟩)] w fun e w' => e = .returned (.func (.func 48) #[] #[.pointer (some ⟨w.heap.size, 0, none⟩)]) ∧ w' = w.alloc (.cells #[.pointer (some ⟨b, 0, none⟩)] 24) := by
  refine callsIn_of_wp Try.func21 rfl trivial ?_ rfl
  simp only [Try.ntmps21, List.size_toArray, List.length_cons, List.length_nil, Nat.reduceAdd, Nat.reduceSub, Array.replicate_succ, Array.replicate_zero, List.push_toArray, List.append_toArray, List.nil_append, List.cons_append]
  gi_wp2
  go_ret
  exact ⟨rfl, rfl⟩

set_option maxRecDepth 100000 in
set_option maxHeartbeats 2000000 in
theorem all1_in (n : Nat) (hn : 1 ≤ n) (l Bs : Nat) (own : Nat → Prop) (b : Nat) (s : Ar Int) (J Jx : Nat → World → Prop) (W : World)
    (hJ : AbidesFrom W.heap.size J)
    (hY : ∀ k W1, k < (usF 0 s.sl).length → J k W1 → YieldAt Fence.wide (n - 1) Try.prog l (allArgs s k) W1 fun e W' =>
      (e = .returned (.bool true) ∧ J (k + 1) W' ∧ Kp own W1 W') ∨ (e = .returned (.bool false) ∧ Jx (k + 1) W'))
    (hBs : W.cell? ⟨Bs, 0, none⟩ = some (.pointer (some ⟨b, 0, none⟩))) (hI : Is own b s W) (h0 : J 0 W) :
    CallsIn Fence.wide n Try.prog 48 #[.func (.yield l) #[] #[], .pointer (some ⟨Bs, 0, none⟩)] W fun e W' => (∃ v, e = .returned v) ∧
      (J (usF 0 s.sl).length W' ∨ ∃ k, k ≤ (usF 0 s.sl).length ∧ Jx k W') := by
  obtain ⟨a1, c1, g1⟩ := hI.raw.sl
  have hm := hI.ok.many
  have hmi : (s.sl.length : Int) ≤ 1048576 := by omega
  have hlo : (0 : Int) ≤ (s.sl.length : Int) := by omega
  refine callsIn_of_wp Try.func48 rfl trivial ?_ rfl
  simp only [Try.ntmps48, List.size_toArray, List.length_cons, List.length_nil, Nat.reduceAdd, Nat.reduceSub, Array.replicate_succ, Array.replicate_zero, List.push_toArray, List.append_toArray, List.nil_append, List.cons_append]
  have HI := Lib.hid hI; have HJ := Lib.hid hJ; have HY := Lib.hid hY
  clear hI hJ hY
  gi_wp2
  gi_loopw [12] (fun i wr => ∃ j : Nat, i = .int .i64 (j : Int) ∧ j ≤ s.sl.length ∧ J (usF 0 (s.sl.take j)).length wr ∧ Kp own W wr) (fun i _ => match i with | .int _ j => s.sl.length - j.toNat | _ => 0)
  case atStart => exact ⟨0, rfl, Nat.zero_le _, by simpa [usF] using h0, Kp.refl _ _⟩
  case round =>
    obtain ⟨j, rfl, hj, hJs, hK⟩ := hrel
    by_cases hjn : j < s.sl.length
    · obtain ⟨g, c1', p, g1', gb, gx, -, hog, -, hx⟩ := HI.out.raw.slotAt hjn
      rw [g1] at g1'
      simp only [Option.some.injEq, Value.slice.injEq] at g1'
      obtain ⟨rfl, -, rfl⟩ := g1'
      have gb' := (World.cell?_of_block (a := ⟨g, j * 2, none⟩) (hK g hog)).trans gb
      have gx' := (World.cell?_of_block (a := ⟨g, j * 2 + 1, none⟩) (hK g hog)).trans gx
      have hKa : ∀ o, Kp own wr (wr.alloc o) := fun o g hg => (World.grownBy_alloc wr o none).block g (by
        have h1 := HI.out.lt g hg
        have h2 := hK g hg
        rw [Array.getElem?_eq_getElem h1] at h2
        exact (Array.getElem?_eq_some_iff.1 h2).1) (by simp)
      have hd1 : (j : Int) < (s.sl.length : Int) := by omega
      have hd2 : (0 : Int) ≤ (j : Int) := by omega
      obtain ⟨u, x⟩ := p
      cases u
      · gi_wp2
        refine ⟨fun _ h => (by cases h), ?_⟩
        gi_wp2
        go_roundw
        case rel =>
          obtain ⟨ht, -⟩ := usF_take s.sl j false x hx
          exact ⟨j + 1, rfl, by omega, by rw [ht]; simpa using HJ.out _ _ (wr.alloc (.cells #[.bool false, .int .i64 x] 84)) none hJs (World.grownBy_alloc wr _ none) (fun r h => by cases h), hK.trans (hKa _)⟩
        case measure => simp; omega
      · have hjs1 := HJ.out _ _ (wr.alloc (.cells #[.bool true, .int .i64 x] 84)) none hJs (World.grownBy_alloc wr _ none) (fun r h => by cases h)
        obtain ⟨ht, r, hr⟩ := usF_take s.sl j true x hx
        have hk : (usF 0 (s.sl.take j)).length < (usF 0 s.sl).length := by rw [hr, ht]; simp
        have hit : (usF 0 s.sl)[(usF 0 (s.sl.take j)).length]?.getD (0, 0) = (j, x) := by rw [hr, ht]; simp [List.append_assoc]
        obtain ⟨fn, tmps, assign, body, hy, hR⟩ := HY.out _ _ hk hjs1
        rw [allArgs, hit] at hy
        have HR := Lib.hid hR
        clear hR hr
        gi_wp2
        refine HR.out.mono ?_
        rintro e W3 (⟨rfl, hJ3, hK3⟩ | ⟨rfl, hJx3⟩)
        · gi_wp2
          go_roundw
          case rel => exact ⟨j + 1, rfl, by omega, by rw [ht]; simpa using hJ3, (hK.trans (hKa _)).trans hK3⟩
          case measure => simp; omega
        · gi_wp2
          refine bodyPost_ret (results_none rfl _ _ _) rfl ?_
          exact ⟨⟨_, rfl⟩, .inr ⟨_, hk, hJx3⟩⟩
    · obtain rfl : j = s.sl.length := by omega
      gi_wp2
      rw [List.take_length] at hJs
      exact bodyPost_end (results_none rfl _ _ _) rfl ⟨⟨_, rfl⟩, .inl hJs⟩

/-- The things of an arena, in the words of a range over a function. -/
theorem all_idx (n : Nat) (hn : 1 ≤ n) (Bs : Nat) (own : Nat → Prop) (b : Nat) (s : Ar Int) (w : World) (hBs : w.cell? ⟨Bs, 0, none⟩ = some (.pointer (some ⟨b, 0, none⟩))) (hI : Is own b s w) :
    SeqIdx Fence.wide n Try.prog 48 #[.pointer (some ⟨Bs, 0, none⟩)] (allArgs s) (Kp own) (usF 0 s.sl).length w :=
  fun l J Jx W hW hJ hJx hY h0 => all1_in n hn l Bs own b s J Jx W hJ hY (cell_later hW hBs) (hI.later hW) h0

end Go.Proofs.Ytbaepjjanjhliaa.arI
