/- The list of stamps: All, for every loop body that leaves as it is whatever was there. -/
import Derived.Test.YtbaepjjanjhliaaOrderI
import Derived.Test.YtbaepjjanjhliaaRng
namespace Go.Proofs.Ytbaepjjanjhliaa.ord
set_option linter.unusedVariables false
open Go.RowKit Go.Shelf arK
attribute [local go_sem] Oper.semAt_some
/-- what is yielded -/
def allArgs (L : List Int) (k : Nat) : Array Value := #[.int .i64 ((L[k]?).getD 0)]
theorem idx_of {L : List Int} (h : L.Nodup) {j : Nat} {i : Int} (hi : L[j]? = some i) : L.idxOf i = j := by
  obtain ⟨hl, e⟩ := List.getElem?_eq_some_iff.1 hi
  have h1 : L.idxOf i < L.length := List.idxOf_lt_length_of_mem (List.mem_of_getElem? hi)
  have h2 : L[L.idxOf i]? = some i := by rw [List.getElem?_eq_getElem h1, List.getElem_idxOf h1]
  exact idx_inj h h2 hi
theorem next_less {s : Ar Lk} {L : List Int} (hk : Ok s L) {i x : Int} {j : Nat} (hi : L.idxOf i = j) (hj : j < L.length) (hx : x = (L[j + 1]?).getD (-1)) : L.length - L.idxOf x < L.length - L.idxOf i := by
  rw [hi, hx]
  cases h : L[j + 1]? with
  | some y => rw [Option.getD_some, idx_of hk.nodup h]; have := (List.getElem?_eq_some_iff.1 h).1; omega
  | none =>
    rw [Option.getD_none]
    have : L.idxOf (-1) = L.length := List.idxOf_eq_length (fun h => by have := hk.pos h; omega)
    omega
theorem LI.keep {own P : Nat → Prop} {bl b : Nat} {s : Ar Lk} {w w' : World} (h : LI own bl b s w) (ho : Only P w w') (hP : ∀ k, own k → ¬ P k) (hPl : ¬ P bl) : LI own bl b s w' := ⟨h.is.only ho hP, h.fl.only ho hPl, h.nown⟩
set_option maxHeartbeats 1000000 in
theorem all_in (n : Nat) (bl : Nat) (w : World) :
    CallsIn Fence.wide n Try.prog 33 #[.pointer (some ⟨bl, 0, none⟩)] w fun e w' => e = .returned (.func (.func 58) #[] #[.pointer (some ⟨w.heap.size, 0, none⟩)]) ∧ w' = w.alloc (.cells #[.pointer (some ⟨bl, 0, none⟩)] 49) := by
  refine callsIn_of_wp Try.func33 rfl trivial ?_ rfl
  simp only [Try.ntmps33, List.size_toArray, List.length_cons, List.length_nil, Nat.reduceAdd, Nat.reduceSub, Array.replicate_succ, Array.replicate_zero, List.push_toArray, List.append_toArray, List.nil_append, List.cons_append]
  gi_wp2
  go_ret
  exact ⟨rfl, rfl⟩
set_option maxRecDepth 100000 in
set_option maxHeartbeats 2000000 in
theorem all1_in (n : Nat) (hn : 1 ≤ n) (l Bs : Nat) (own : Nat → Prop) (bl b : Nat) (s : Ar Lk) (L : List Int) (hk : Ok s L) (J Jx : Nat → World → Prop) (P : Nat → Prop) (w W : World) (hW : Only P w W)
    (hP : ∀ k, own k → ¬ P k) (hPl : ¬ P bl) (hPB : ¬ P Bs)
    (hJ : AbidesFrom W.heap.size J)
    (hY : ∀ k W1, k < L.length → J k W1 → YieldAt Fence.wide (n - 1) Try.prog l (allArgs L k) W1 fun e W' =>
      (e = .returned (.bool true) ∧ J (k + 1) W' ∧ Only P W1 W') ∨ (e = .returned (.bool false) ∧ Jx (k + 1) W'))
    (hBs : w.cell? ⟨Bs, 0, none⟩ = some (.pointer (some ⟨bl, 0, none⟩))) (hI : LI own bl b s w) (h0 : J 0 W) :
    CallsIn Fence.wide n Try.prog 58 #[.func (.yield l) #[] #[], .pointer (some ⟨Bs, 0, none⟩)] W fun e W' => (∃ v, e = .returned v) ∧
      (J L.length W' ∨ ∃ k, k ≤ L.length ∧ Jx k W') := by
  have HBX := Lib.hid (fun (W' : World) (h : Only P w W') => (World.cell?_of_block (a := ⟨Bs, 0, none⟩) (h.block Bs (World.block_lt_of_cell? w ⟨Bs, 0, none⟩ hBs) hPB)).trans hBs)
  have HIX' := Lib.hid (fun (W' : World) (h : Only P w W') => LI.keep hI h hP hPl)
  have cB := HBX.out _ hW
  clear hP hPl hPB
  refine callsIn_of_wp Try.func58 rfl trivial ?_ rfl
  simp only [Try.ntmps58, List.size_toArray, List.length_cons, List.length_nil, Nat.reduceAdd, Nat.reduceSub, Array.replicate_succ, Array.replicate_zero, List.push_toArray, List.append_toArray, List.nil_append, List.cons_append]
  have HI := Lib.hid hI; have HJ := Lib.hid hJ; have HY := Lib.hid hY; have HK := Lib.hid hk; have HBS := Lib.hid hBs; have HW := Lib.hid hW
  clear hI hJ hY hk hBs hW
  gi_wp2
  gi_loopw [3] (fun i wr => ∃ j : Nat, i = .int .i64 ((L[j]?).getD (-1)) ∧ j ≤ L.length ∧ J j wr ∧ Hid (Only P w wr)) (fun i _ => match i with | .int _ j => L.length - L.idxOf j | _ => 0)
  case atStart => exact ⟨0, by rw [HK.out.head]; rfl, Nat.zero_le _, h0, HW⟩
  case round =>
    obtain ⟨j, rfl, hj, hJs, hB⟩ := hrel
    by_cases hjn : j < L.length
    · obtain ⟨i, hi⟩ : ∃ i, L[j]? = some i := ⟨_, List.getElem?_eq_getElem hjn⟩
      have hi0 := HK.out.pos (List.mem_of_getElem? hi)
      obtain ⟨fn, tmps, assign, body, hy, hR⟩ := HY.out _ _ hjn hJs
      rw [allArgs, hi, Option.getD_some] at hy
      rw [hi, Option.getD_some]
      have HR := Lib.hid hR
      have HIX := Lib.hid (idx_of HK.out.nodup hi)
      have HNX := Lib.hid (HK.out.nx j i hi)
      have HI2 := Lib.hid hi
      clear hR hi
      gi_wp2
      refine HR.out.mono ?_
      rintro e W3 (⟨rfl, hJ3, hB3⟩ | ⟨rfl, hJx3⟩)
      · have hB4 := hB.out.trans hB3 (fun _ _ h => h)
        have cB3 := HBX.out _ hB4
        have hL3 := HIX'.out _ hB4
        have c3 := hL3.cell
        have HG := Lib.hid ((callsIn_wide (n := n - 1)).2 (hL3.get i))
        clear hL3
        gi_wp2
        refine ⟨trivial, HG.out.mono ?_⟩
        rintro e W4 ⟨rfl, hb4⟩
        gi_wp2
        have hbY : Below W3.heap.size W3 (W4.alloc (.cells #[.int .i64 (getAt s i).p, .int .i64 (getAt s i).n, .int .i64 (getAt s i).t] TL)) := after hb4 ((Below.refl _ _).alloc (Nat.le_refl _) _) hb4.size
        go_roundw
        case rel => exact ⟨j + 1, by rw [HNX.out], by omega, HJ.out _ _ _ none hJ3 (grown_of_below hbY) (fun r h => by cases h), Lib.hid (hB4.trans (Only.of_below hbY) (fun _ _ h => h))⟩
        case measure => exact next_less HK.out HIX.out hjn HNX.out
      · gi_wp2
        refine bodyPost_end (results_none rfl _ _ _) rfl ?_
        exact ⟨⟨_, rfl⟩, .inr ⟨_, hjn, hJx3⟩⟩
    · obtain rfl : j = L.length := by omega
      rw [List.getElem?_eq_none (Nat.le_refl _), Option.getD_none]
      gi_wp2
      refine ⟨fun _ h => (by cases h), ?_⟩
      gi_wp2
      refine bodyPost_end (results_none rfl _ _ _) rfl ?_
      exact ⟨⟨_, rfl⟩, .inl hJs⟩
/-- The stamps, in the words of a range over a function. -/
theorem all_idx (n : Nat) (hn : 1 ≤ n) (Bs : Nat) (own : Nat → Prop) (bl b : Nat) (s : Ar Lk) (L : List Int) (hk : Ok s L) (w : World) (hBs : w.cell? ⟨Bs, 0, none⟩ = some (.pointer (some ⟨bl, 0, none⟩))) (hI : LI own bl b s w)
    (P : Nat → Prop) (hP : ∀ k, own k → ¬ P k) (hPl : ¬ P bl) (hPB : ¬ P Bs) :
    SeqIdx Fence.wide n Try.prog 58 #[.pointer (some ⟨Bs, 0, none⟩)] (allArgs L) (Only P) L.length w :=
  fun l J Jx W hW hJ hJx hY h0 => all1_in n hn l Bs own bl b s L hk J Jx P w W (Only.of_below hW) hP hPl hPB hJ hY hBs hI h0
end Go.Proofs.Ytbaepjjanjhliaa.ord
