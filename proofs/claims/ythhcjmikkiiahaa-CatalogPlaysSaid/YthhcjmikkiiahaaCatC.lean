/- What a catalog calls: copies of lists, a name among names, a column by its name; walked. -/
import Derived.Test.YthhcjmikkiiahaaCatB
import Derived.Lib.SliceRun
namespace Go.Proofs.Ythhcjmikkiiahaa.cat
set_option linter.unusedVariables false
open Go.RowKit Go.WideShapes Go.MapKept
theorem info_of {P : Program} {e : TypeId} {z : Value} {s b : Nat} (h : (P.info? e).map (fun i => (i.zero, i.size, i.bytes)) = some (some z, s, b)) : ∃ i, P.info? e = some i ∧ i.zero = some z ∧ i.size = s ∧ i.bytes = b := by
  cases h0 : P.info? e with
  | none => rw [h0] at h; cases h
  | some i =>
    rw [h0] at h
    simp only [Option.map_some, Option.some.injEq, Prod.mk.injEq] at h
    exact ⟨i, rfl, h.1, h.2.1, h.2.2⟩
theorem infoC : (Try.prog.info? TCo).map (fun i => (i.zero, i.size, i.bytes)) = some (some (.agg #[.string ⟨#[]⟩, .int .i64 0, .bool false]), 3, 32) := by kernel_rfl
theorem infoS : (Try.prog.info? TK).map (fun i => (i.zero, i.size, i.bytes)) = some (some (.string ⟨#[]⟩), 1, 16) := by kernel_rfl
/-- a copy of a list of columns, of names -/
def CopyOf (w : World) (size n : Nat) (xs : List Value) (en : Ending) (w' : World) : Prop := ∃ (a : Option Addr) (c : Nat), en = .returned (.slice a n c) ∧ adOk a = true ∧ Row w' (.slice a n c) size n xs ∧ (∀ b, (Value.slice a n c).ownBlock = some b → w.heap.size ≤ b ∧ b < w'.heap.size) ∧ n ≤ maxLen ∧ (a = none → n = 0 ∧ c = 0) ∧ Below w.heap.size w w'
theorem ok_of_owns {w : World} {B : Nat} {T : TypeId} {size n c m : Nat} {a : Option Addr} {xs : List Value} (h : w.ownsRow B T size (.slice a n c) m xs) : adOk a = true := by
  rcases h.2 with ⟨h1, -⟩ | ⟨g, cap, cur, h1, -⟩
  · simp only [Value.slice.injEq] at h1
    rw [h1.1]; rfl
  · simp only [Value.slice.injEq] at h1
    rw [h1.1]; rfl
theorem nil_of_owns {w : World} {B : Nat} {T : TypeId} {size n c m : Nat} {a : Option Addr} {xs : List Value} (h : w.ownsRow B T size (.slice a n c) m xs) (ha : a = none) : n = 0 ∧ c = 0 := by
  rcases h.2 with ⟨h1, -⟩ | ⟨g, cap, cur, h1, -⟩
  · simp only [Value.slice.injEq] at h1
    exact ⟨h1.2.1, h1.2.2⟩
  · simp only [Value.slice.injEq] at h1
    rw [ha] at h1; cases h1.1
theorem copy_done {w W1 w' : World} {T : TypeId} {size n c : Nat} {xs : List Value} {a : Option Addr} {v : Value} (hap : Appended w.heap.size T size v 0 n [] xs W1 (.slice a (0 + n) c) w') (hb : Below w.heap.size w W1) (hv : v.ownBlock = some w.heap.size) (hn : n ≤ maxLen) : CopyOf w size n xs (.returned (.slice a n c)) w' := by
  have ho := hap.own
  rw [Nat.zero_add, List.nil_append] at ho
  exact ⟨a, c, rfl, ok_of_owns ho, Row.of_owns ho, fun b e => ho.lt b e, hn, nil_of_owns ho, hb.grown hap.grown hb.size (fun k e => by rw [hv] at e; simp only [Option.some.injEq] at e; omega)⟩
set_option maxRecDepth 100000 in
set_option maxHeartbeats 2000000 in
theorem cloneC_any (a : Option Addr) (n c : Nat) (xs : List Cn) (hn : xs.length = n) (hn1 : n ≤ 1000000) (w : World) (hr : Row w (.slice a n c) 3 n (cnCells xs)) (hnil : a = none → n = 0 ∧ c = 0) :
    Calls Try.prog 39 #[.slice a n c] w (CopyOf w 3 n (cnCells xs)) := by
  obtain ⟨i0, hi, hz0, hz1, hz2⟩ := info_of infoC
  have HR := Lib.hid hr
  have HN := Lib.hid hn
  clear hr hn
  have hq := fun (w : World) => Lib.run_eql_slice_nil (P := Try.prog) w 45 TCo a n c 0 0 Try.underlying45
  cases a with
  | none =>
    obtain ⟨rfl, rfl⟩ := hnil rfl
    go_enter Try.func39, Try.ntmps39
    go_wp2_with fail
    go_ret
    exact ⟨none, 0, rfl, rfl, HR.out, (fun b hb => (by cases hb)), (by simp [maxLen]), (fun _ => ⟨rfl, rfl⟩), Below.refl _ _⟩
  | some p =>
    have hown : (w.alloc (.cells #[] TCo)).ownsRow w.heap.size TCo 3 (.slice (some ⟨w.heap.size, 0, none⟩) 0 0) 0 [] := owns_of_flds (Flds.new w TCo []) rfl (Nat.le_refl _) (by simp [maxLen])
    have hrw := HR.out.later ((Below.refl w.heap.size w).alloc (Nat.le_refl _) (.cells #[] TCo))
    have hone : ∀ u ∈ cnCells xs, u.oneCell' = true := by
      intro u hu
      unfold cnCells at hu
      obtain ⟨x, -, hx⟩ := List.mem_flatMap.1 hu
      simp only [List.mem_cons, List.not_mem_nil, or_false] at hx
      rcases hx with rfl | rfl | rfl <;> rfl
    have HO := Lib.hid (And.intro hown (And.intro hrw hone))
    clear hown hrw hone hnil
    go_enter Try.func39, Try.ntmps39
    go_wp2_with (at_builtin; refine wpList_append_row _ rfl (.tmp 5) (.tmp 6) 45 (by rfl) w.heap.size TCo i0 _ 3 32 Try.underlying45 hi hz0 hz1 hz2 rfl (by decide) (.slice (some ⟨w.heap.size, 0, none⟩) 0 0) 0 [] (by rfl) HO.out.1 (.slice (some p) n c) n (cnCells xs) (by rfl) HO.out.2.1 HO.out.2.2 (by simp only [maxLen]; omega) (by omega) (by rw [World.size_alloc]; omega) ?_; intro a9 c9 w9 hap; have HAP := Lib.hid hap; clear hap)
    go_ret
    exact copy_done HAP.out ((Below.refl _ _).alloc (Nat.le_refl _) _) rfl (by unfold maxLen; omega)
set_option maxRecDepth 100000 in
set_option maxHeartbeats 2000000 in
theorem cloneS_any (a : Option Addr) (n c : Nat) (xs : List ByteArray) (hn : xs.length = n) (hn1 : n ≤ 1000000) (w : World) (hr : Row w (.slice a n c) 1 n (xs.map Value.string)) (hnil : a = none → n = 0 ∧ c = 0) :
    Calls Try.prog 37 #[.slice a n c] w (CopyOf w 1 n (xs.map Value.string)) := by
  obtain ⟨i0, hi, hz0, hz1, hz2⟩ := info_of infoS
  have HR := Lib.hid hr
  have HN := Lib.hid hn
  clear hr hn
  have hq := fun (w : World) => Lib.run_eql_slice_nil (P := Try.prog) w 31 TK a n c 0 0 Try.underlying31
  cases a with
  | none =>
    obtain ⟨rfl, rfl⟩ := hnil rfl
    go_enter Try.func37, Try.ntmps37
    go_wp2_with fail
    go_ret
    exact ⟨none, 0, rfl, rfl, HR.out, (fun b hb => (by cases hb)), (by simp [maxLen]), (fun _ => ⟨rfl, rfl⟩), Below.refl _ _⟩
  | some p =>
    have hown : (w.alloc (.cells #[] TK)).ownsRow w.heap.size TK 1 (.slice (some ⟨w.heap.size, 0, none⟩) 0 0) 0 [] := owns_of_flds (Flds.new w TK []) rfl (Nat.le_refl _) (by simp [maxLen])
    have hrw := HR.out.later ((Below.refl w.heap.size w).alloc (Nat.le_refl _) (.cells #[] TK))
    have hone : ∀ u ∈ xs.map Value.string, u.oneCell' = true := by
      intro u hu
      obtain ⟨x, -, rfl⟩ := List.mem_map.1 hu
      rfl
    have HO := Lib.hid (And.intro hown (And.intro hrw hone))
    clear hown hrw hone hnil
    go_enter Try.func37, Try.ntmps37
    go_wp2_with (at_builtin; refine wpList_append_row _ rfl (.tmp 5) (.tmp 6) 31 (by rfl) w.heap.size TK i0 _ 1 16 Try.underlying31 hi hz0 hz1 hz2 rfl (by decide) (.slice (some ⟨w.heap.size, 0, none⟩) 0 0) 0 [] (by rfl) HO.out.1 (.slice (some p) n c) n (xs.map Value.string) (by rfl) HO.out.2.1 HO.out.2.2 (by simp only [maxLen]; omega) (by omega) (by rw [World.size_alloc]; omega) ?_; intro a9 c9 w9 hap; have HAP := Lib.hid hap; clear hap)
    go_ret
    exact copy_done HAP.out ((Below.refl _ _).alloc (Nat.le_refl _) _) rfl (by unfold maxLen; omega)
/-- a place of a name among names, or below 0 -/
def IdxOk (us : List ByteArray) (k : ByteArray) (r : Int) : Prop := decide (0 ≤ r) = isIn k us
set_option maxRecDepth 100000 in
set_option maxHeartbeats 2000000 in
theorem index_any (a : Option Addr) (n c : Nat) (us : List ByteArray) (hn : us.length = n) (hn1 : n ≤ 1000000) (k : ByteArray) (w : World) (hr : Row w (.slice a n c) 1 n (us.map Value.string)) :
    Calls Try.prog 72 #[.slice a n c, .string k] w fun en w' => ∃ r : Int, en = .returned (.int .i64 r) ∧ IdxOk us k r ∧ w' = w := by
  have HR := Lib.hid hr
  have HN := Lib.hid hn
  have n0 : (0 : Int) ≤ (n : Int) := by omega
  have n1 : (n : Int) ≤ 1000000 := by omega
  clear hr hn
  go_enter Try.func72, Try.ntmps72
  go_wp2_with fail
  go_loopw [8] (fun iv wr => ∃ j : Nat, iv = .int .i64 (j : Int) ∧ j ≤ n ∧ wr = w ∧ ∀ i, i < j → us[i]? ≠ some k) (fun iv _ => n - (intOf iv).toNat)
  case atStart => exact ⟨0, rfl, Nat.zero_le _, rfl, fun i hi => by omega⟩
  case round =>
    obtain ⟨j, rfl, hj, rfl, hno⟩ := hrel
    have j0 : (0 : Int) ≤ (j : Int) := by omega
    by_cases hjn : j < n
    · have dj : (j : Int) < (n : Int) := by omega
      have hju : j < us.length := by rw [HN.out]; exact hjn
      have hx := List.getElem?_eq_getElem hju
      generalize us[j] = x at hx
      obtain ⟨b, off, cap, e, hc⟩ := HR.out.pos (by omega)
      simp only [Value.slice.injEq] at e
      obtain ⟨rfl, -, rfl⟩ := e
      have hcj := hc j (by omega)
      rw [List.getElem?_map, hx] at hcj
      simp only [Option.map_some] at hcj
      have HX := Lib.hid hx
      have HNO := Lib.hid hno
      clear hc hx hno
      by_cases hxk : k = x
      · subst hxk
        have hb : (k.toList == k.toList) = true := by simp
        go_wp2_with fail
        go_ret
        exact ⟨_, rfl, (show decide (0 ≤ (j : Int)) = isIn k us by rw [isIn_yes (List.mem_of_getElem? HX.out)]; simp), rfl⟩
      · have hb : (k.toList == x.toList) = false := by
          cases e : k.toList == x.toList with
          | false => rfl
          | true =>
            exfalso
            apply hxk
            have := eq_of_beq e
            rw [Lib.toList_data, Lib.toList_data] at this
            exact ByteArray.ext (Array.toList_inj.1 this)
        go_wp2_with fail
        go_roundw
        case rel => exact ⟨j + 1, by go_num, by omega, by trivial, fun i hi => by
          rcases (by omega : i < j ∨ i = j) with h | rfl
          · exact HNO.out i h
          · rw [HX.out]; exact fun e => hxk (by simpa using e.symm)⟩
        case measure => simp [intOf]; omega
    · have dj : ¬ (j : Int) < (n : Int) := by omega
      have hin : isIn k us = false := isIn_no (fun hm => by
        obtain ⟨i, hi⟩ := List.getElem?_of_mem hm
        have hlt := (List.getElem?_eq_some_iff.1 hi).1
        exact hno i (by have := HN.out; omega) hi)
      go_wp2_with fail
      go_ret
      exact ⟨-1, rfl, (show decide ((0 : Int) ≤ -1) = isIn k us by rw [hin]; rfl), rfl⟩
set_option maxRecDepth 100000 in
set_option maxHeartbeats 400000 in
theorem contains_any (a : Option Addr) (n c : Nat) (us : List ByteArray) (hn : us.length = n) (hn1 : n ≤ 1000000) (k : ByteArray) (w : World) (hr : Row w (.slice a n c) 1 n (us.map Value.string)) :
    Calls Try.prog 48 #[.slice a n c, .string k] w fun en w' => en = .returned (.bool (isIn k us)) ∧ w' = w := by
  have HI := Lib.hid (index_any a n c us hn hn1 k w hr)
  clear hr hn
  go_enter Try.func48, Try.ntmps48
  go_wp2_with (go_at_call 72; refine HI.out.mono ?_; rintro ee w1 ⟨r, rfl, hd, rfl⟩)
  go_ret
  exact ⟨by unfold IdxOk at hd; rw [← hd]; rfl, rfl⟩
end Go.Proofs.Ythhcjmikkiiahaa.cat
