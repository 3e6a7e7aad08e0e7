/- How rows are shown, by both texts, walked. -/
import Derived.Test.YtpkkhbmlclicfaaDoorRowC
import Derived.Test.YtpkkhbmlclicfaaDoorValueJC
import Derived.Lib.ItoaLen
import Derived.Lib.Join
namespace Go.Proofs.YtpkkhbmlclicfaaDoor.val
set_option linter.unusedVariables false
open Go.RowKit

/-- a value as it is shown -/
def shS (v : V) : ByteArray := showV v.k v.n v.s
theorem shS_len {v : V} (h : Good v) : (shS v).size ≤ 200 := by
  cases v with | mk k n s =>
  unfold shS showV
  dsimp only
  have h0 : nullS.size = 4 := rfl
  have h1 : trueS.size = 4 := rfl
  have h2 : falseS.size = 5 := rfl
  split
  · omega
  · split
    · split <;> omega
    · split
      · rename_i h3 h4 h5
        unfold Good at h
        dsimp only at h
        have := Lib.itoa_length_le n (by omega) (by omega)
        rw [size_mk]; omega
      · unfold Good at h
        dsimp only at h
        rename_i h3 h4 h5
        have hk : ¬ k = 0 := fun e => h3 (.inr e)
        have h64 : s.size ≤ 64 := by omega
        rw [quote_dup, size_mk, List.length_cons, List.length_append]
        have hl : s.data.toList.length = s.size := by rw [← ByteArray.size_data]; simp
        have := dup_len s.data.toList
        simp; omega
/-- the shown values with what is between them -/
def joinB (l : List V) : List UInt8 := Lib.join ((l.map shS).map (·.data.toList)) [44, 32]
/-- a row as it is shown -/
def showR (l : List V) : ByteArray := ⟨(40 :: (joinB l ++ [41])).toArray⟩
theorem join_snoc (xs : List (List UInt8)) (x sep : List UInt8) : Lib.join (xs ++ [x]) sep = if xs = [] then x else Lib.join xs sep ++ (sep ++ x) := by
  cases xs with
  | nil => simp [Lib.join_one]
  | cons a r =>
    rw [if_neg (by simp), List.cons_append, Lib.join_cons, Lib.join_cons]
    simp [Lib.joinTail]
theorem joinB_take (l : List V) (k : Nat) (h : k < l.length) : joinB (l.take (k + 1)) = if k = 0 then (shS l[k]).data.toList else joinB (l.take k) ++ ([44, 32] ++ (shS l[k]).data.toList) := by
  unfold joinB
  rw [take_map_snoc shS l k h, List.map_append, List.map_singleton, join_snoc]
  by_cases hk : k = 0
  · subst hk; simp
  · have : ((l.take k).map shS).map (·.data.toList) ≠ [] := by
      have h0 : 0 < (((l.take k).map shS).map (·.data.toList)).length := by simp; omega
      intro e
      rw [e] at h0
      simp at h0
    rw [if_neg this, if_neg hk]
theorem joinB_len (l : List V) (h : ∀ v ∈ l, Good v) (k : Nat) (hk : k ≤ l.length) : (joinB (l.take k)).length ≤ k * 202 := by
  induction k with
  | zero => simp [joinB, Lib.join_nil]
  | succ k ih =>
    have h1 := ih (by omega)
    have h2 := shS_len (h l[k] (List.getElem_mem (by omega)))
    have h3 : (shS l[k]).data.toList.length = (shS l[k]).size := by rw [← ByteArray.size_data]; simp
    rw [joinB_take l k (by omega)]
    split
    · omega
    · simp only [List.length_append, List.length_cons, List.length_nil]; omega

set_option maxRecDepth 100000 in
set_option maxHeartbeats 2000000 in
theorem rwshow_any (v : Value) (l : List V) (hg : ∀ x ∈ l, Good x) (hrg : ∀ x ∈ l, -9223372036854775808 ≤ x.n ∧ x.n ≤ 9223372036854775807) (hm : l.length ≤ 1000000) (m : Int) (w : World) (hm0 : w.cell? ⟨gMax, 0, none⟩ = some (.int .i64 m)) (hp : Pow10 w) (hv : IsRow w v l) :
    Calls Tryd.prog 28 #[v] w fun e w' => e = .returned (.string (showR l)) ∧ Below w.heap.size w w' := by
  obtain ⟨i0, hi, hz0, hz1, hz2⟩ := info_parts infoStr
  have HV := Lib.hid hv
  have HG := Lib.hid hrg
  have HM := Lib.hid hm0
  have HP := Lib.hid hp
  have HLN := Lib.hid (joinB_len l hg l.length (Nat.le_refl _))
  obtain ⟨a, cap, rfl, -⟩ := hv
  have hn0 : (0 : Int) ≤ (l.length : Int) := by omega
  have hn1 : (l.length : Int) ≤ 1000000 := by omega
  clear hg hrg hm0 hp
  go_enter Tryd.func28, Tryd.ntmps28
  go_wp2_with (at_make; refine wpList_make_own _ rfl _ _ 70 rfl w.heap.size 9 i0 (.string ⟨#[]⟩) 1 Tryd.underlying70 hi hz0 hz1 .i64 .i64 _ l.length rfl rfl rfl (by rw [hz2]; omega) (by unfold maxLen; omega) (Nat.le_refl _) ?_; intro w0 hown0 hgrow0)
  have hB0 := below_grown hgrow0
  go_loopw [3, 11] (fun sv i wr => ∃ k : Nat, i = .int .i64 (k : Int) ∧ k ≤ l.length ∧ Hid (wr.ownsRow w.heap.size 9 1 sv k (((l.take k).map shS).map Value.string)) ∧ Hid (Below w.heap.size w wr)) (fun _ i _ => l.length - (intOf i).toNat)
  case atStart => exact ⟨0, rfl, by omega, Lib.hid hown0, Lib.hid hB0⟩
  case round =>
    obtain ⟨k, rfl, hk, HO, HB⟩ := hrel
    clear hown0 hgrow0 hB0
    have hd0 : (0 : Int) ≤ (k : Int) := by omega
    by_cases h1 : k < l.length
    · have d1 : (k : Int) < (l.length : Int) := by omega
      obtain ⟨b, off, cap', ea, hcell⟩ := (HV.out.later HB.out).pos (by omega)
      simp only [Value.slice.injEq] at ea
      obtain ⟨rfl, -, rfl⟩ := ea
      obtain ⟨c0, c1, c2⟩ := vCells_at l k _ (List.getElem?_eq_getElem h1)
      have g0 := (hcell (k * 3) (by omega)).trans c0
      have g1 := (hcell (k * 3 + 1) (by omega)).trans c1
      have g2 := (hcell (k * 3 + 2) (by omega)).trans c2
      rw [← Nat.add_assoc] at g1 g2
      have HGk := Lib.hid (HG.out _ (List.getElem_mem h1))
      have HT := Lib.hid (take_map_snoc shS l k h1)
      generalize l[k] = x at *
      obtain ⟨xk, xn, xs⟩ := x
      dsimp only at g0 g1 g2
      clear hcell c0 c1 c2
      have HS := Lib.hid (fun W (hb : Below wr.heap.size wr W) => show_any xk xn xs HGk.out m W (cell_later (HB.out.trans (hb.mono HB.out.size)) HM.out) (pow10_later HP.out (HB.out.trans (hb.mono HB.out.size))))
      go_wp2_with (first | (go_at_call 18; (with_reducible refine (HS.out _ (below_alloc1 _ _)).mono ?_); rintro e w1 ⟨rfl, hb1⟩; have hown1 := owns_below (HO.out.alloc _) hb1) | (at_builtin; refine wpList_append_own _ rfl _ _ 70 rfl w.heap.size 9 i0 (.string ⟨#[]⟩) 1 16 Tryd.underlying70 hi hz0 hz1 hz2 rfl (by decide) _ _ _ rfl (hown1.alloc _) ⟨w1.heap.size, 0, none⟩ 1 1 [.string (shS ⟨xk, xn, xs⟩)] rfl rfl (cell_one_new _ _ _) ?c2 ?c3 ?c4 ?c5 ?_))
      case c2 => intro u hu; simp at hu; subst hu; rfl
      case c3 => unfold maxLen; omega
      case c4 => omega
      case c5 => have := hb1.size; have := HB.out.size; simp only [World.size_alloc] at *; omega
      intro v' w2 hown' hgrow _
      have hB2 : Below w.heap.size w w2 := (((HB.out.alloc (by have := HB.out.size; omega) _).trans (hb1.mono (by have := HB.out.size; simp only [World.size_alloc]; omega))).alloc (by have := hb1.size; have := HB.out.size; simp only [World.size_alloc] at *; omega) _).grown hgrow (by have := hb1.size; have := HB.out.size; simp only [World.size_alloc] at *; omega) (fun k hk => (hown1.lt k hk).1)
      have HO2 := Lib.hid hown'
      have HB2 := Lib.hid hB2
      clear hown1 hown' hgrow hb1 hB2
      go_wp2
      go_roundw
      case rel => exact ⟨k + 1, by go_num, by omega, Lib.hid (by rw [HT.out, List.map_append]; simpa using HO2.out), HB2⟩
      case measure => simp [intOf]; omega
    · have d1 : ¬ (k : Int) < (l.length : Int) := by omega
      have hk2 : k = l.length := by omega
      subst hk2
      have hown := HO.out
      rw [List.take_length] at hown
      have HJ : Hid (∀ W, Below wr.heap.size wr W → ∀ v, v = u3 → Calls Tryd.prog 54 #[v, .string ⟨#[44, 32]⟩] W fun e w' => e = .returned (.string ⟨(joinB l).toArray⟩) ∧ Below W.heap.size W w') := Lib.hid (by
        rintro W hb v rfl
        have hr := (Row.of_owns hown).later hb
        by_cases h0 : l.length = 0
        · obtain ⟨a, cap, rfl⟩ := owns_shape hown
          have hl : l = [] := List.length_eq_zero_iff.1 h0
          subst hl
          refine (Tryd.strings_Join_none a cap ⟨#[44, 32]⟩ W).mono ?_
          rintro e w' ⟨he, rfl⟩
          exact ⟨he, Below.refl _ _⟩
        · have hcp : ∃ g cap, v = .slice (some ⟨g, 0, none⟩) l.length cap ∧ l.length ≤ cap := by
            rcases hown.2 with ⟨rfl, h⟩ | ⟨g, cap, cur, rfl, _, _, hnc, _⟩
            · exact absurd h h0
            · exact ⟨g, cap, rfl, hnc⟩
          obtain ⟨g, cap, rfl, hcap⟩ := hcp
          obtain ⟨b, off, cap', ea, hcell⟩ := hr.pos (by omega)
          simp only [Value.slice.injEq, Option.some.injEq, Addr.mk.injEq] at ea
          obtain ⟨⟨rfl, rfl, -⟩, -, rfl⟩ := ea
          have hlt : g < W.heap.size := by
            have h := hcell 0 (by omega)
            rw [List.getElem?_eq_getElem (by simp; omega)] at h
            exact World.block_lt_of_cell? W _ h
          have hj := Tryd.strings_Join g 0 cap (l.map shS) ⟨#[44, 32]⟩ W (fun j x hx => by
            have hj : j < l.length := by have := (List.getElem?_eq_some_iff.1 hx).1; simpa using this
            have h := hcell j (by omega)
            rw [List.getElem?_map, hx] at h
            exact h) hlt (by rw [List.length_map]; omega) (by rw [List.length_map]; exact hcap) (by
              have := HLN.out
              rw [List.take_length] at this
              show (joinB l).length ≤ _
              omega)
          rw [List.length_map] at hj
          exact hj)
      have hjl : (joinB l).length ≤ 202000000 := by have := HLN.out; rw [List.take_length] at this; omega
      go_wp2_with (go_at_call 54; (with_reducible refine (HJ.out _ (Below.refl _ _) _ rfl).mono ?_); rintro e w1 ⟨rfl, hb1⟩; have HB1 := Lib.hid hb1; clear hb1)
      go_ret
      refine ⟨ret_str ?_, HB.out.trans (HB1.out.mono HB.out.size)⟩
      apply bytes_data
      simp [showR]

/-- what has been shown ahead of the k-th value -/
def showA (l : List V) (k : Nat) : ByteArray := ⟨(40 :: joinB (l.take k)).toArray⟩
theorem showA_size (l : List V) (h : ∀ v ∈ l, Good v) (k : Nat) (hk : k ≤ l.length) : (showA l k).size ≤ 1 + k * 202 := by
  have := joinB_len l h k hk
  unfold showA
  rw [size_mk, List.length_cons]; omega
theorem showA_zero (l : List V) : showA l 0 = ⟨#[40]⟩ := rfl
theorem showA_one (l : List V) (h : 0 < l.length) : showA l 1 = showA l 0 ++ shS l[0] := by
  apply bytes_data
  unfold showA
  rw [joinB_take l 0 h]
  simp [joinB, Lib.join_nil]
theorem showA_step (l : List V) (k : Nat) (h : k < l.length) (h0 : k ≠ 0) : showA l (k + 1) = showA l k ++ ⟨#[44, 32]⟩ ++ shS l[k] := by
  apply bytes_data
  unfold showA
  rw [joinB_take l k h, if_neg h0]
  simp
theorem showA_end (l : List V) : showR l = showA l l.length ++ ⟨#[41]⟩ := by
  apply bytes_data
  unfold showA showR
  rw [List.take_length]
  simp
set_option maxRecDepth 100000 in
set_option maxHeartbeats 2000000 in
theorem refshow_any (v : Value) (l : List V) (hg : ∀ x ∈ l, Good x) (hrg : ∀ x ∈ l, -9223372036854775808 ≤ x.n ∧ x.n ≤ 9223372036854775807) (hm : l.length ≤ 1000000) (w : World) (hv : IsRow w v l) :
    Calls Tryd.prog 29 #[v] w fun e w' => e = .returned (.string (showR l)) ∧ Below w.heap.size w w' := by
  have HV := Lib.hid hv
  have HG := Lib.hid hrg
  have HGG := Lib.hid hg
  obtain ⟨a, cap, rfl, -⟩ := hv
  have hn0 : (0 : Int) ≤ (l.length : Int) := by omega
  have hn1 : (l.length : Int) ≤ 1000000 := by omega
  clear hg hrg
  go_enter Tryd.func29, Tryd.ntmps29
  go_wp2
  go_loopw [3, 4] (fun sv i wr => ∃ (k : Nat) (A : ByteArray), i = .int .i64 (k : Int) ∧ k ≤ l.length ∧ sv = .string A ∧ Hid (A = showA l k) ∧ (A.size : Int) ≤ 1 + k * 202 ∧ Hid (Below w.heap.size w wr)) (fun _ i _ => l.length - (intOf i).toNat)
  case atStart => exact ⟨0, _, rfl, by omega, rfl, Lib.hid (showA_zero l).symm, by decide, Lib.hid (Below.refl _ _)⟩
  case round =>
    obtain ⟨k, A, rfl, hk, rfl, HA, hA, HB⟩ := hrel
    have hd0 : (0 : Int) ≤ (k : Int) := by omega
    by_cases h1 : k < l.length
    · have d1 : (k : Int) < (l.length : Int) := by omega
      obtain ⟨b, off, cap', ea, hcell⟩ := (HV.out.later HB.out).pos (by omega)
      simp only [Value.slice.injEq] at ea
      obtain ⟨rfl, -, rfl⟩ := ea
      obtain ⟨c0, c1, c2⟩ := vCells_at l k _ (List.getElem?_eq_getElem h1)
      have g0 := (hcell (k * 3) (by omega)).trans c0
      have g1 := (hcell (k * 3 + 1) (by omega)).trans c1
      have g2 := (hcell (k * 3 + 2) (by omega)).trans c2
      rw [← Nat.add_assoc] at g1 g2
      have HGk := Lib.hid (HG.out _ (List.getElem_mem h1))
      have hsz := shS_len (HGG.out _ (List.getElem_mem h1))
      have HZ := Lib.hid (showA_size l HGG.out (k + 1) (by omega))
      by_cases h0 : k = 0
      · subst h0
        have HT := Lib.hid (showA_one l h1)
        generalize l[0] = x at *
        obtain ⟨xk, xn, xs⟩ := x
        dsimp only at g0 g1 g2
        simp only [Nat.zero_mul, Nat.add_zero] at g0 g1 g2
        have HS := Lib.hid (fun W => rshow_any xk xn xs HGk.out W)
        have hsz' : ((showV xk xn xs).size : Int) ≤ 200 := by have : (showV xk xn xs).size ≤ 200 := hsz; omega
        clear hcell c0 c1 c2 hsz
        go_wp2_with (go_at_call 19; (with_reducible refine (HS.out _).mono ?_); rintro e w1 ⟨rfl, hb1⟩; have HB1 := Lib.hid hb1; clear hb1)
        go_roundw
        case rel => exact ⟨1, _, by go_num, by omega, rfl, Lib.hid (by rw [HT.out, HA.out]; rfl), by have := HZ.out; rw [HT.out, ← HA.out, show shS ⟨xk, xn, xs⟩ = showV xk xn xs from rfl] at this; omega, Lib.hid (HB.out.trans (HB1.out.mono HB.out.size))⟩
        case measure => simp [intOf]; omega
      · have d2 : (k : Int) > 0 := by omega
        have HT := Lib.hid (showA_step l k h1 h0)
        generalize l[k] = x at *
        obtain ⟨xk, xn, xs⟩ := x
        dsimp only at g0 g1 g2
        have HS := Lib.hid (fun W => rshow_any xk xn xs HGk.out W)
        have hsz' : ((showV xk xn xs).size : Int) ≤ 200 := by have : (showV xk xn xs).size ≤ 200 := hsz; omega
        clear hcell c0 c1 c2 hsz
        go_wp2_with (go_at_call 19; (with_reducible refine (HS.out _).mono ?_); rintro e w1 ⟨rfl, hb1⟩; have HB1 := Lib.hid hb1; clear hb1)
        go_roundw
        case rel => exact ⟨k + 1, _, by go_num, by omega, rfl, Lib.hid (by rw [HT.out, HA.out]; rfl), by have := HZ.out; rw [HT.out, ← HA.out, show shS ⟨xk, xn, xs⟩ = showV xk xn xs from rfl] at this; omega, Lib.hid (HB.out.trans (HB1.out.mono HB.out.size))⟩
        case measure => simp [intOf]; omega
    · have d1 : ¬ (k : Int) < (l.length : Int) := by omega
      have hk2 : k = l.length := by omega
      subst hk2
      go_wp2_with fail
      go_ret
      exact ⟨ret_str (by rw [showA_end, HA.out]), HB.out⟩
end Go.Proofs.YtpkkhbmlclicfaaDoor.val
