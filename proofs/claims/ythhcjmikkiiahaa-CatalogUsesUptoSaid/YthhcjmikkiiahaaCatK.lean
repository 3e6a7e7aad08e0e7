/- The law CatalogUses, walked. -/
import Derived.Test.YthhcjmikkiiahaaCatJ
import Derived.Lib.SlBytesRow
namespace Go.Proofs.Ythhcjmikkiiahaa.cat
set_option linter.unusedVariables false
open Go.RowKit Go.WideShapes Go.MapKept
/-- a view's name: v and a digit -/
def dN (i : Nat) : ByteArray := ⟨#[118, UInt8.ofNat (48 + i)]⟩
/-- a digit's byte -/
def dB (i : Nat) : ByteArray := ⟨#[UInt8.ofNat (48 + i)]⟩
theorem dN_cat (i : Nat) : (⟨#[118]⟩ : ByteArray) ++ dB i = dN i := by
  apply ByteArray.ext
  simp [dB, dN]
theorem dB_run (w : World) (i : Nat) (hi : i < 9) : (convert 63 9 (.slice (some ⟨w.heap.size, 0, none⟩) 1 1)).run Try.prog (w.alloc (.cells #[.int .u8 (48 + (i : Int))] 5)) = .ok (.string (dB i)) (w.alloc (.cells #[.int .u8 (48 + (i : Int))] 5)) := by
  have hb : Go.Lib.Bytes (w.alloc (.cells #[.int .u8 (48 + (i : Int))] 5)) w.heap.size 0 (dB i) := by
    intro j hj
    have hj0 : j = 0 := by
      have : (dB i).size = 1 := rfl
      omega
    subst hj0
    have hf := (Flds.new w 5 [.int .u8 (48 + (i : Int))]).cell 0
    rw [Nat.zero_add, hf]
    show some _ = some (Value.int .u8 (((UInt8.ofNat (48 + i)).toNat : Nat) : Int))
    rw [UInt8.toNat_ofNat']
    simp
    omega
  exact Go.Lib.run_convert_whole (P := Try.prog) (w.alloc (.cells #[.int .u8 (48 + (i : Int))] 5)) 63 5 9 Try.underlying63 Try.underlying5 Try.underlying9 w.heap.size 0 (dB i) hb 1
theorem dN_inj {i j : Nat} (hi : i < 9) (hj : j < 9) (h : dN i = dN j) : i = j := by
  unfold dN at h
  simp only [ByteArray.mk.injEq, Array.mk.injEq, List.cons.injEq, and_true, true_and] at h
  have h2 : (UInt8.ofNat (48 + i)).toNat = (UInt8.ofNat (48 + j)).toNat := by rw [h]
  simp only [UInt8.toNat_ofNat'] at h2
  omega
theorem dN_ne (i : Nat) : dN i ≠ nT := fun h => by
  unfold dN nT at h
  simp at h
def kC : List Cn := [⟨⟨#[107]⟩, 1, true⟩]
/-- the catalog with its first table, and with so many views of it -/
def uS : Nat → CatS
  | 0 => { CatS.no with tn := [nT], tb := upd CatS.no.tb nT (kC, 0) }
  | i + 1 => (uS i).addView (dN i) [nT, nT]
theorem uS_tn (i : Nat) : (uS i).tn = [nT] := by
  induction i with
  | zero => rfl
  | succ i ih => exact ih
theorem uS_vn (i : Nat) : (uS i).vn = (List.range i).map dN := by
  induction i with
  | zero => rfl
  | succ i ih =>
    rw [List.range_succ, List.map_append, ← ih]
    rfl
theorem uS_vu (i j : Nat) (hi : i ≤ 9) (hj : j < i) : (uS i).vu (dN j) = [nT, nT] := by
  induction i with
  | zero => omega
  | succ i ih =>
    show upd (uS i).vu (dN i) [nT, nT] (dN j) = _
    by_cases e : j = i
    · subst e; rw [upd_same]
    · rw [upd_other _ _ (fun h => e (dN_inj (by omega) (by omega) h))]
      exact ih (by omega) (by omega)
theorem uS_no (i : Nat) (hi : i < 9) : dN i ∉ (uS i).vn := by
  rw [uS_vn]
  intro h
  obtain ⟨j, hj, e⟩ := List.mem_map.1 h
  have := List.mem_range.1 hj
  have := dN_inj (by omega) hi e
  omega
theorem uS_make : makeErr CatS.no nT kC = 0 ∧ CatS.no.make nT kC = uS 0 := by
  have h : makeErr CatS.no nT kC = 0 := by
    unfold makeErr
    rw [if_neg (by decide), if_neg (by decide)]
    exact checkE_one _ (by decide) (by decide) rfl
  refine ⟨h, ?_⟩
  unfold CatS.make
  rw [h, if_pos rfl]
  rfl
theorem uS_view (i : Nat) (hi : i < 8) : viewErr (uS i) (dN i) [nT, nT] = 0 ∧ (uS i).view (dN i) [nT, nT] = uS (i + 1) := by
  have h : viewErr (uS i) (dN i) [nT, nT] = 0 := by
    unfold viewErr
    rw [uS_tn, isIn_no (uS_no i (by omega)), isIn_no (by simp; exact dN_ne i), if_neg (by decide), if_neg (by rw [uS_vn]; simp; omega), if_pos (by decide)]
  refine ⟨h, ?_⟩
  unfold CatS.view
  rw [h, if_pos rfl]
  rfl
/-- of n views the first i struck -/
def tS (n : Nat) : Nat → CatS
  | 0 => uS n
  | i + 1 => { tS n i with vn := delN (tS n i).vn (dN i) }
theorem tS_tn (n i : Nat) : (tS n i).tn = [nT] := by
  induction i with
  | zero => exact uS_tn n
  | succ i ih => exact ih
theorem tS_vu (n i : Nat) : (tS n i).vu = (uS n).vu := by
  induction i with
  | zero => rfl
  | succ i ih => exact ih
theorem tS_vn (n i : Nat) (hn : n ≤ 8) (hi : i ≤ n) : (tS n i).vn = ((List.range n).drop i).map dN := by
  induction i with
  | zero => rw [List.drop_zero]; exact uS_vn n
  | succ i ih =>
    show delN (tS n i).vn (dN i) = _
    rw [ih (by omega), List.drop_eq_getElem_cons (by simp; omega), List.map_cons]
    unfold delN
    rw [List.filter_cons, if_neg (by simp)]
    refine List.filter_eq_self.2 (fun y hy => ?_)
    obtain ⟨j, hj, rfl⟩ := List.mem_map.1 hy
    have h1 : j ∈ List.range n := List.mem_of_mem_drop hj
    have h2 := List.mem_range.1 h1
    obtain ⟨q, hq⟩ := List.getElem?_of_mem hj
    rw [List.getElem?_drop, List.getElem?_range (by have := (List.getElem?_eq_some_iff.1 hq).1; simp at this; omega)] at hq
    simp only [Option.some.injEq] at hq
    simp only [decide_eq_true_eq]
    intro e
    have := dN_inj (by omega) (by omega) e
    omega
theorem tS_us (n i : Nat) (hn : n ≤ 8) (hi : i ≤ n) : ∀ s ∈ (tS n i).vn, (tS n i).vu s = [nT, nT] := by
  intro s hs
  rw [tS_vn n i hn hi] at hs
  obtain ⟨j, hj, rfl⟩ := List.mem_map.1 hs
  have h2 := List.mem_range.1 (List.mem_of_mem_drop hj)
  rw [tS_vu]
  exact uS_vu n j (by omega) h2
theorem tS_users (n i : Nat) (hn : n ≤ 8) (hi : i ≤ n) : (usersL (tS n i) nT).length = n - i := by
  rw [usersL_len]
  have : ((tS n i).vn.map (fun s => s.data.toList)).filter (usersP (tS n i) nT) = (tS n i).vn.map (fun s => s.data.toList) := by
    refine List.filter_eq_self.2 (fun x hx => ?_)
    obtain ⟨s, hs, rfl⟩ := List.mem_map.1 hx
    unfold usersP
    rw [show bA s.data.toList = s from rfl, tS_us n i hn hi s hs]
    decide
  rw [this, List.length_map, tS_vn n i hn hi]
  simp
theorem tS_drop (n i : Nat) (hn : n ≤ 8) (hi : i < n) : dropErr (tS n i) nT = 15 ∧ (tS n i).drop nT = tS n i := by
  have h : dropErr (tS n i) nT = 15 := by
    unfold dropErr
    rw [tS_tn, if_pos (by decide), tS_users n i hn (by omega), if_pos (by omega)]
  refine ⟨h, ?_⟩
  unfold CatS.drop
  rw [h, if_neg (by decide)]
theorem tS_in (n i : Nat) (hn : n ≤ 8) (hi : i < n) : dN i ∈ (tS n i).vn := by
  rw [tS_vn n i hn (by omega), List.drop_eq_getElem_cons (by simp; omega), List.map_cons]
  simp
theorem tS_make (n i : Nat) (hn : n ≤ 8) (hi : i < n) : makeErr (tS n i) (dN i) [] = 7 ∧ (tS n i).make (dN i) [] = tS n i := by
  have h : makeErr (tS n i) (dN i) [] = 7 := by
    unfold makeErr
    rw [isIn_yes (tS_in n i hn hi), Bool.or_true, if_pos rfl]
  refine ⟨h, ?_⟩
  unfold CatS.make
  rw [h, if_neg (by decide)]
end Go.Proofs.Ythhcjmikkiiahaa.cat
