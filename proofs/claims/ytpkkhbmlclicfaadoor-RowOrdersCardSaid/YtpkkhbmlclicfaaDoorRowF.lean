/- slices.SortFunc over rows, by the shelf's contract: what is left is a sorted one. -/
import Derived.Test.YtpkkhbmlclicfaaDoorRowO
import Derived.Test.YtpkkhbmlclicfaaDoorSortl
namespace Go.Proofs.YtpkkhbmlclicfaaDoor.val
set_option linter.unusedVariables false
open Go.RowKit

theorem only_sort {α : Type} [Inhabited α] (enc : α → Value) (w : World) (blk off m : Nat) (dk : Array α) (os : Array Go.Obj) : Only (fun k => k = blk) w (sortWorld enc w blk off m dk os) := by
  unfold sortWorld Go.Sort.grow
  refine ⟨rfl, rfl, rfl, ?_, fun k hk hne => ?_⟩
  · show w.heap.size ≤ ((Go.Sort.putRow enc (Go.Sort.ahead w m) blk off dk).heap ++ os).size
    rw [Array.size_append, size_putRow]
    exact Nat.le_add_right _ _
  · show ((Go.Sort.putRow enc (Go.Sort.ahead w m) blk off dk).heap ++ os)[k]? = _
    rw [Array.getElem?_append_left (by rw [size_putRow]; exact hk)]
    unfold Go.Sort.putRow Go.Sort.mapBlock
    rw [Array.getElem?_modify, if_neg (fun e => hne e.symm)]
    rfl

set_option maxRecDepth 100000 in
set_option maxHeartbeats 2000000 in
theorem sortf_any (B n : Nat) (v : Value) (vs : List Value) (ls : List (List V)) (w : World) (hn : vs.length = n) (h0 : 0 < n) (hn1 : n < 4611686018427387904) (hg : ∀ l ∈ ls, Goods l) (hl : ∀ l ∈ ls, l.length ≤ 1000000) (ho : w.ownsRow B 54 1 v n vs) (hr : Rwo B w vs ls) :
    Calls Tryd.prog 57 #[v, .func (.func 31) #[] #[]] w fun e w' => e = .returned (.tuple #[]) ∧ ∃ vs' ls', vs'.length = n ∧ Row w' v 1 n vs' ∧ Rwo B w' vs' ls' ∧ ls'.Perm ls ∧ SortedL ls' ∧ Only (fun k => v.ownBlock = some k) w w' := by
  obtain ⟨a, cap, rfl⟩ := owns_shape ho
  obtain ⟨g, rfl, hBg, hgl, hcell, hfz⟩ := owns_cellAt ho h0
  have hln : ls.length = n := by rw [← hr.1]; exact hn
  haveI : Inhabited (Fin n) := ⟨⟨0, h0⟩⟩
  obtain ⟨enc, henc⟩ : ∃ enc : Fin n → Value, enc = fun i => vs[i.1]'(by omega) := ⟨_, rfl⟩
  obtain ⟨lsf, hlsf⟩ : ∃ lsf : Fin n → List V, lsf = fun i => ls[i.1]'(by omega) := ⟨_, rfl⟩
  have hrow : ∀ i, w.ownsRow B TV 3 (enc i) (lsf i).length (vCells (lsf i)) := fun i => hr.2 i.1 _ _ (by rw [henc]; exact List.getElem?_eq_getElem _) (by rw [hlsf]; exact List.getElem?_eq_getElem _)
  have hmem : ∀ i, lsf i ∈ ls := fun i => by rw [hlsf]; exact List.getElem_mem _
  have hgi : ∀ i, Goods (lsf i) := fun i => hg _ (hmem i)
  have hlt : ∀ i j, ltOf (fun i j => cmpL (lsf i) (lsf j)) i j = beforeL (lsf i) (lsf j) := by
    intro i j
    show decide (cmpL (lsf i) (lsf j) < 0) = _
    rw [Bool.eq_iff_iff, decide_eq_true_eq]
    exact (cmpL_lt _ _ (hgi i) (hgi j)).1
  have hO : Go.Sort.SWO (ltOf (fun i j => cmpL (lsf i) (lsf j))) := ⟨fun i => by rw [hlt]; exact beforeL_self _, fun i j k h1 h2 => by rw [hlt] at *; exact beforeL_trans _ _ _ h1 h2, fun i j k h1 h2 => by rw [hlt] at *; exact le_trans' (hgi k) (hgi j) (hgi i) h2 h1⟩
  have h1c : ∀ i, (enc i).oneCell' = true := fun i => by
    obtain ⟨a, c, h⟩ := owns_shape (hrow i)
    rw [h]; rfl
  have hne : ∀ i, (enc i).ownBlock ≠ some g := fun i => by
    rcases owns_ne_owns (hrow i) ho (by decide) with h | h
    · rw [h]; simp
    · exact h
  have hd : ∀ j (h : j < n), (Array.ofFn (fun i : Fin n => i))[j]! = ⟨j, h⟩ := fun j h => by
    rw [getElem!_pos _ j (by simpa using h)]; simp
  have hH : Go.Sort.Holds enc w g 0 (Array.ofFn (fun i : Fin n => i)) := by
    intro j hj
    have hj' : j < n := by simpa using hj
    rw [hd j hj', Nat.zero_add, henc]
    exact ⟨by rw [hcell j (by omega), List.getElem?_eq_getElem (by omega)], hfz j⟩
  have hcmp : CmpLays1 Tryd.prog 31 #[] enc (fun i j => cmpL (lsf i) (lsf j)) g 0 (Array.ofFn (fun i : Fin n => i)).size w := by
    intro m os dk hs x y
    have hon := only_sort enc w g 0 m dk os
    have hx := (Row.of_owns (hrow x)).only hon (fun b hb e => hne x (by rw [hb, e]))
    have hy := (Row.of_owns (hrow y)).only hon (fun b hb e => hne y (by rw [hb, e]))
    refine (rcompare_any (enc x) (enc y) (lsf x) (lsf y) (by have := hl _ (hmem x); omega) (by have := hl _ (hmem y); omega) _ hx hy).mono ?_
    rintro e w' ⟨he, hgr⟩
    exact ⟨he, hgr.form⟩
  have eg : ∀ args w, (callFunc 31 args).run Tryd.prog w = .ok (.enter 31 args) w := enters_of Tryd.func31 (by kernel_rfl) rfl
  have hsz : (Array.ofFn (fun i : Fin n => i)).size = n := by simp
  have hcon := Any.slices_SortFunc Tryd.sortL enc h1c (fun i j => cmpL (lsf i) (lsf j)) hO 31 #[] g 0 cap (Array.ofFn (fun i : Fin n => i)) w eg hcmp hH hgl (by rw [hsz]; exact hn1)
  rw [hsz] at hcon
  change Calls Tryd.prog 57 _ _ _ at hcon
  refine hcon.mono ?_
  rintro e w' ⟨he, d', q, os, hp, hs, rfl⟩
  have hon := only_sort enc w g 0 q d' os
  have hds : d'.size = n := by rw [hp.1]; exact hsz
  have hh := (show SW enc w g 0 d' (sortWorld enc w g 0 q d' os) from ⟨q, os, rfl⟩).holds hgl hH hp.1
  have hperm : d'.toList.Perm (Array.ofFn (fun i : Fin n => i)).toList := by
    have h := hp.2.2
    have e1 : d'.extract 0 n = d' := by
      have h := Array.extract_size (xs := d')
      rwa [hds] at h
    have e2 : (Array.ofFn (fun i : Fin n => i)).extract 0 n = Array.ofFn (fun i : Fin n => i) := by
      have := Array.extract_size (xs := Array.ofFn (fun i : Fin n => i))
      rwa [hsz] at this
    rwa [e1, e2] at h
  have hls : (Array.ofFn (fun i : Fin n => i)).toList.map lsf = ls := by
    apply List.ext_getElem
    · simp [hln]
    · intro j h1 h2
      simp [hlsf]
  refine ⟨he, d'.toList.map enc, d'.toList.map lsf, by simp [hds], ?_, ⟨by simp, ?_⟩, ?_, ?_, hon.mono (fun k _ e => by rw [e]; rfl)⟩
  · refine ⟨_, _, rfl, by simp [hds], .inr ⟨g, 0, rfl, fun j hj => ?_⟩⟩
    have hj' : j < d'.size := by omega
    rw [(hh j hj').1, getElem!_pos d' j hj', List.getElem?_map, List.getElem?_eq_getElem (by simpa using hj')]
    simp
  · intro j u l h1 h2
    rw [List.getElem?_map] at h1 h2
    obtain ⟨i, hi, rfl⟩ := Option.map_eq_some_iff.1 h1
    obtain ⟨i', hi', rfl⟩ := Option.map_eq_some_iff.1 h2
    rw [hi] at hi'
    cases hi'
    exact (hrow i).kept (row := some g) ⟨hon.os, hon.tape, hon.output, hon.size, fun k hk hne => hon.block k hk (fun e => hne (by rw [e]))⟩ (.inr (hne i))
  · have := hperm.map lsf
    rwa [hls] at this
  · unfold SortedL
    rw [List.pairwise_map, List.pairwise_iff_getElem]
    intro i j hi hj hij
    have hi' : i < d'.size := by simpa using hi
    have hj' : j < d'.size := by simpa using hj
    have h := hs i j (Nat.zero_le _) hij (by omega)
    rw [getElem!_pos d' i hi', getElem!_pos d' j hj', hlt] at h
    simpa using h
end Go.Proofs.YtpkkhbmlclicfaaDoor.val
