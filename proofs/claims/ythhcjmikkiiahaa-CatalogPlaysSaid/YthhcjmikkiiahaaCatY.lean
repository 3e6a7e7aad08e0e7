/- What a catalog keeps through the acts of a law. No program. -/
import Derived.Test.YthhcjmikkiiahaaCatX
namespace Go.Proofs.Ythhcjmikkiiahaa.cat
set_option linter.unusedVariables false
open Go.RowKit Go.WideShapes Go.MapKept
structure Ok (S : CatS) : Prop where
  nt : S.tn.Nodup
  nv : S.vn.Nodup
  cols : ∀ s ∈ S.tn, (S.tb s).1.length ≤ 10
  uses : ∀ s ∈ S.vn, (S.vu s).length ≤ 4
theorem Ok.no : Ok CatS.no := ⟨List.nodup_nil, List.nodup_nil, fun s hs => (by cases hs), fun s hs => (by cases hs)⟩
theorem nodup_add {l : List ByteArray} {k : ByteArray} (h : l.Nodup) (hk : k ∉ l) : (l ++ [k]).Nodup := by
  refine List.nodup_append.2 ⟨h, by simp, fun a ha b hb e => ?_⟩
  obtain rfl := List.mem_singleton.1 hb
  exact hk (e ▸ ha)
theorem not_in {l : List ByteArray} {k : ByteArray} (h : isIn k l = false) : k ∉ l := fun hm => by rw [isIn_yes hm] at h; cases h
theorem Ok.make {S : CatS} (h : Ok S) (k : ByteArray) (l : List Cn) (hl : l.length ≤ 10) : Ok (S.make k l) := by
  unfold CatS.make
  split
  · rename_i e0
    have hk : k ∉ S.tn := by
      refine not_in ?_
      cases e : isIn k S.tn with
      | false => rfl
      | true => unfold makeErr at e0; rw [e] at e0; simp at e0
    refine ⟨nodup_add h.nt hk, h.nv, fun s hs => ?_, h.uses⟩
    show (upd S.tb k (l, keyFrom l 0) s).1.length ≤ 10
    by_cases e : s = k
    · subst e; rw [upd_same]; exact hl
    · rw [upd_other _ _ e]
      rcases List.mem_append.1 hs with hs | hs
      · exact h.cols s hs
      · exact absurd (List.mem_singleton.1 hs) e
  · exact h
theorem Ok.view {S : CatS} (h : Ok S) (k : ByteArray) (us : List ByteArray) (hu : us.length ≤ 4) : Ok (S.view k us) := by
  unfold CatS.view
  split
  · rename_i e0
    have hk : k ∉ S.vn := by
      refine not_in ?_
      cases e : isIn k S.vn with
      | false => rfl
      | true => unfold viewErr at e0; rw [e] at e0; simp at e0
    refine ⟨h.nt, nodup_add h.nv hk, h.cols, fun s hs => ?_⟩
    show (upd S.vu k us s).length ≤ 4
    by_cases e : s = k
    · subst e; rw [upd_same]; exact hu
    · rw [upd_other _ _ e]
      rcases List.mem_append.1 hs with hs | hs
      · exact h.uses s hs
      · exact absurd (List.mem_singleton.1 hs) e
  · exact h
theorem Ok.drop {S : CatS} (h : Ok S) (k : ByteArray) : Ok (S.drop k) := by
  unfold CatS.drop
  split
  · exact ⟨h.nt.filter _, h.nv, fun s hs => h.cols s (mem_delN.1 hs).1, h.uses⟩
  · exact h
theorem Ok.dropView {S : CatS} (h : Ok S) (k : ByteArray) : Ok { S with vn := delN S.vn k } :=
  ⟨h.nt, h.nv.filter _, h.cols, fun s hs => h.uses s (mem_delN.1 hs).1⟩
theorem Ok.us {S : CatS} (h : Ok S) : ∀ s ∈ S.vn, (S.vu s).length ≤ 1000000 := fun s hs => Nat.le_trans (h.uses s hs) (by decide)
theorem Ok.cs {S : CatS} (h : Ok S) : ∀ s ∈ S.tn, (S.tb s).1.length ≤ 1000000 := fun s hs => Nat.le_trans (h.cols s hs) (by decide)
end Go.Proofs.Ythhcjmikkiiahaa.cat
