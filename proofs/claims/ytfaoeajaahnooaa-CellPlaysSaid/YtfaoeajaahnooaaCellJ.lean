/- A store of cells: how many watch in all, over the names that were used. -/
import Derived.Test.YtfaoeajaahnooaaCellI
namespace Go.Proofs.Ytfaoeajaahnooaa.cel
set_option linter.unusedVariables false
open Go.RowKit Go.WideShapes Go.MapKept

theorem insI_len {l : List Int} {x : Int} (h : x ∉ l) : (insI l x).length = l.length + 1 := by
  unfold insI
  rw [List.length_append, List.length_cons]
  have : ∀ l : List Int, x ∉ l → (l.filter (fun y => decide (y < x))).length + (l.filter (fun y => decide (x < y))).length = l.length := by
    intro l
    induction l with
    | nil => intro; rfl
    | cons a l ih =>
      intro hx
      have h1 := ih (fun h => hx (List.mem_cons_of_mem _ h))
      have h2 : a ≠ x := fun e => hx (e ▸ List.mem_cons_self ..)
      rcases Int.lt_or_gt_of_ne h2 with h3 | h3
      · have h4 : ¬ x < a := by omega
        simp [h3, h4]; omega
      · have h4 : ¬ a < x := by omega
        simp only [List.filter_cons, decide_eq_true_eq, h4, h3, if_false, if_true, List.length_cons]; omega
  have := this l h
  omega
theorem delI_insI {l : List Int} {x : Int} (h : x ∉ l) (hs : l.Pairwise (· < ·)) : delI (insI l x) x = l := by
  have h1 : (delI (insI l x) x).Pairwise (· < ·) := (insI_sorted hs x).filter _
  have h2 : ∀ j, j ∈ delI (insI l x) x ↔ j ∈ l := fun j => by
    rw [delI_mem, insI_mem]
    constructor
    · rintro ⟨h1, h2 | h2⟩
      · exact absurd h2 h1
      · exact h2
    · intro hj
      exact ⟨fun e => h (e ▸ hj), .inr hj⟩
  have hp : (delI (insI l x) x).Perm l := (List.perm_ext_iff_of_nodup (h1.imp fun h => by omega) (hs.imp fun h => by omega)).2 h2
  exact hp.eq_of_pairwise (le := fun a b => a < b) (fun a b _ _ h1 h2 => by omega) h1 hs
def tot (f : ByteArray → List Int) (ns : List ByteArray) : Int := (ns.map (fun s => ((f s).length : Int))).sum
theorem tot_same (f g : ByteArray → List Int) : ∀ ns : List ByteArray, (∀ s ∈ ns, f s = g s) → tot f ns = tot g ns := by
  intro ns h
  unfold tot
  rw [List.map_congr_left (fun s hs => by rw [h s hs])]
theorem tot_upd (f : ByteArray → List Int) (k : ByteArray) (l : List Int) : ∀ ns : List ByteArray, ns.Nodup → k ∈ ns → tot (upd f k l) ns = tot f ns - (f k).length + l.length := by
  intro ns
  induction ns with
  | nil => intro _ h; cases h
  | cons a ns ih =>
    intro hn hk
    obtain ⟨h1, h2⟩ := List.nodup_cons.1 hn
    have e1 : tot (upd f k l) (a :: ns) = ((upd f k l a).length : Int) + tot (upd f k l) ns := by unfold tot; simp
    have e2 : tot f (a :: ns) = ((f a).length : Int) + tot f ns := by unfold tot; simp
    rw [e1, e2]
    by_cases e : a = k
    · subst e
      rw [upd_same, tot_same (upd f a l) f ns (fun s hs => upd_other _ _ (fun e => h1 (e ▸ hs)))]
      omega
    · rw [upd_other _ _ e, ih h2 ((List.mem_cons.1 hk).resolve_left (fun h => e h.symm))]
      omega
theorem tot_snoc (f : ByteArray → List Int) (ns : List ByteArray) (k : ByteArray) : tot f (ns ++ [k]) = tot f ns + (f k).length := by
  unfold tot; simp
theorem tot_perm (f : ByteArray → List Int) {ns ms : List ByteArray} (h : ns.Perm ms) : tot f ns = tot f ms := by
  unfold tot
  induction h with
  | nil => rfl
  | cons x _ ih => simp only [List.map_cons, List.sum_cons, ih]
  | swap x y l => simp only [List.map_cons, List.sum_cons]; omega
  | trans _ _ ih1 ih2 => exact ih1.trans ih2
open Classical in
noncomputable def addN (ns : List ByteArray) (k : ByteArray) : List ByteArray := if k ∈ ns then ns else ns ++ [k]
theorem addN_mem (ns : List ByteArray) (k s : ByteArray) : s ∈ addN ns k ↔ s ∈ ns ∨ s = k := by
  unfold addN
  split
  · rename_i h
    exact ⟨.inl, fun h' => h'.elim id (fun e => e ▸ h)⟩
  · simp
theorem addN_nodup {ns : List ByteArray} (h : ns.Nodup) (k : ByteArray) : (addN ns k).Nodup := by
  unfold addN
  split
  · exact h
  · rename_i hk
    exact List.nodup_append.2 ⟨h, by simp, fun a ha b hb => by simp at hb; subst hb; exact fun e => hk (e ▸ ha)⟩
/-- only the names that were used have a text or watchers; the count is right -/
structure Inv (S : CS) (ns : List ByteArray) : Prop where
  nd : ns.Nodup
  wh : ∀ s, s ∉ ns → S.wh s = []
  n : S.n = tot S.wh ns
theorem Inv.no : Inv CS.no [] := ⟨List.nodup_nil, fun _ _ => rfl, rfl⟩
theorem Inv.add {S : CS} {ns : List ByteArray} (h : Inv S ns) (k : ByteArray) : Inv S (addN ns k) := by
  refine ⟨addN_nodup h.nd k, fun s hs => h.wh s (fun h' => hs ((addN_mem ..).2 (.inl h'))), ?_⟩
  unfold addN
  split
  · exact h.n
  · rename_i hk
    rw [tot_snoc, h.wh k hk, h.n]; simp
theorem Inv.text {S : CS} {ns : List ByteArray} (h : Inv S ns) (f : ByteArray → ByteArray) : Inv { S with tx := f } ns := ⟨h.nd, h.wh, h.n⟩
theorem Inv.watch {S : CS} {ns : List ByteArray} (h : Inv S ns) (k : ByteArray) (hk : k ∈ ns) (i : Int) (hi : i ∉ S.wh k) : Inv (S.watched k (insI (S.wh k) i) (S.n + 1)) ns := by
  refine ⟨h.nd, fun s hs => ?_, ?_⟩
  · show upd S.wh k _ s = []
    have e : s ≠ k := fun e => hs (by rw [e]; exact hk)
    rw [upd_other _ _ e]
    exact h.wh s hs
  · show S.n + 1 = tot (upd S.wh k _) ns
    rw [tot_upd _ _ _ ns h.nd hk, insI_len hi, h.n]
    omega
end Go.Proofs.Ytfaoeajaahnooaa.cel
