/- The document's catalog and the program's: one state; each act of the document's, as a law sees it. -/
import Derived.Test.YthhcjmikkiiahaaCatT
namespace Go.Proofs.Ythhcjmikkiiahaa.cat
set_option linter.unusedVariables false
open Go.RowKit Go.WideShapes Go.MapKept
/-- a catalog of the document's in memory -/
def RAt (W : World) (x : Value) (S : CatS) : Prop := ∃ (a : Option Addr) (n c : Nat) (a' : Option Addr) (n' c' : Nat) (ts : List TE) (vs : List RV), x = .agg #[.slice a n c, .slice a' n' c'] ∧ ts.map (·.nm) = S.tn ∧ vs.map (·.nm) = S.vn ∧ TsAt W a n c ts S.tb ∧ VsAt W a' n' c' vs S.vu ∧ W.ownsRow 0 TRt 3 (.slice a n c) n (tCells ts) ∧ W.ownsRow 0 TRv 2 (.slice a' n' c') n' (vCells vs)
theorem RAt.later {W W' : World} {x : Value} {S : CatS} (h : RAt W x S) (hb : Below W.heap.size W W') : RAt W' x S := by
  obtain ⟨a, n, c, a', n', c', ts, vs, h1, h2, h3, h4, h5, h6, h7⟩ := h
  exact ⟨a, n, c, a', n', c', ts, vs, h1, h2, h3, h4.later hb, h5.later hb, owns_below h6 hb, owns_below h7 hb⟩
theorem RAt.none (W : World) : RAt W (.agg #[.slice none 0 0, .slice none 0 0]) CatS.no :=
  ⟨Option.none, 0, 0, Option.none, 0, 0, [], [], rfl, rfl, rfl, ⟨rfl, by decide, Row.nil _ _ _ _, fun x hx => (by cases hx)⟩, ⟨rfl, by decide, Row.nil _ _ _ _, fun x hx => (by cases hx)⟩, ⟨rfl, .inl ⟨rfl, rfl⟩⟩, ⟨rfl, .inl ⟨rfl, rfl⟩⟩⟩
theorem make_err (S : CatS) (k : ByteArray) (l : List Cn) : rmakeErr S.tn S.vn k l = makeErr S k l := rfl
theorem usedBy_names {vs : List RV} {S : CatS} (h : vs.map (·.nm) = S.vn) (k : ByteArray) : usedBy vs S.vu k = S.vn.filter (fun s => isIn k (S.vu s)) := by unfold usedBy; rw [h]
theorem filter_users (S : CatS) (k : ByteArray) : (S.vn.map (fun s => s.data.toList)).filter (usersP S k) = (S.vn.filter (fun s => isIn k (S.vu s))).map (fun s => s.data.toList) := by
  rw [List.filter_map]
  congr 1
theorem users_len (S : CatS) (k : ByteArray) : (usersL S k).length = (S.vn.filter (fun s => isIn k (S.vu s))).length := by
  unfold usersL
  rw [List.length_mergeSort, filter_users, List.length_map]
theorem users_sort (S : CatS) (k : ByteArray) : (usersL S k).map bA = (S.vn.filter (fun s => isIn k (S.vu s))).foldl insB [] := by
  rw [fold_sort]
  unfold usersL sortB
  rw [filter_users]
/-- what an act of the document's leaves -/
def RPost (S' : CatS) (E : Int) (w : World) (e : Ending) (w' : World) : Prop := ∃ x', e = .returned (.tuple #[x', .int .i64 E]) ∧ RAt w' x' S' ∧ Below w.heap.size w w'
section
variable {w : World} {x : Value} {S : CatS}
theorem rmake_at (h : RAt w x S) (k : ByteArray) (la : Option Addr) (ln lc : Nat) (l : List Cn) (hln : l.length = ln) (hl1 : ln ≤ 1000000) (hrl : Row w (.slice la ln lc) 3 ln (cnCells l)) :
    Calls Try.prog 17 #[x, .string k, .slice la ln lc] w (RPost (S.make k l) (makeErr S k l) w) := by
  obtain ⟨a, n, c, a', n', c', ts, vs, rfl, h2, h3, h4, h5, h6, h7⟩ := h
  refine (rmake_any a a' n c n' c' ts vs S.tb S.vu k la ln lc l hln hl1 w hrl h4 h5 h6).mono ?_
  rintro e w' ⟨b, m, d, ts', he, g1, g2, g3, g4⟩
  rw [h2, h3, make_err] at he g1 g2
  refine ⟨_, he, ?_, g4⟩
  refine ⟨b, m, d, a', n', c', ts', vs, rfl, ?_, ?_, ?_, ?_, g3, owns_below h7 g4⟩
  · rw [g1]; unfold CatS.make; split <;> rfl
  · rw [h3]; unfold CatS.make; split <;> rfl
  · unfold CatS.make
    split
    · rename_i e0; rw [if_pos e0] at g2; exact g2
    · rename_i e0; rw [if_neg e0] at g2; exact g2
  · have e : (S.make k l).vu = S.vu := by unfold CatS.make; split <;> rfl
    rw [e]; exact h5.later g4
theorem radd_at (h : RAt w x S) (k : ByteArray) (ua : Option Addr) (un uc : Nat) (us : List ByteArray) (hun : us.length = un) (hu1 : un ≤ 1000000) (hru : Row w (.slice ua un uc) 1 un (us.map Value.string)) :
    Calls Try.prog 11 #[x, .agg #[.string k, .slice ua un uc]] w (RPost (S.view k us) (viewErr S k us) w) := by
  obtain ⟨a, n, c, a', n', c', ts, vs, rfl, h2, h3, h4, h5, h6, h7⟩ := h
  have he0 : raddErr S.tn S.vn k us = viewErr S k us := rfl
  have hv0 : S.view k us = if viewErr S k us = 0 then { S with vn := S.vn ++ [k], vu := upd S.vu k us } else S := rfl
  refine (radd_any a a' n c n' c' ts vs S.tb S.vu k ua un uc us hun hu1 w hru h4 h5 h7).mono ?_
  rintro e w' ⟨b, m, d, vs', he, g1, g2, g3, g4⟩
  rw [h2, h3, he0] at he g1 g2
  refine ⟨_, he, ?_, g4⟩
  rw [hv0]
  refine ⟨a, n, c, b, m, d, ts, vs', rfl, ?_, ?_, ?_, ?_, owns_below h6 g4, g3⟩
  · rw [h2]; split <;> rfl
  · rw [g1]; split <;> rfl
  · have e : (if viewErr S k us = 0 then ({ S with vn := S.vn ++ [k], vu := upd S.vu k us } : CatS) else S).tb = S.tb := by split <;> rfl
    rw [e]; exact h4.later g4
  · split
    · rename_i e0; rw [if_pos e0] at g2; exact g2
    · rename_i e0; rw [if_neg e0] at g2; exact g2
theorem rdrop_at (h : RAt w x S) (hnd : S.tn.Nodup) (k : ByteArray) :
    Calls Try.prog 9 #[x, .string k] w (RPost (S.drop k) (dropErr S k) w) := by
  obtain ⟨a, n, c, a', n', c', ts, vs, rfl, h2, h3, h4, h5, h6, h7⟩ := h
  refine (rdrop_any a a' n c n' c' ts vs S.tb S.vu k w h4 h5 h6 (by rw [h2]; exact hnd)).mono ?_
  have he0 : rdropErr S.tn k (usedBy vs S.vu k).length = dropErr S k := by unfold rdropErr dropErr; rw [users_len, usedBy_names h3]
  rintro e w' ⟨b, m, d, ts', he, g1, g2, g3, g4⟩
  rw [h2, he0] at he g1
  refine ⟨_, he, ?_, g4⟩
  refine ⟨b, m, d, a', n', c', ts', vs, rfl, ?_, ?_, ?_, ?_, g3, owns_below h7 g4⟩
  · rw [g1]; unfold CatS.drop; split <;> rfl
  · rw [h3]; unfold CatS.drop; split <;> rfl
  · have e : (S.drop k).tb = S.tb := by unfold CatS.drop; split <;> rfl
    rw [e]; exact g2
  · have e : (S.drop k).vu = S.vu := by unfold CatS.drop; split <;> rfl
    rw [e]; exact h5.later g4
theorem rdropV_at (h : RAt w x S) (hnd : S.vn.Nodup) (k : ByteArray) :
    Calls Try.prog 13 #[x, .string k] w (RPost { S with vn := delN S.vn k } (if isIn k S.vn then 0 else 6) w) := by
  obtain ⟨a, n, c, a', n', c', ts, vs, rfl, h2, h3, h4, h5, h6, h7⟩ := h
  refine (rdropV_any a a' n c n' c' ts vs S.tb S.vu k w h4 h5 h7 (by rw [h3]; exact hnd)).mono ?_
  have he0 : rdropErr S.vn k 0 = if isIn k S.vn then 0 else 6 := by unfold rdropErr; rfl
  rintro e w' ⟨b, m, d, vs', he, g1, g2, g3, g4⟩
  rw [h3, he0] at he g1
  refine ⟨_, he, ?_, g4⟩
  refine ⟨a, n, c, b, m, d, ts, vs', rfl, h2, ?_, h4.later g4, g2, owns_below h6 g4, g3⟩
  rw [g1]
  cases hk : isIn k S.vn with
  | true => rfl
  | false =>
    have hn : k ∉ S.vn := fun hm => by rw [isIn_yes hm] at hk; cases hk
    simp [delN_self hn]
theorem rusers_at (h : RAt w x S) (k : ByteArray) : Calls Try.prog 35 #[x, .string k] w (InsPost ((usersL S k).map bA) w) := by
  obtain ⟨a, n, c, a', n', c', ts, vs, rfl, h2, h3, h4, h5, h6, h7⟩ := h
  rw [users_sort, ← usedBy_names h3]
  exact rusers_any a a' n c n' c' vs S.vu k w h5
theorem rfind_at (h : RAt w x S) (k : ByteArray) : Calls Try.prog 34 #[x, .string k] w (FindPost S.tn k w) := by
  obtain ⟨a, n, c, a', n', c', ts, vs, rfl, h2, h3, h4, h5, h6, h7⟩ := h
  rw [← h2]
  exact find_any a a' n c n' c' ts h4.1 (by have := h4.2.1; omega) k w h4.2.2.1
def RNames (S : CatS) (w : World) (e : Ending) (w' : World) : Prop := ∃ va vb, e = .returned (.tuple #[va, vb]) ∧ w'.ownsRow 0 TK 1 va (sortB S.tn).length ((sortB S.tn).map Value.string) ∧ w'.ownsRow 0 TK 1 vb (sortB S.vn).length ((sortB S.vn).map Value.string) ∧ Below w.heap.size w w'
theorem rnames_at (h : RAt w x S) : Calls Try.prog 43 #[x] w (RNames S w) := by
  obtain ⟨a, n, c, a', n', c', ts, vs, rfl, h2, h3, h4, h5, h6, h7⟩ := h
  refine (rnames_any a a' n c n' c' ts vs S.tb S.vu w h4 h5).mono ?_
  rintro e w' ⟨va, vb, he, g1, g2, g3⟩
  have e1 : ts.length = (sortB S.tn).length := by rw [← fold_sort, fold_len, ← h2, List.length_map]
  have e2 : vs.length = (sortB S.vn).length := by rw [← fold_sort, fold_len, ← h3, List.length_map]
  rw [h2, fold_sort, e1] at g1
  rw [h3, fold_sort, e2] at g2
  exact ⟨va, vb, he, g1, g2, g3⟩
end
end Go.Proofs.Ythhcjmikkiiahaa.cat
