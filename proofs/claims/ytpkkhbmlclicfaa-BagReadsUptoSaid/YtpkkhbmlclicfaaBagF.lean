/- slices.SortFunc over rows with counts, by the shelf's contract: what is left is a sorted one. -/
import Derived.Test.YtpkkhbmlclicfaaMF
import Derived.Test.YtpkkhbmlclicfaaMG
import Derived.Test.YtpkkhbmlclicfaaSortk
namespace Go.Proofs.Ytpkkhbmlclicfaa.val
set_option linter.unusedVariables false
open Go.RowKit Go.Sort
abbrev TS : TypeId := 65
/-- the cells of rows with counts -/
def eCells (xs : List (Value × Nat)) : List Value := xs.flatMap fun x => [x.1, .int .i64 (x.2 : Int)]
theorem eCells_len (xs : List (Value × Nat)) : (eCells xs).length = xs.length * 2 := by
  induction xs with
  | nil => rfl
  | cons v l ih => simp only [eCells, List.flatMap_cons, List.length_append, List.length_cons, List.length_nil] at ih ⊢; omega
theorem eCells_cons (x : Value × Nat) (l : List (Value × Nat)) : eCells (x :: l) = x.1 :: .int .i64 (x.2 : Int) :: eCells l := rfl
theorem eCells_snoc (l : List (Value × Nat)) (x : Value × Nat) : eCells (l ++ [x]) = eCells l ++ [x.1, .int .i64 (x.2 : Int)] := by simp [eCells]
theorem eCells_append (l m : List (Value × Nat)) : eCells (l ++ m) = eCells l ++ eCells m := by simp [eCells]
theorem eCells_at : ∀ (l : List (Value × Nat)) (j : Nat) (x : Value × Nat), l[j]? = some x → (eCells l)[j * 2]? = some x.1 ∧ (eCells l)[j * 2 + 1]? = some (.int .i64 (x.2 : Int))
  | [], j, v, h => by simp at h
  | u :: l, 0, v, h => by simp at h; subst h; exact ⟨rfl, rfl⟩
  | u :: l, j + 1, v, h => by
    have := eCells_at l j v (by simpa using h)
    rw [eCells_cons, show (j + 1) * 2 = j * 2 + 1 + 1 by omega]
    exact this
/-- values that read as rows, with their counts -/
def Smx (W : World) (xs : List (Value × Nat)) (l : BL) : Prop := xs.length = l.length ∧ ∀ (j : Nat) x y, xs[j]? = some x → l[j]? = some y → x.2 = y.2 ∧ W.ownsRow 0 TV 3 x.1 y.1.length (vCells y.1)
theorem Smx.later {W W' : World} {xs : List (Value × Nat)} {l : BL} (h : Smx W xs l) (hb : Below W.heap.size W W') : Smx W' xs l := ⟨h.1, fun j x y h1 h2 => ⟨(h.2 j x y h1 h2).1, owns_below (h.2 j x y h1 h2).2 hb⟩⟩
theorem Smx.nil (W : World) : Smx W [] [] := ⟨rfl, fun j u l h => by simp at h⟩
theorem Smx.snoc {W : World} {xs : List (Value × Nat)} {l : BL} {u : Value} {r : List V} {c : Nat} (h : Smx W xs l) (hu : W.ownsRow 0 TV 3 u r.length (vCells r)) : Smx W (xs ++ [(u, c)]) (l ++ [(r, c)]) := by
  refine ⟨by rw [List.length_append, List.length_append, h.1]; rfl, fun j x y h1 h2 => ?_⟩
  rcases getElem?_snoc _ _ _ _ h1 with ⟨k1, e1⟩ | ⟨k1, e1⟩
  · rcases getElem?_snoc _ _ _ _ h2 with ⟨k2, e2⟩ | ⟨k2, e2⟩
    · exact h.2 j x y e1 e2
    · rw [k2, h.1] at k1; omega
  · rcases getElem?_snoc _ _ _ _ h2 with ⟨k2, e2⟩ | ⟨k2, e2⟩
    · rw [k1, h.1] at k2; omega
    · subst e1 e2; exact ⟨rfl, hu⟩
theorem Smx.kept {W W' : World} {row : Option Nat} {xs : List (Value × Nat)} {l : BL} (h : Smx W xs l) (hg : W.grownBy W' row) (hne : ∀ x ∈ xs, x.1.ownBlock = none ∨ x.1.ownBlock ≠ row) : Smx W' xs l :=
  ⟨h.1, fun j x y h1 h2 => ⟨(h.2 j x y h1 h2).1, (h.2 j x y h1 h2).2.kept hg (hne x (List.mem_of_getElem? h1))⟩⟩
theorem Smx.apart {W : World} {xs : List (Value × Nat)} {l : BL} {B k n : Nat} {v : Value} {ys : List Value} {e : TypeId} (h : Smx W xs l) (hv : W.ownsRow B e k v n ys) (he : TV ≠ e) : ∀ x ∈ xs, x.1.ownBlock = none ∨ x.1.ownBlock ≠ v.ownBlock := by
  intro x hx
  obtain ⟨j, hj, rfl⟩ := List.getElem_of_mem hx
  exact owns_ne_owns (h.2 j _ _ (List.getElem?_eq_getElem hj) (List.getElem?_eq_getElem (by rw [← h.1]; exact hj))).2 hv he
theorem infoTs : (Try.prog.info? TS).map (fun i => (i.zero, i.size, i.bytes)) = some (some (.agg #[.slice none 0 0, .int .i64 0]), 2, 32) := by kernel_rfl
set_option maxRecDepth 100000 in
set_option maxHeartbeats 2000000 in
theorem closure_any (va vb : Value) (ca cb : Int) (l m : List V) (hl : l.length ≤ 1000000) (hm : m.length ≤ 1000000) (w : World) (ha : IsRow w va l) (hb : IsRow w vb m) :
    Calls Try.prog 41 #[.agg #[va, .int .i64 ca], .agg #[vb, .int .i64 cb]] w fun e w' => e = .returned (.int .i64 (cmpL l m)) ∧ Grows w w' := by
  have HC := Lib.hid (fun W (hg : Below w.heap.size w W) => rcompare_any va vb l m (by omega) (by omega) W (ha.later hg) (hb.later hg))
  generalize cmpL l m = R at *
  obtain ⟨a1, k1, rfl, -⟩ := ha
  obtain ⟨a2, k2, rfl, -⟩ := hb
  go_enter Try.func41, Try.ntmps41
  go_wp2_with (go_at_call 21; (with_reducible refine (HC.out _ (below_alloc2 _ _ _)).mono ?_); rintro e w1 ⟨rfl, hb1⟩; have HB1 := Lib.hid hb1; clear hb1)
  go_ret
  exact ⟨rfl, (grows_alloc2 _ _ _).trans HB1.out⟩
theorem only_sortK {α : Type} [Inhabited α] (enc : α → List Value) (k : Nat) (w : World) (blk off m : Nat) (dk : Array α) (os : Array Go.Obj) : Only (fun k => k = blk) w (sortWorldK enc k w blk off m dk os) := by
  unfold sortWorldK Go.Sort.grow putRowK
  refine ⟨rfl, rfl, rfl, ?_, fun j hj hne => ?_⟩
  · show w.heap.size ≤ ((Go.Sort.putRow id (Go.Sort.ahead w m) blk off (flatK enc k dk)).heap ++ os).size
    rw [Array.size_append, size_putRow]
    exact Nat.le_add_right _ _
  · show ((Go.Sort.putRow id (Go.Sort.ahead w m) blk off (flatK enc k dk)).heap ++ os)[j]? = _
    rw [Array.getElem?_append_left (by rw [size_putRow]; exact hj)]
    unfold Go.Sort.putRow Go.Sort.mapBlock
    rw [Array.getElem?_modify, if_neg (fun e => hne e.symm)]
    rfl
/-- rows in order, with counts -/
def SortedB (l : BL) : Prop := l.Pairwise fun x y => beforeL y.1 x.1 = false
set_option maxRecDepth 100000 in
set_option maxHeartbeats 2000000 in
theorem sortk_any (n : Nat) (v : Value) (xs : List (Value × Nat)) (l : BL) (w : World) (hn : xs.length = n) (h0 : 0 < n) (hn1 : n < 4611686018427387904) (hg : GoodB l) (hl : ∀ x ∈ l, x.1.length ≤ 1000000) (ho : w.ownsRow 0 TS 2 v n (eCells xs)) (hr : Smx w xs l) :
    Calls Try.prog 40 #[v, .func (.func 41) #[] #[]] w fun e w' => e = .returned (.tuple #[]) ∧ ∃ xs' l', xs'.length = n ∧ Row w' v 2 n (eCells xs') ∧ Smx w' xs' l' ∧ l'.Perm l ∧ SortedB l' ∧ Only (fun k => v.ownBlock = some k) w w' := by
  obtain ⟨a, cap, rfl⟩ := owns_shape ho
  obtain ⟨g, rfl, hBg, hgl, hcell, hfz⟩ := owns_cellAt ho h0
  have hln : l.length = n := by rw [← hr.1]; exact hn
  haveI : Inhabited (Fin n) := ⟨⟨0, h0⟩⟩
  obtain ⟨ex, hex⟩ : ∃ ex : Fin n → Value × Nat, ex = fun i => xs[i.1]'(by omega) := ⟨_, rfl⟩
  obtain ⟨lf, hlf⟩ : ∃ lf : Fin n → List V × Nat, lf = fun i => l[i.1]'(by omega) := ⟨_, rfl⟩
  obtain ⟨enc, henc⟩ : ∃ enc : Fin n → List Value, enc = fun i => [(ex i).1, .int .i64 ((ex i).2 : Int)] := ⟨_, rfl⟩
  have hrow : ∀ i, (ex i).2 = (lf i).2 ∧ w.ownsRow 0 TV 3 (ex i).1 (lf i).1.length (vCells (lf i).1) := fun i => hr.2 i.1 _ _ (by rw [hex]; exact List.getElem?_eq_getElem _) (by rw [hlf]; exact List.getElem?_eq_getElem _)
  have hmem : ∀ i, lf i ∈ l := fun i => by rw [hlf]; exact List.getElem_mem _
  have hgi : ∀ i, Goods (lf i).1 := fun i => hg _ (hmem i)
  have hlt : ∀ i j, ltOf (fun i j => cmpL (lf i).1 (lf j).1) i j = beforeL (lf i).1 (lf j).1 := by
    intro i j
    show decide (cmpL (lf i).1 (lf j).1 < 0) = _
    rw [Bool.eq_iff_iff, decide_eq_true_eq]
    exact (cmpL_lt _ _ (hgi i) (hgi j)).1
  have hO : Go.Sort.SWO (ltOf (fun i j => cmpL (lf i).1 (lf j).1)) := ⟨fun i => by rw [hlt]; exact beforeL_self _, fun i j k h1 h2 => by rw [hlt] at *; exact beforeL_trans _ _ _ h1 h2, fun i j k h1 h2 => by rw [hlt] at *; exact le_trans' (hgi k) (hgi j) (hgi i) h2 h1⟩
  have hk2 : ∀ i, (enc i).length = 2 := fun i => by rw [henc]; rfl
  have h1c : ∀ i, ∀ u ∈ enc i, u.oneCell' = true := fun i u hu => by
    rw [henc] at hu
    obtain ⟨a, c, h⟩ := owns_shape (hrow i).2
    simp only [List.mem_cons, List.mem_nil_iff, or_false, h] at hu
    rcases hu with rfl | rfl <;> rfl
  have hne : ∀ i, (ex i).1.ownBlock ≠ some g := fun i => by
    rcases owns_ne_owns (hrow i).2 ho (by decide) with h | h
    · rw [h]; simp
    · exact h
  have hd : ∀ j (h : j < n), (Array.ofFn (fun i : Fin n => i))[j]! = ⟨j, h⟩ := fun j h => by
    rw [getElem!_pos _ j (by simpa using h)]; simp
  have hsz : (Array.ofFn (fun i : Fin n => i)).size = n := by simp
  have hH : HoldsK enc 2 w g 0 (Array.ofFn (fun i : Fin n => i)) := by
    intro j hj
    rw [size_flatK, hsz] at hj
    rw [get_flatK _ _ _ _ (by rw [hsz]; exact hj), hd (j / 2) (by omega), Nat.zero_add, henc, hex]
    obtain ⟨e0, e1⟩ := eCells_at xs (j / 2) _ (List.getElem?_eq_getElem (by omega))
    refine ⟨?_, hfz j⟩
    rw [hcell j (by omega)]
    rcases Nat.mod_two_eq_zero_or_one j with h2 | h2
    · rw [h2, show (eCells xs)[j]? = (eCells xs)[j / 2 * 2]? by congr 1; omega, e0]; rfl
    · rw [h2, show (eCells xs)[j]? = (eCells xs)[j / 2 * 2 + 1]? by congr 1; omega, e1]; rfl
  have hcmp : CmpLays Try.prog 41 #[] enc 2 (fun i j => cmpL (lf i).1 (lf j).1) g 0 (Array.ofFn (fun i : Fin n => i)).size w := by
    intro m os dk hs x y
    have hon := only_sortK enc 2 w g 0 m dk os
    have hx := (Row.of_owns (hrow x).2).only hon (fun b hb e => hne x (by rw [hb, e]))
    have hy := (Row.of_owns (hrow y).2).only hon (fun b hb e => hne y (by rw [hb, e]))
    have e : ∀ i, (enc i).toArray = #[(ex i).1, .int .i64 ((ex i).2 : Int)] := fun i => by rw [henc]
    rw [e x, e y]
    exact (closure_any (ex x).1 (ex y).1 ((ex x).2 : Int) ((ex y).2 : Int) (lf x).1 (lf y).1 (hl _ (hmem x)) (hl _ (hmem y)) _ hx hy).mono (fun e w' h => ⟨h.1, h.2.form⟩)
  have eg : ∀ args w, (callFunc 41 args).run Try.prog w = .ok (.enter 41 args) w := enters_of Try.func41 (by kernel_rfl) rfl
  have hcon := AnyQ.slices_SortFunc Try.sortK 2 Try.isAgg65 Try.sizeOf65 enc hk2 h1c (fun i j => cmpL (lf i).1 (lf j).1) hO 41 #[] g 0 cap (Array.ofFn (fun i : Fin n => i)) w eg hcmp hH hgl (by rw [hsz]; exact hn1)
  rw [hsz] at hcon
  change Calls Try.prog 40 _ _ _ at hcon
  refine hcon.mono ?_
  rintro e w' ⟨he, d', q, os, hp, hs, rfl⟩
  have hon := only_sortK enc 2 w g 0 q d' os
  have hds : d'.size = n := by rw [hp.1]; exact hsz
  have hh := (show SWK enc 2 w g 0 d' (sortWorldK enc 2 w g 0 q d' os) from ⟨q, os, rfl⟩).holds hgl hH hp.1
  have hperm : d'.toList.Perm (Array.ofFn (fun i : Fin n => i)).toList := by
    have h := hp.2.2
    have e1 : d'.extract 0 n = d' := by
      have h := Array.extract_size (xs := d')
      rwa [hds] at h
    have e2 : (Array.ofFn (fun i : Fin n => i)).extract 0 n = Array.ofFn (fun i : Fin n => i) := by
      have := Array.extract_size (xs := Array.ofFn (fun i : Fin n => i))
      rwa [hsz] at this
    rwa [e1, e2] at h
  have hls : (Array.ofFn (fun i : Fin n => i)).toList.map lf = l := by
    apply List.ext_getElem
    · simp [hln]
    · intro j h1 h2
      simp [hlf]
  refine ⟨he, d'.toList.map ex, d'.toList.map lf, by simp [hds], ?_, ⟨by simp, ?_⟩, ?_, ?_, hon.mono (fun k _ e => by rw [e]; rfl)⟩
  · refine ⟨_, _, rfl, by rw [eCells_len]; simp [hds], .inr ⟨g, 0, rfl, fun j hj => ?_⟩⟩
    have hj' : j / 2 < d'.size := by omega
    have hc := hh j (by rw [size_flatK, hds]; exact hj)
    rw [hc.1, get_flatK _ _ _ _ (by rw [hds]; exact hj), getElem!_pos d' (j / 2) hj', henc]
    obtain ⟨e0, e1⟩ := eCells_at (d'.toList.map ex) (j / 2) (ex d'[j / 2]) (by rw [List.getElem?_map, List.getElem?_eq_getElem (by simpa using hj')]; simp)
    rcases Nat.mod_two_eq_zero_or_one j with h2 | h2
    · rw [h2, show (eCells (d'.toList.map ex))[j]? = (eCells (d'.toList.map ex))[j / 2 * 2]? by congr 1; omega, e0]; rfl
    · rw [h2, show (eCells (d'.toList.map ex))[j]? = (eCells (d'.toList.map ex))[j / 2 * 2 + 1]? by congr 1; omega, e1]; rfl
  · intro j x y h1 h2
    rw [List.getElem?_map] at h1 h2
    obtain ⟨i, hi, rfl⟩ := Option.map_eq_some_iff.1 h1
    obtain ⟨i', hi', rfl⟩ := Option.map_eq_some_iff.1 h2
    rw [hi] at hi'
    cases hi'
    exact ⟨(hrow i).1, (hrow i).2.kept (row := some g) ⟨hon.os, hon.tape, hon.output, hon.size, fun k hk hne => hon.block k hk (fun e => hne (by rw [e]))⟩ (.inr (hne i))⟩
  · have := hperm.map lf
    rwa [hls] at this
  · unfold SortedB
    rw [List.pairwise_map, List.pairwise_iff_getElem]
    intro i j hi hj hij
    have hi' : i < d'.size := by simpa using hi
    have hj' : j < d'.size := by simpa using hj
    have h := hs i j (Nat.zero_le _) hij (by omega)
    rw [getElem!_pos d' i hi', getElem!_pos d' j hj', hlt] at h
    simpa using h
end Go.Proofs.Ytpkkhbmlclicfaa.val
