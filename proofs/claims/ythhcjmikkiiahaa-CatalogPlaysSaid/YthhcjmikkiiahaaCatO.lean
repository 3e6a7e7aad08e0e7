/- The document's names, rising: one put into a list; walked. -/
import Derived.Test.YthhcjmikkiiahaaCatN
import Derived.Test.YthhcjmikkiiahaaAgT
import Derived.Test.YthhcjmikkiiahaaSub
import Derived.BigQuiet
import Derived.StillTailTactics
import Derived.Deep.CutBlock
namespace Go.Proofs.Ythhcjmikkiiahaa.cat
set_option linter.unusedVariables false
open Go.RowKit Go.WideShapes Go.MapKept Go.Sort
def ltB (x y : ByteArray) : Bool := Op.bytesLess x.toList y.toList
theorem ltB_eq (x y : ByteArray) : ltB x y = decide (x.data.toList < y.data.toList) := by
  unfold ltB
  rw [bytesLess_eq, Lib.toList_data, Lib.toList_data]
theorem of_takeWhile {α : Type} (p : α → Bool) : ∀ (l : List α) (y : α), y ∈ l.takeWhile p → p y = true
  | [], y, h => by cases h
  | a :: l, y, h => by
    rw [List.takeWhile_cons] at h
    split at h
    · rename_i ha
      rcases List.mem_cons.1 h with rfl | h
      · exact ha
      · exact of_takeWhile p l y h
    · cases h
/-- a name put into a rising list -/
def insB (l : List ByteArray) (x : ByteArray) : List ByteArray := l.takeWhile (fun y => ltB y x) ++ x :: l.dropWhile (fun y => ltB y x)
def sortB (l : List ByteArray) : List ByteArray := ((l.map (fun s => s.data.toList)).mergeSort fun x y => decide (x ≤ y)).map bA
theorem while_at {α : Type} (p : α → Bool) : ∀ (l : List α) (k : Nat), (∀ y ∈ l.take k, p y = true) → (∀ y, l[k]? = some y → p y = false) → l.takeWhile p = l.take k ∧ l.dropWhile p = l.drop k
  | [], k, _, _ => by simp
  | a :: l, 0, _, h2 => by
    have h := h2 a rfl
    simp [List.takeWhile_cons, List.dropWhile_cons, h]
  | a :: l, k + 1, h1, h2 => by
    have h := h1 a (by simp)
    obtain ⟨e1, e2⟩ := while_at p l k (fun y hy => h1 y (by simp [hy])) (fun y hy => h2 y (by simpa using hy))
    simp [List.takeWhile_cons, List.dropWhile_cons, h, e1, e2]
theorem insB_at {l : List ByteArray} {x : ByteArray} {k : Nat} (h1 : ∀ y ∈ l.take k, ltB y x = true) (h2 : ∀ y, l[k]? = some y → ltB y x = false) : insB l x = l.take k ++ x :: l.drop k := by
  obtain ⟨e1, e2⟩ := while_at (fun y => ltB y x) l k h1 h2
  unfold insB
  rw [e1, e2]
theorem insB_len (l : List ByteArray) (x : ByteArray) : (insB l x).length = l.length + 1 := by
  have h := congrArg List.length (List.takeWhile_append_dropWhile (p := fun y => ltB y x) (l := l))
  unfold insB
  rw [List.length_append] at h ⊢
  rw [List.length_cons]; omega
theorem insB_perm (l : List ByteArray) (x : ByteArray) : (insB l x).Perm (x :: l) := by
  unfold insB
  have h := List.takeWhile_append_dropWhile (p := fun y => ltB y x) (l := l)
  refine List.perm_middle.trans ?_
  rw [h]
def Rises (l : List ByteArray) : Prop := l.Pairwise (fun a b => a.data.toList ≤ b.data.toList)
theorem insB_rises {l : List ByteArray} (h : Rises l) (x : ByteArray) : Rises (insB l x) := by
  unfold Rises at h ⊢
  unfold insB
  have e := List.takeWhile_append_dropWhile (p := fun y => ltB y x) (l := l)
  have hp := h
  rw [← e] at hp
  obtain ⟨p1, p2, p3⟩ := List.pairwise_append.1 hp
  have hlt : ∀ y ∈ l.takeWhile (fun y => ltB y x), y.data.toList ≤ x.data.toList := by
    intro y hy
    have := of_takeWhile _ l y hy
    rw [ltB_eq, decide_eq_true_eq] at this
    exact List.le_of_lt this
  have hge : ∀ y ∈ l.dropWhile (fun y => ltB y x), x.data.toList ≤ y.data.toList := by
    intro y hy
    cases hd : l.dropWhile (fun y => ltB y x) with
    | nil => rw [hd] at hy; cases hy
    | cons z t =>
      have hz : ltB z x = false := by
        have := List.head?_dropWhile_not (fun y => ltB y x) l
        rw [hd] at this
        simpa using this
      rw [ltB_eq, decide_eq_false_iff_not, List.not_lt] at hz
      rw [hd] at hy p2
      rcases List.mem_cons.1 hy with rfl | hy
      · exact hz
      · exact List.le_trans hz ((List.pairwise_cons.1 p2).1 y hy)
  refine List.pairwise_append.2 ⟨p1, List.pairwise_cons.2 ⟨hge, p2⟩, ?_⟩
  intro a ha b hb
  rcases List.mem_cons.1 hb with rfl | hb
  · exact hlt a ha
  · exact p3 a ha b hb
theorem fold_ins (l : List ByteArray) : ∀ acc, Rises acc → Rises (l.foldl insB acc) ∧ (l.foldl insB acc).Perm (acc ++ l) := by
  induction l with
  | nil => intro acc h; exact ⟨h, by simp⟩
  | cons x l ih =>
    intro acc h
    obtain ⟨h1, h2⟩ := ih (insB acc x) (insB_rises h x)
    refine ⟨h1, h2.trans ?_⟩
    exact ((insB_perm acc x).append_right l).trans (List.perm_middle.symm)
theorem bA_data (s : ByteArray) : bA s.data.toList = s := by unfold bA; simp
theorem data_bA (s : Bs) : (bA s).data.toList = s := by unfold bA; simp
/-- putting in one after the other sorts -/
theorem fold_sort (l : List ByteArray) : l.foldl insB [] = sortB l := by
  obtain ⟨h1, h2⟩ := fold_ins l [] List.Pairwise.nil
  have hs : ((l.map (fun s => s.data.toList)).mergeSort fun x y => decide (x ≤ y)).Pairwise (fun a b => decide (a ≤ b) = true) :=
    List.pairwise_mergeSort (fun a b c hab hbc => by rw [decide_eq_true_eq] at hab hbc ⊢; exact List.le_trans hab hbc) (fun a b => by
      rcases List.le_total a b with h | h <;> simp [h]) _
  have hs2 : Rises (sortB l) := by
    unfold Rises sortB
    refine List.pairwise_map.2 (hs.imp fun {a b} h => ?_)
    rw [data_bA, data_bA]
    simpa using h
  have hp : (sortB l).Perm l := by
    unfold sortB
    refine ((List.mergeSort_perm _ _).map bA).trans ?_
    rw [List.map_map]
    have : (bA ∘ fun s : ByteArray => s.data.toList) = id := funext fun s => bA_data s
    rw [this, List.map_id]
  refine (h2.trans (by simpa using hp.symm)).eq_of_pairwise (fun a b _ _ hab hba => ?_) h1 hs2
  have e := List.le_antisymm hab hba
  rw [← bA_data a, ← bA_data b, e]
theorem oneStr (l : List ByteArray) : ∀ u ∈ l.map Value.string, u.oneCell' = true := one_map Value.string (fun _ => rfl) l
def InsPost (l : List ByteArray) (w : World) (e : Ending) (w' : World) : Prop := ∃ v', e = .returned v' ∧ w'.ownsRow 0 TK 1 v' l.length (l.map Value.string) ∧ Below w.heap.size w w'
set_option maxRecDepth 100000 in
set_option maxHeartbeats 4000000 in
theorem insert_nil (x : ByteArray) (w : World) :
    Calls Try.prog 68 #[.slice none 0 0, .string x] w (InsPost [x] w) := by
  obtain ⟨i0, hi, hz0, hz1, hz2⟩ := info_of infoS
  go_enter Try.func68, Try.ntmps68
  go_wp2_with fail
  go_loopw [5] (fun iv wr => iv = .int .i64 0 ∧ wr = w) (fun iv _ => 0)
  case atStart => exact ⟨rfl, rfl⟩
  case round =>
    obtain ⟨rfl, rfl⟩ := hrel
    go_upto_region 4 with fail
    apply ag.region_chain  (ag.Spec.sat (ag.Ch (wr.heap.size) TK 1 (0) ([])) ag.grew :: ag.Spec.val _ :: ag.Spec.val _ :: ag.Spec.val _ :: ag.Spec.sat (ag.Ch (wr.heap.size) TK 1 (0 + 0) ([] ++ [])) (ag.tk (wr.heap.size) TK 1 (0)) :: ag.Spec.val _ :: ag.Spec.sat (ag.Ch (wr.heap.size) TK 1 (1) ([Value.string x])) ag.grew :: ag.Spec.sat (ag.Ch (wr.heap.size) TK 1 ((0 + 0) + 1) (([] ++ []) ++ [Value.string x])) (ag.tk (wr.heap.size) TK 1 ((0 + 0))) :: ag.Spec.val _ :: ag.Spec.val _ :: ag.Spec.val _ :: ag.Spec.sat (ag.Ch (wr.heap.size) TK 1 ((0 + 0 + 1) + 0) (([] ++ [] ++ [Value.string x]) ++ [])) (ag.tk (wr.heap.size) TK 1 ((0 + 0 + 1))) :: ag.Spec.cpy 11 :: [])
    case hm => kernel_rfl
    case hB => kernel_rfl
    case hlen => rfl
    case hc => exact ⟨.inl rfl, .inr (fun f w w' h => h.1), .inl rfl, .inr (fun f w w' h => h.1), .inr (fun f w w' h => h.1), trivial⟩
    case hst =>
      simp only [ag.Stab, ag.Row2, ag.Ok2, and_true]
      repeat' apply And.intro
      all_goals first
        | exact fun h => absurd rfl h
        | exact fun _ _ f v W W' _ hv _ ht => ag.Ch.lasts v W W' hv ht
        | exact fun _ _ f v W W' _ hv _ ht => ag.Ch.stays hv ht (by omega)
        | trivial
        | exact fun _ h => absurd (h.symm.trans (show _ = true by kernel_rfl)) (by decide)
    refine ag.walk_such (by rfl) (fun W1 hS hE => ?_) (fun y0 => ?_)
    · have hX := hS.size
      clear hE
      unfold ag.does
      go_simp
      exact ⟨ag.Ch.new W1 ([]) (by simp) hX (by decide), (Below.refl _ _).alloc (Nat.le_refl _) _⟩
    simp only [Act.put, List.setIfInBounds_toArray, List.set_cons_zero, List.set_cons_succ]
    apply ag.walk_val
    · rfl
    · intro W1 hS hE
      clear hS hE
      unfold ag.does
      go_simp
      first | done | exact ⟨rfl, rfl⟩ | rfl | (exact ⟨by go_num, rfl⟩) | (simp; done) | trace_state
    simp only [Act.put, List.setIfInBounds_toArray, List.set_cons_zero, List.set_cons_succ]
    apply ag.walk_val
    · rfl
    · intro W1 hS hE
      clear hS hE
      unfold ag.does
      go_simp
      first | done | exact ⟨rfl, rfl⟩ | rfl | (exact ⟨by go_num, rfl⟩) | (simp; done) | trace_state
    simp only [Act.put, List.setIfInBounds_toArray, List.set_cons_zero, List.set_cons_succ]
    apply ag.walk_val
    · rfl
    · intro W1 hS hE
      clear hS hE
      unfold ag.does
      go_simp
      first | done | exact ⟨rfl, rfl⟩ | rfl | (exact ⟨by go_num, rfl⟩) | (simp; done) | trace_state
    simp only [Act.put, List.setIfInBounds_toArray, List.set_cons_zero, List.set_cons_succ]
    refine ag.walk_sat (by rfl) (fun W1 hS hE => ?_) (fun y4 => ?_)
    · have own := hE.of 0 (by kernel_rfl)
      simp only [ag.lookE, if_true, Nat.reduceEqDiff, if_false] at own
      clear hE
      have hX := hS.size
      refine ag.does_chain (.tmp 20) (.tmp 23) 31 (by rfl) (wr.heap.size) TK i0 (.string ⟨#[]⟩) 1 16 Try.underlying31 hi hz0 hz1 hz2 rfl (by decide) y0 (0) ([]) (by rfl) own (.slice none 0 0) (0) ([]) (by rfl) (Row.nil _ 1 _ _) ((by simp)) (by simp only [maxLen]; omega) (by omega) hX _ _ _
    simp only [Act.put, List.setIfInBounds_toArray, List.set_cons_zero, List.set_cons_succ]
    apply ag.walk_val
    · rfl
    · intro W1 hS hE
      clear hS hE
      unfold ag.does
      go_simp
      first | done | exact ⟨rfl, rfl⟩ | rfl | (exact ⟨by go_num, rfl⟩) | (simp; done) | trace_state
    simp only [Act.put, List.setIfInBounds_toArray, List.set_cons_zero, List.set_cons_succ]
    refine ag.walk_such (by rfl) (fun W1 hS hE => ?_) (fun y6 => ?_)
    · have hX := hS.size
      clear hE
      unfold ag.does
      go_simp
      exact ⟨ag.Ch.new W1 ([Value.string x]) (by simp) hX (by decide), (Below.refl _ _).alloc (Nat.le_refl _) _⟩
    simp only [Act.put, List.setIfInBounds_toArray, List.set_cons_zero, List.set_cons_succ]
    refine ag.walk_sat (by rfl) (fun W1 hS hE => ?_) (fun y7 => ?_)
    · have own := hE.of 4 (by kernel_rfl)
      simp only [ag.lookE, if_true, Nat.reduceEqDiff, if_false] at own
      have box := hE.of 6 (by kernel_rfl)
      simp only [ag.lookE, if_true, Nat.reduceEqDiff, if_false] at box
      clear hE
      have hX := hS.size
      refine ag.does_chain (.tmp 24) (.tmp 26) 31 (by rfl) (wr.heap.size) TK i0 (.string ⟨#[]⟩) 1 16 Try.underlying31 hi hz0 hz1 hz2 rfl (by decide) y4 ((0 + 0)) (([] ++ [])) (by rfl) own (y6) (1) ([Value.string x]) (by rfl) (box.row) ((by simp [Value.oneCell'])) (by simp only [maxLen]; omega) (by omega) hX _ _ _
    simp only [Act.put, List.setIfInBounds_toArray, List.set_cons_zero, List.set_cons_succ]
    apply ag.walk_val
    · rfl
    · intro W1 hS hE
      clear hS hE
      unfold ag.does
      go_simp
      first | done | exact ⟨rfl, rfl⟩ | rfl | (exact ⟨by go_num, rfl⟩) | (simp; done) | trace_state
    simp only [Act.put, List.setIfInBounds_toArray, List.set_cons_zero, List.set_cons_succ]
    apply ag.walk_val
    · rfl
    · intro W1 hS hE
      clear hS hE
      unfold ag.does
      go_simp
      first | done | exact ⟨rfl, rfl⟩ | rfl | (exact ⟨by go_num, rfl⟩) | (simp; done) | trace_state
    simp only [Act.put, List.setIfInBounds_toArray, List.set_cons_zero, List.set_cons_succ]
    apply ag.walk_val
    · rfl
    · intro W1 hS hE
      clear hS hE
      unfold ag.does
      go_simp
      first | done | exact ⟨rfl, rfl⟩ | rfl | (exact ⟨by go_num, rfl⟩) | (simp; done) | trace_state
    simp only [Act.put, List.setIfInBounds_toArray, List.set_cons_zero, List.set_cons_succ]
    refine ag.walk_sat (by rfl) (fun W1 hS hE => ?_) (fun y11 => ?_)
    · have own := hE.of 7 (by kernel_rfl)
      simp only [ag.lookE, if_true, Nat.reduceEqDiff, if_false] at own
      clear hE
      have hX := hS.size
      refine ag.does_chain (.tmp 27) (.tmp 30) 31 (by rfl) (wr.heap.size) TK i0 (.string ⟨#[]⟩) 1 16 Try.underlying31 hi hz0 hz1 hz2 rfl (by decide) y7 ((0 + 0 + 1)) (([] ++ [] ++ [Value.string x])) (by rfl) own (.slice none 0 0) (0) ([]) (by rfl) (Row.nil _ 1 _ _) ((by simp)) (by simp only [maxLen]; omega) (by omega) hX _ _ _
    simp only [Act.put, List.setIfInBounds_toArray, List.set_cons_zero, List.set_cons_succ]
    refine ag.walk_cpy (by kernel_rfl) (by rfl) (by rfl) (fun W1 hS hE => ?_) ?_
    · clear hS hE
      unfold ag.does
      go_simp
      first | exact ⟨rfl, rfl⟩ | rfl
    simp only [ag.lookX, Nat.reduceAdd, Nat.reduceEqDiff, if_false, if_true]
    simp only [Act.put, List.setIfInBounds_toArray, List.set_cons_zero, List.set_cons_succ]
    refine ag.walk_nil (fun w9 hS hF hP => ?_)
    clear hP
    have h11 := hF.of 11
    simp only [ag.lookE, Nat.reduceEqDiff, if_false, if_true] at h11
    obtain ⟨⟨a9, c9, rfl, -⟩, ho⟩ := h11
    have HO := Lib.hid ho
    have HS9 := Lib.hid hS
    clear hF hS ho
    go_wp2_with fail
    go_ret
    exact ⟨_, rfl, owns_base HO.out (fun g hg => Nat.zero_le _), HS9.out⟩
set_option maxRecDepth 100000 in
set_option maxHeartbeats 8000000 in
theorem insert_some (g cap : Nat) (L : List ByteArray) (hL : L.length ≤ 100000) (x : ByteArray) (w : World) (hv : w.ownsRow 0 TK 1 (.slice (some ⟨g, 0, none⟩) L.length cap) L.length (L.map Value.string)) :
    Calls Try.prog 68 #[.slice (some ⟨g, 0, none⟩) L.length cap, .string x] w (InsPost (insB L x) w) := by
  have HV := Lib.hid hv
  have hcap : L.length ≤ cap := by
    obtain ⟨-, ⟨h, -⟩ | ⟨_, _, _, e, _, _, h, _⟩⟩ := hv
    · cases h
    · simp only [Value.slice.injEq] at e; omega
  have hg : g < w.heap.size := (hv.lt g rfl).2
  obtain ⟨n, hn⟩ : ∃ n, L.length = n := ⟨_, rfl⟩
  rw [hn] at HV hcap hL ⊢
  have HN := Lib.hid hn
  have hn0 : (0 : Int) ≤ (n : Int) := by omega
  have hn1 : (n : Int) ≤ 100000 := by omega
  clear hv hn
  have HC := Lib.hid (fun (k : Nat) (hk : k < n) (u : ByteArray) (hu : L[k]? = some u) => show w.cell? ⟨g, k, none⟩ = some (.string u) from by
    obtain ⟨g', e, -, -, hc, -⟩ := owns_cellAt HV.out (by omega)
    simp only [Option.some.injEq, Addr.mk.injEq, and_true] at e
    subst e
    have := hc k (by omega)
    rw [List.getElem?_map, hu] at this
    exact this)
  obtain ⟨i0, hi, hz0, hz1, hz2⟩ := info_of infoS
  go_enter Try.func68, Try.ntmps68
  go_wp2_with fail
  go_loopw [5] (fun iv wr => ∃ k : Nat, iv = .int .i64 (k : Int) ∧ k ≤ n ∧ wr = w ∧ Hid (∀ y ∈ L.take k, ltB y x = true)) (fun iv _ => n - (intOf iv).toNat)
  case atStart => exact ⟨0, rfl, Nat.zero_le _, rfl, Lib.hid (by simp)⟩
  case round =>
    obtain ⟨k, rfl, hk, rfl, HT⟩ := hrel
    have hd0 : (0 : Int) ≤ (k : Int) := by omega
    have hd1 : (k : Int) ≤ (n : Int) := by omega
    by_cases hgo : k < n ∧ ∃ u, L[k]? = some u ∧ ltB u x = true
    · obtain ⟨hkn, u, hu, hl⟩ := hgo
      have dk : (k : Int) < (n : Int) := by omega
      have c0 := HC.out k hkn u hu
      have HU := Lib.hid (And.intro hu hl)
      unfold ltB at hl
      clear hu
      go_wp2_with fail
      go_roundw
      case rel => exact ⟨k + 1, by go_num, by omega, by trivial, Lib.hid (by
        intro y hy
        rw [List.take_add_one, HU.out.1] at hy
        rcases List.mem_append.1 hy with hy | hy
        · exact HT.out y hy
        · simp at hy; subst hy; exact HU.out.2)⟩
      case measure => simp [intOf]; omega
    · have hcase : (∃ u, k < n ∧ L[k]? = some u ∧ ltB u x = false) ∨ ¬ k < n := by
        by_cases hkn : k < n
        · have hkl : k < L.length := by have := HN.out; omega
          have hu := List.getElem?_eq_getElem hkl
          exact .inl ⟨_, hkn, hu, by
            cases e : ltB L[k] x with
            | false => rfl
            | true => exact absurd ⟨hkn, _, hu, e⟩ hgo⟩
        · exact .inr hkn
      have HP := Lib.hid (insB_at (x := x) HT.out (fun y hy => by
        rcases hcase with ⟨u, -, hu, hl⟩ | hkn
        · rw [hu] at hy; cases hy; exact hl
        · have := (List.getElem?_eq_some_iff.1 hy).1
          have := HN.out; omega))
      have HRT := Lib.hid (sub_take (Row.of_owns HV.out) k hk cap)
      obtain ⟨A, hA, HRD⟩ : ∃ A : Option Addr, (if cap = k then some (⟨g, 0, none⟩ : Addr) else some ⟨g, k, none⟩) = A ∧ Hid (∀ W, Below wr.heap.size wr W → Row W (.slice A (n - k) (cap - k)) 1 (n - k) ((L.map Value.string).drop k)) :=
        ⟨_, rfl, Lib.hid (fun W hb => by have := sub_drop ((Row.of_owns HV.out).later hb) k hk (cap - k) (if cap = k then some (⟨g, 0, none⟩ : Addr) else some ⟨g, k, none⟩) (fun h => by rw [if_neg (by omega)]; simp); simpa using this)⟩
      have h63 : n ≤ maxLen := by unfold maxLen; omega
      have hcc : (k : Int) ≤ (cap : Int) := by omega
      have HONE1 := Lib.hid (one_part (oneStr L) (fun u (h : u ∈ (L.map Value.string).take (k * 1)) => List.mem_of_mem_take h))
      have HONE3 := Lib.hid (one_part (oneStr L) (fun u (h : u ∈ (L.map Value.string).drop k) => List.mem_of_mem_drop h))
      clear hgo
      rcases hcase with ⟨u, hkn, hu, hux⟩ | hkn
      all_goals first
        | (have dk : (k : Int) < (n : Int) := (by omega); have c0 := HC.out k hkn u hu; unfold ltB at hux; clear hu; go_upto_region 4 with fail)
        | (have dk : ¬ (k : Int) < (n : Int) := (by omega); go_upto_region 4 with fail)
      all_goals
        apply ag.region_chain  (ag.Spec.sat (ag.Ch (wr.heap.size) TK 1 (0) ([])) ag.grew :: ag.Spec.val _ :: ag.Spec.val _ :: ag.Spec.val _ :: ag.Spec.sat (ag.Ch (wr.heap.size) TK 1 (0 + k) ([] ++ (L.map Value.string).take (k * 1))) (ag.tk (wr.heap.size) TK 1 (0)) :: ag.Spec.val _ :: ag.Spec.sat (ag.Ch (wr.heap.size) TK 1 (1) ([Value.string x])) ag.grew :: ag.Spec.sat (ag.Ch (wr.heap.size) TK 1 ((0 + k) + 1) (([] ++ (L.map Value.string).take (k * 1)) ++ [Value.string x])) (ag.tk (wr.heap.size) TK 1 ((0 + k))) :: ag.Spec.val _ :: ag.Spec.val _ :: ag.Spec.val _ :: ag.Spec.sat (ag.Ch (wr.heap.size) TK 1 ((0 + k + 1) + (n - k)) (([] ++ (L.map Value.string).take (k * 1) ++ [Value.string x]) ++ (L.map Value.string).drop k)) (ag.tk (wr.heap.size) TK 1 ((0 + k + 1))) :: ag.Spec.cpy 11 :: [])
        case hm => kernel_rfl
        case hB => kernel_rfl
        case hlen => rfl
        case hc => exact ⟨.inl rfl, .inr (fun f w w' h => h.1), .inl rfl, .inr (fun f w w' h => h.1), .inr (fun f w w' h => h.1), trivial⟩
        case hst =>
          simp only [ag.Stab, ag.Row2, ag.Ok2, and_true]
          repeat' apply And.intro
          all_goals first
            | exact fun h => absurd rfl h
            | exact fun _ _ f v W W' _ hv _ ht => ag.Ch.lasts v W W' hv ht
            | exact fun _ _ f v W W' _ hv _ ht => ag.Ch.stays hv ht (by omega)
            | trivial
            | exact fun _ h => absurd (h.symm.trans (show _ = true by kernel_rfl)) (by decide)
        refine ag.walk_such (by rfl) (fun W1 hS hE => ?_) (fun y0 => ?_)
        · have hX := hS.size
          clear hE
          unfold ag.does
          go_simp
          exact ⟨ag.Ch.new W1 ([]) (by simp) hX (by decide), (Below.refl _ _).alloc (Nat.le_refl _) _⟩
        simp only [Act.put, List.setIfInBounds_toArray, List.set_cons_zero, List.set_cons_succ]
        apply ag.walk_val
        · rfl
        · intro W1 hS hE
          clear hS hE
          unfold ag.does
          go_simp
          first | done | exact ⟨rfl, rfl⟩ | rfl | (exact ⟨by go_num, rfl⟩) | (simp; done) | trace_state
        simp only [Act.put, List.setIfInBounds_toArray, List.set_cons_zero, List.set_cons_succ]
        apply ag.walk_val
        · rfl
        · intro W1 hS hE
          clear hS hE
          unfold ag.does
          go_simp
          first | done | exact ⟨rfl, rfl⟩ | rfl | (exact ⟨by go_num, rfl⟩) | (simp; done) | trace_state
        simp only [Act.put, List.setIfInBounds_toArray, List.set_cons_zero, List.set_cons_succ]
        apply ag.walk_val
        · rfl
        · intro W1 hS hE
          clear hS hE
          unfold ag.does
          go_simp
          first | done | exact ⟨rfl, rfl⟩ | rfl | (exact ⟨by go_num, rfl⟩) | (simp; done) | trace_state
        simp only [Act.put, List.setIfInBounds_toArray, List.set_cons_zero, List.set_cons_succ]
        refine ag.walk_sat (by rfl) (fun W1 hS hE => ?_) (fun y4 => ?_)
        · have own := hE.of 0 (by kernel_rfl)
          simp only [ag.lookE, if_true, Nat.reduceEqDiff, if_false] at own
          clear hE
          have hX := hS.size
          refine ag.does_chain (.tmp 20) (.tmp 23) 31 (by rfl) (wr.heap.size) TK i0 (.string ⟨#[]⟩) 1 16 Try.underlying31 hi hz0 hz1 hz2 rfl (by decide) y0 (0) ([]) (by rfl) own (.slice (some ⟨g, 0, none⟩) k cap) (k) ((L.map Value.string).take (k * 1)) (by rfl) (HRT.out.later hS) (HONE1.out) (by simp only [maxLen]; omega) (by omega) hX _ _ _
        simp only [Act.put, List.setIfInBounds_toArray, List.set_cons_zero, List.set_cons_succ]
        apply ag.walk_val
        · rfl
        · intro W1 hS hE
          clear hS hE
          unfold ag.does
          go_simp
          first | done | exact ⟨rfl, rfl⟩ | rfl | (exact ⟨by go_num, rfl⟩) | (simp; done) | trace_state
        simp only [Act.put, List.setIfInBounds_toArray, List.set_cons_zero, List.set_cons_succ]
        refine ag.walk_such (by rfl) (fun W1 hS hE => ?_) (fun y6 => ?_)
        · have hX := hS.size
          clear hE
          unfold ag.does
          go_simp
          exact ⟨ag.Ch.new W1 ([Value.string x]) (by simp) hX (by decide), (Below.refl _ _).alloc (Nat.le_refl _) _⟩
        simp only [Act.put, List.setIfInBounds_toArray, List.set_cons_zero, List.set_cons_succ]
        refine ag.walk_sat (by rfl) (fun W1 hS hE => ?_) (fun y7 => ?_)
        · have own := hE.of 4 (by kernel_rfl)
          simp only [ag.lookE, if_true, Nat.reduceEqDiff, if_false] at own
          have box := hE.of 6 (by kernel_rfl)
          simp only [ag.lookE, if_true, Nat.reduceEqDiff, if_false] at box
          clear hE
          have hX := hS.size
          refine ag.does_chain (.tmp 24) (.tmp 26) 31 (by rfl) (wr.heap.size) TK i0 (.string ⟨#[]⟩) 1 16 Try.underlying31 hi hz0 hz1 hz2 rfl (by decide) y4 ((0 + k)) (([] ++ (L.map Value.string).take (k * 1))) (by rfl) own (y6) (1) ([Value.string x]) (by rfl) (box.row) ((by simp [Value.oneCell'])) (by simp only [maxLen]; omega) (by omega) hX _ _ _
        simp only [Act.put, List.setIfInBounds_toArray, List.set_cons_zero, List.set_cons_succ]
        apply ag.walk_val
        · rfl
        · intro W1 hS hE
          clear hS hE
          unfold ag.does
          go_simp
          first | done | exact ⟨rfl, rfl⟩ | rfl | (exact ⟨by go_num, rfl⟩) | (simp; done) | trace_state
        simp only [Act.put, List.setIfInBounds_toArray, List.set_cons_zero, List.set_cons_succ]
        apply ag.walk_val
        · rfl
        · intro W1 hS hE
          clear hS hE
          unfold ag.does
          go_simp
          first | done | exact ⟨rfl, rfl⟩ | rfl | (exact ⟨by go_num, rfl⟩) | (simp; done) | trace_state
        simp only [Act.put, List.setIfInBounds_toArray, List.set_cons_zero, List.set_cons_succ]
        apply ag.walk_val
        · rfl
        · intro W1 hS hE
          clear hS hE
          unfold ag.does
          go_simp
          first | done | exact ⟨rfl, rfl⟩ | rfl | (exact ⟨by go_num, rfl⟩) | (simp; done) | trace_state
        simp only [Act.put, List.setIfInBounds_toArray, List.set_cons_zero, List.set_cons_succ]
        refine ag.walk_sat (by rfl) (fun W1 hS hE => ?_) (fun y11 => ?_)
        · have own := hE.of 7 (by kernel_rfl)
          simp only [ag.lookE, if_true, Nat.reduceEqDiff, if_false] at own
          clear hE
          have hX := hS.size
          refine ag.does_chain (.tmp 27) (.tmp 30) 31 (by rfl) (wr.heap.size) TK i0 (.string ⟨#[]⟩) 1 16 Try.underlying31 hi hz0 hz1 hz2 rfl (by decide) y7 ((0 + k + 1)) (([] ++ (L.map Value.string).take (k * 1) ++ [Value.string x])) (by rfl) own (.slice A (n - k) (cap - k)) ((n - k)) ((L.map Value.string).drop k) (by rfl) (HRD.out _ hS) (HONE3.out) (by simp only [maxLen]; omega) (by omega) hX _ _ _
        simp only [Act.put, List.setIfInBounds_toArray, List.set_cons_zero, List.set_cons_succ]
        refine ag.walk_cpy (by kernel_rfl) (by rfl) (by rfl) (fun W1 hS hE => ?_) ?_
        · clear hS hE
          unfold ag.does
          go_simp
          first | exact ⟨rfl, rfl⟩ | rfl
        simp only [ag.lookX, Nat.reduceAdd, Nat.reduceEqDiff, if_false, if_true]
        simp only [Act.put, List.setIfInBounds_toArray, List.set_cons_zero, List.set_cons_succ]
        refine ag.walk_nil (fun w9 hS hF hP => ?_)
        clear hP
        have h11 := hF.of 11
        simp only [ag.lookE, Nat.reduceEqDiff, if_false, if_true] at h11
        obtain ⟨⟨a9, c9, rfl, -⟩, ho⟩ := h11
        have HO := Lib.hid ho
        rw [Nat.zero_add] at ho
        have HOz := Lib.hid ho
        have HS9 := Lib.hid hS
        clear hF hS ho
        go_wp2_with fail
        go_ret
        have hlen : (insB L x).length = 0 + k + 1 + (n - k) := by rw [insB_len, HN.out]; omega
        have hlenz : (insB L x).length = k + 1 + (n - k) := by rw [insB_len, HN.out]; omega
        have hcs : (insB L x).map Value.string = [] ++ (L.map Value.string).take (k * 1) ++ [Value.string x] ++ (L.map Value.string).drop k := by rw [HP.out, List.map_append, List.map_cons, List.map_take, List.map_drop, Nat.mul_one]; simp
        first
          | exact ⟨_, rfl, by rw [hlen, hcs]; exact owns_base HO.out (fun g hg => Nat.zero_le _), HS9.out⟩
          | exact ⟨_, rfl, by rw [hlenz, hcs]; exact owns_base HOz.out (fun g hg => Nat.zero_le _), HS9.out⟩
theorem insert_any (v : Value) (L : List ByteArray) (hL : L.length ≤ 100000) (x : ByteArray) (w : World) (hv : w.ownsRow 0 TK 1 v L.length (L.map Value.string)) :
    Calls Try.prog 68 #[v, .string x] w (InsPost (insB L x) w) := by
  have hv0 := hv
  rcases hv.2 with ⟨rfl, h0⟩ | ⟨g, cap, cur, rfl, hrest⟩
  · obtain rfl : L = [] := by simpa using h0
    exact insert_nil x w
  · exact insert_some g cap L hL x w hv0
end Go.Proofs.Ythhcjmikkiiahaa.cat
