/- The law on stores of cells: a number put into a list, or taken out of one; walked. -/
import Derived.Test.YtfaoeajaahnooaaCellO
import Derived.Test.YtfaoeajaahnooaaAgT
import Derived.Test.YtfaoeajaahnooaaSub
import Derived.BigQuiet
import Derived.StillTailTactics
import Derived.Deep.CutBlock
namespace Go.Proofs.Ytfaoeajaahnooaa.cel
set_option linter.unusedVariables false
open Go.RowKit Go.WideShapes Go.MapKept

theorem infoI : (Try.prog.info? 3).map (fun i => (i.zero, i.size, i.bytes)) = some (some (.int .i64 0), 1, 8) := by kernel_rfl
theorem info_of {P : Program} {e : TypeId} {z : Value} {s b : Nat} (h : (P.info? e).map (fun i => (i.zero, i.size, i.bytes)) = some (some z, s, b)) : ∃ i, P.info? e = some i ∧ i.zero = some z ∧ i.size = s ∧ i.bytes = b := by
  cases h0 : P.info? e with
  | none => rw [h0] at h; cases h
  | some i =>
    rw [h0] at h
    simp only [Option.map_some, Option.some.injEq, Prod.mk.injEq] at h
    exact ⟨i, rfl, h.1, h.2.1, h.2.2⟩
theorem one_encZ (l : List Int) : ∀ u ∈ l.map encZ, u.oneCell' = true := one_map encZ (fun _ => rfl) l
/-- where a number stands in a rising list -/
theorem insI_at {L : List Int} (hs : L.Pairwise (· < ·)) (x : Int) (k : Nat) (hk : k ≤ L.length) (h1 : ∀ y ∈ L.take k, y < x) (h2 : ∀ y ∈ L.drop k, x ≤ y) (h3 : x ∉ L) : L.take k ++ x :: L.drop k = insI L x := by
  unfold insI
  have e1 : L.filter (fun y => decide (y < x)) = L.take k := by
    conv => lhs; rw [← List.take_append_drop k L]
    rw [List.filter_append, List.filter_eq_self.2 (fun y hy => by simpa using h1 y hy), List.filter_eq_nil_iff.2 (fun y hy => by have := h2 y hy; simp; omega), List.append_nil]
  have e2 : L.filter (fun y => decide (x < y)) = L.drop k := by
    conv => lhs; rw [← List.take_append_drop k L]
    rw [List.filter_append, List.filter_eq_nil_iff.2 (fun y hy => by have := h1 y hy; simp; omega), List.nil_append, List.filter_eq_self.2 (fun y hy => by
      have := h2 y hy
      have hne : y ≠ x := fun e => h3 (e ▸ List.mem_of_mem_drop hy)
      simp; omega)]
  rw [e1, e2]
theorem insI_of_mem {L : List Int} (hs : L.Pairwise (· < ·)) {x : Int} (h : x ∈ L) : insI L x = L := by
  have h1 := insI_sorted hs x
  have hp : (insI L x).Perm L := (List.perm_ext_iff_of_nodup (h1.imp fun h => by omega) (hs.imp fun h => by omega)).2 fun j => by rw [insI_mem]; exact ⟨fun h' => h'.elim (fun e => e ▸ h) id, .inr⟩
  exact hp.eq_of_pairwise (le := fun a b => a < b) (fun a b _ _ h1 h2 => by omega) h1 hs
theorem drop_ge {L : List Int} (hs : L.Pairwise (· < ·)) {k : Nat} {x : Int} (h : ∀ y, L[k]? = some y → x ≤ y) : ∀ y ∈ L.drop k, x ≤ y := by
  intro y hy
  cases hd : L.drop k with
  | nil => rw [hd] at hy; cases hy
  | cons z t =>
    have hz : L[k]? = some z := by have := congrArg (fun l => l[0]?) hd; simpa using this
    have h0 := h z hz
    have hp := hs.sublist (List.drop_sublist k L)
    rw [hd] at hy hp
    rcases List.mem_cons.1 hy with rfl | hy
    · exact h0
    · have := (List.pairwise_cons.1 hp).1 y hy; omega
/-- a list that came out of another one's: that one, or new -/
def Out (w : World) (v : Value) (L' : List Int) (v' : Value) (w' : World) : Prop := w'.ownsRow 0 TI 1 v' L'.length (L'.map encZ) ∧ (v' = v ∨ ∀ g, v'.ownBlock = some g → w.heap.size ≤ g)
set_option maxRecDepth 100000 in
set_option maxHeartbeats 4000000 in
theorem insert_some (g cap : Nat) (L : List Int) (hL : L.length ≤ 100000) (hs : L.Pairwise (· < ·)) (x : Int) (hx : -9223372036854775808 ≤ x ∧ x ≤ 9223372036854775807) (hLb : ∀ y ∈ L, -9223372036854775808 ≤ y ∧ y ≤ 9223372036854775807) (w : World) (hv : w.ownsRow 0 TI 1 (.slice (some ⟨g, 0, none⟩) L.length cap) L.length (L.map encZ)) :
    Calls Try.prog 7 #[.slice (some ⟨g, 0, none⟩) L.length cap, .int .i64 x] w fun e w' => ∃ v', e = .returned (.tuple #[v', .bool (!decide (x ∈ L))]) ∧ Below w.heap.size w w' ∧ Out w (.slice (some ⟨g, 0, none⟩) L.length cap) (insI L x) v' w' := by
  have HV := Lib.hid hv
  have HS := Lib.hid hs
  have hcap : L.length ≤ cap := by
    obtain ⟨-, ⟨h, -⟩ | ⟨_, _, _, e, _, _, h, _⟩⟩ := hv
    · cases h
    · simp only [Value.slice.injEq] at e; omega
  have hg : g < w.heap.size := (hv.lt g rfl).2
  obtain ⟨n, hn⟩ : ∃ n, L.length = n := ⟨_, rfl⟩
  rw [hn] at HV hcap hL ⊢
  have HN := Lib.hid hn
  have HLB := Lib.hid hLb
  have hn0 : (0 : Int) ≤ (n : Int) := by omega
  have hn1 : (n : Int) ≤ 100000 := by omega
  clear hv hs hn hLb
  have HC := Lib.hid (fun (k : Nat) (hk : k < n) (u : Int) (hu : L[k]? = some u) => show w.cell? ⟨g, k, none⟩ = some (.int .i64 u) from by
    obtain ⟨g', e, -, -, hc, -⟩ := owns_cellAt HV.out (by omega)
    simp only [Option.some.injEq, Addr.mk.injEq, and_true] at e
    subst e
    have := hc k (by omega)
    rw [List.getElem?_map, hu] at this
    exact this)
  go_enter Try.func7, Try.ntmps7
  go_upto_block 0 with fail
  go_cut [6] from 7 to 20 (fun i wx => ∃ k : Nat, i = .int .i64 (k : Int) ∧ k ≤ n ∧ wx = w ∧ Hid ((∀ y ∈ L.take k, y < x) ∧ ∀ y, L[k]? = some y → x ≤ y))
  case first =>
    go_wp2_with fail
    go_loop [6] (fun i => ∃ k : Nat, i = .int .i64 (k : Int) ∧ k ≤ n ∧ Hid (∀ y ∈ L.take k, y < x)) (fun i => n - (intOf i).toNat)
    case atStart => exact ⟨0, rfl, Nat.zero_le _, Lib.hid (by simp)⟩
    case round =>
      obtain ⟨k, rfl, hk, HT⟩ := hrel
      have hd0 : (0 : Int) ≤ (k : Int) := by omega
      by_cases hkn : k < n
      · have dk : (k : Int) < (n : Int) := by omega
        have hkl : k < L.length := by have := HN.out; omega
        have hu := List.getElem?_eq_getElem hkl
        generalize L[k] = u at hu
        have c0 := HC.out k hkn u hu
        have HU := Lib.hid hu
        clear hu hkl
        by_cases e : u < x
        · go_wp2_with fail
          go_round
          case rel => exact ⟨k + 1, by go_num, by omega, Lib.hid (by
            intro y hy
            rw [List.take_add_one, HU.out] at hy
            rcases List.mem_append.1 hy with hy | hy
            · exact HT.out y hy
            · simp at hy; subst hy; exact e)⟩
          case measure => simp [intOf]; omega
        · have e2 : x ≤ u := by omega
          go_wp2_with fail
          go_meet
          exact ⟨k, rfl, hk, rfl, Lib.hid ⟨HT.out, fun y hy => by rw [HU.out] at hy; cases hy; exact e2⟩⟩
      · have dk : ¬ (k : Int) < (n : Int) := by omega
        go_wp2_with fail
        go_meet
        exact ⟨k, rfl, hk, rfl, Lib.hid ⟨HT.out, fun y hy => by
          have := (List.getElem?_eq_some_iff.1 hy).1
          have := HN.out; omega⟩⟩
  case rest =>
  obtain ⟨k, rfl, hk, rfl, HT⟩ := hcut
  have hd0 : (0 : Int) ≤ (k : Int) := by omega
  have hd1 : (k : Int) ≤ (n : Int) := by omega
  by_cases hin : k < n ∧ L[k]? = some x
  · obtain ⟨hkn, hu⟩ := hin
    have dk : (k : Int) < (n : Int) := by omega
    have c0 := HC.out k hkn x hu
    have hmem := List.mem_of_getElem? hu
    have e1 := insI_of_mem HS.out hmem
    have e2 : (!decide (x ∈ L)) = false := by simp [hmem]
    have he : (x == x) = true := by simp
    have HE := Lib.hid (And.intro e1 e2)
    clear hu hmem e1 e2
    go_wp2_with fail
    refine bodyPost_ret (v := .tuple #[.slice (some ⟨g, 0, none⟩) n cap, .bool false]) (by simp [results, Try.results7, go_sem]) rfl ?_
    exact ⟨_, by rw [HE.out.2], Below.refl _ _, by rw [HE.out.1, HN.out]; exact HV.out, .inl rfl⟩
  · have HP : Hid (L.take k ++ x :: L.drop k = insI L x ∧ x ∉ L) := Lib.hid (by
      have h3 : x ∉ L := by
        intro hm
        rw [← List.take_append_drop k L] at hm
        rcases List.mem_append.1 hm with hm | hm
        · have := HT.out.1 x hm; omega
        · have h := drop_ge HS.out HT.out.2
          cases hd : L.drop k with
          | nil => rw [hd] at hm; cases hm
          | cons z t =>
            have hz : L[k]? = some z := by have := congrArg (fun l => l[0]?) hd; simpa using this
            have hkl := (List.getElem?_eq_some_iff.1 hz).1
            have hzx := HT.out.2 z hz
            have hp := HS.out.sublist (List.drop_sublist k L)
            rw [hd] at hm hp
            rcases List.mem_cons.1 hm with rfl | hm
            · exact hin ⟨by have := HN.out; omega, hz⟩
            · have := (List.pairwise_cons.1 hp).1 x hm; omega
      exact ⟨insI_at HS.out x k (by have := HN.out; omega) HT.out.1 (drop_ge HS.out HT.out.2) h3, h3⟩)
    have e2 : (!decide (x ∈ L)) = true := by simp [HP.out.2]
    have HE := Lib.hid e2
    clear e2
    have HRT := Lib.hid (sub_take (Row.of_owns HV.out) k hk cap)
    obtain ⟨i0, hi, hz0, hz1, hz2⟩ := info_of infoI
    obtain ⟨A, hA, HRD⟩ : ∃ A : Option Addr, (if cap = k then some (⟨g, 0, none⟩ : Addr) else some ⟨g, k, none⟩) = A ∧ Hid (∀ W, Below wc.heap.size wc W → Row W (.slice A (n - k) (cap - k)) 1 (n - k) ((L.map encZ).drop k)) :=
      ⟨_, rfl, Lib.hid (fun W hb => by have := sub_drop ((Row.of_owns HV.out).later hb) k hk (cap - k) (if cap = k then some (⟨g, 0, none⟩ : Addr) else some ⟨g, k, none⟩) (fun h => by rw [if_neg (by omega)]; simp); simpa using this)⟩
    have h63 : n ≤ maxLen := by unfold maxLen; omega
    have hcc : (k : Int) ≤ (cap : Int) := by omega
    have HONE1 := Lib.hid (one_part (one_encZ L) (fun u (h : u ∈ (L.map encZ).take (k * 1)) => List.mem_of_mem_take h))
    have HONE3 := Lib.hid (one_part (one_encZ L) (fun u (h : u ∈ (L.map encZ).drop k) => List.mem_of_mem_drop h))
    have hcase : (∃ u, k < n ∧ L[k]? = some u ∧ (u == x) = false) ∨ ¬ k < n := by
      by_cases hkn : k < n
      · have hkl : k < L.length := by have := HN.out; omega
        have hu := List.getElem?_eq_getElem hkl
        exact .inl ⟨_, hkn, hu, by
          have : L[k] ≠ x := fun e => hin ⟨hkn, by rw [hu, e]⟩
          simpa using this⟩
      · exact .inr hkn
    clear hin
    rcases hcase with ⟨u, hkn, hu, hux⟩ | hkn
    all_goals first
      | (have dk : (k : Int) < (n : Int) := (by omega); have c0 := HC.out k hkn u hu; clear hu; go_upto_region 6 with fail)
      | (have dk : ¬ (k : Int) < (n : Int) := (by omega); go_upto_region 6 with fail)
    all_goals
      apply ag.region_chain  (ag.Spec.sat (ag.Ch (wc.heap.size) TI 1 (0) ([])) ag.grew :: ag.Spec.val _ :: ag.Spec.val _ :: ag.Spec.val _ :: ag.Spec.sat (ag.Ch (wc.heap.size) TI 1 (0 + k) ([] ++ (L.map encZ).take (k * 1))) (ag.tk (wc.heap.size) TI 1 (0)) :: ag.Spec.val _ :: ag.Spec.sat (ag.Ch (wc.heap.size) TI 1 (1) ([Value.int .i64 x])) ag.grew :: ag.Spec.sat (ag.Ch (wc.heap.size) TI 1 ((0 + k) + 1) (([] ++ (L.map encZ).take (k * 1)) ++ [Value.int .i64 x])) (ag.tk (wc.heap.size) TI 1 ((0 + k))) :: ag.Spec.val _ :: ag.Spec.val _ :: ag.Spec.val _ :: ag.Spec.sat (ag.Ch (wc.heap.size) TI 1 ((0 + k + 1) + (n - k)) (([] ++ (L.map encZ).take (k * 1) ++ [Value.int .i64 x]) ++ (L.map encZ).drop k)) (ag.tk (wc.heap.size) TI 1 ((0 + k + 1))) :: ag.Spec.cpy 11 :: ag.Spec.val _ :: [])
      case hm => kernel_rfl
      case hB => kernel_rfl
      case hlen => rfl
      case hc => exact ⟨.inl rfl, .inr (fun f w w' h => h.1), .inl rfl, .inr (fun f w w' h => h.1), .inr (fun f w w' h => h.1), trivial⟩
      case hst =>
        simp only [ag.Stab, ag.Row2, ag.Ok2, and_true]
        repeat' apply And.intro
        all_goals first
          | exact fun h => absurd rfl h
          | exact fun _ _ f v W W' _ hv _ ht => ag.Ch.lasts v W W' hv ht
          | exact fun _ _ f v W W' _ hv _ ht => ag.Ch.stays hv ht (by omega)
          | trivial
          | exact fun _ h => absurd (h.symm.trans (show _ = true by kernel_rfl)) (by decide)
      refine ag.walk_such (by rfl) (fun W1 hS hE => ?_) (fun y0 => ?_)
      · have hX := hS.size
        clear hE
        unfold ag.does
        go_simp
        exact ⟨ag.Ch.new W1 ([]) (by simp) hX (by decide), (Below.refl _ _).alloc (Nat.le_refl _) _⟩
      simp only [Act.put, List.setIfInBounds_toArray, List.set_cons_zero, List.set_cons_succ]
      apply ag.walk_val
      · rfl
      · intro W1 hS hE
        clear hS hE
        unfold ag.does
        go_simp
        first | done | exact ⟨rfl, rfl⟩ | rfl | (exact ⟨by go_num, rfl⟩) | (simp; done) | trace_state
      simp only [Act.put, List.setIfInBounds_toArray, List.set_cons_zero, List.set_cons_succ]
      apply ag.walk_val
      · rfl
      · intro W1 hS hE
        clear hS hE
        unfold ag.does
        go_simp
        first | done | exact ⟨rfl, rfl⟩ | rfl | (exact ⟨by go_num, rfl⟩) | (simp; done) | trace_state
      simp only [Act.put, List.setIfInBounds_toArray, List.set_cons_zero, List.set_cons_succ]
      apply ag.walk_val
      · rfl
      · intro W1 hS hE
        clear hS hE
        unfold ag.does
        go_simp
        first | done | exact ⟨rfl, rfl⟩ | rfl | (exact ⟨by go_num, rfl⟩) | (simp; done) | trace_state
      simp only [Act.put, List.setIfInBounds_toArray, List.set_cons_zero, List.set_cons_succ]
      refine ag.walk_sat (by rfl) (fun W1 hS hE => ?_) (fun y4 => ?_)
      · have own := hE.of 0 (by kernel_rfl)
        simp only [ag.lookE, if_true, Nat.reduceEqDiff, if_false] at own
        clear hE
        have hX := hS.size
        refine ag.does_chain (.tmp 34) (.tmp 37) 29 (by rfl) (wc.heap.size) TI i0 (.int .i64 0) 1 8 Try.underlying29 hi hz0 hz1 hz2 rfl (by decide) y0 (0) ([]) (by rfl) own (.slice (some ⟨g, 0, none⟩) k cap) (k) ((L.map encZ).take (k * 1)) (by rfl) (HRT.out.later hS) (HONE1.out) (by simp only [maxLen]; omega) (by omega) hX _ _ _
      simp only [Act.put, List.setIfInBounds_toArray, List.set_cons_zero, List.set_cons_succ]
      apply ag.walk_val
      · rfl
      · intro W1 hS hE
        clear hS hE
        unfold ag.does
        go_simp
        first | done | exact ⟨rfl, rfl⟩ | rfl | (exact ⟨by go_num, rfl⟩) | (simp; done) | trace_state
      simp only [Act.put, List.setIfInBounds_toArray, List.set_cons_zero, List.set_cons_succ]
      refine ag.walk_such (by rfl) (fun W1 hS hE => ?_) (fun y6 => ?_)
      · have hX := hS.size
        clear hE
        unfold ag.does
        go_simp
        exact ⟨ag.Ch.new W1 ([Value.int .i64 x]) (by simp) hX (by decide), (Below.refl _ _).alloc (Nat.le_refl _) _⟩
      simp only [Act.put, List.setIfInBounds_toArray, List.set_cons_zero, List.set_cons_succ]
      refine ag.walk_sat (by rfl) (fun W1 hS hE => ?_) (fun y7 => ?_)
      · have own := hE.of 4 (by kernel_rfl)
        simp only [ag.lookE, if_true, Nat.reduceEqDiff, if_false] at own
        have box := hE.of 6 (by kernel_rfl)
        simp only [ag.lookE, if_true, Nat.reduceEqDiff, if_false] at box
        clear hE
        have hX := hS.size
        refine ag.does_chain (.tmp 38) (.tmp 40) 29 (by rfl) (wc.heap.size) TI i0 (.int .i64 0) 1 8 Try.underlying29 hi hz0 hz1 hz2 rfl (by decide) y4 ((0 + k)) (([] ++ (L.map encZ).take (k * 1))) (by rfl) own (y6) (1) ([Value.int .i64 x]) (by rfl) (box.row) ((by simp [Value.oneCell'])) (by simp only [maxLen]; omega) (by omega) hX _ _ _
      simp only [Act.put, List.setIfInBounds_toArray, List.set_cons_zero, List.set_cons_succ]
      apply ag.walk_val
      · rfl
      · intro W1 hS hE
        clear hS hE
        unfold ag.does
        go_simp
        first | done | exact ⟨rfl, rfl⟩ | rfl | (exact ⟨by go_num, rfl⟩) | (simp; done) | trace_state
      simp only [Act.put, List.setIfInBounds_toArray, List.set_cons_zero, List.set_cons_succ]
      apply ag.walk_val
      · rfl
      · intro W1 hS hE
        clear hS hE
        unfold ag.does
        go_simp
        first | done | exact ⟨rfl, rfl⟩ | rfl | (exact ⟨by go_num, rfl⟩) | (simp; done) | trace_state
      simp only [Act.put, List.setIfInBounds_toArray, List.set_cons_zero, List.set_cons_succ]
      apply ag.walk_val
      · rfl
      · intro W1 hS hE
        clear hS hE
        unfold ag.does
        go_simp
        first | done | exact ⟨rfl, rfl⟩ | rfl | (exact ⟨by go_num, rfl⟩) | (simp; done) | trace_state
      simp only [Act.put, List.setIfInBounds_toArray, List.set_cons_zero, List.set_cons_succ]
      refine ag.walk_sat (by rfl) (fun W1 hS hE => ?_) (fun y11 => ?_)
      · have own := hE.of 7 (by kernel_rfl)
        simp only [ag.lookE, if_true, Nat.reduceEqDiff, if_false] at own
        clear hE
        have hX := hS.size
        refine ag.does_chain (.tmp 41) (.tmp 44) 29 (by rfl) (wc.heap.size) TI i0 (.int .i64 0) 1 8 Try.underlying29 hi hz0 hz1 hz2 rfl (by decide) y7 ((0 + k + 1)) (([] ++ (L.map encZ).take (k * 1) ++ [Value.int .i64 x])) (by rfl) own (.slice A (n - k) (cap - k)) ((n - k)) ((L.map encZ).drop k) (by rfl) (HRD.out _ hS) (HONE3.out) (by simp only [maxLen]; omega) (by omega) hX _ _ _
      simp only [Act.put, List.setIfInBounds_toArray, List.set_cons_zero, List.set_cons_succ]
      refine ag.walk_cpy (by kernel_rfl) (by rfl) (by rfl) (fun W1 hS hE => ?_) ?_
      · clear hS hE
        unfold ag.does
        go_simp
        first | exact ⟨rfl, rfl⟩ | rfl
      simp only [ag.lookX, Nat.reduceAdd, Nat.reduceEqDiff, if_false, if_true]
      simp only [Act.put, List.setIfInBounds_toArray, List.set_cons_zero, List.set_cons_succ]
      apply ag.walk_val
      · rfl
      · intro W1 hS hE
        clear hS hE
        unfold ag.does
        go_simp
        first | done | exact ⟨rfl, rfl⟩ | rfl | (exact ⟨by go_num, rfl⟩) | (simp; done) | trace_state
      simp only [Act.put, List.setIfInBounds_toArray, List.set_cons_zero, List.set_cons_succ]
      refine ag.walk_nil (fun w9 hS hF hP => ?_)
      clear hP
      have h11 := hF.of 11
      simp only [ag.lookE, Nat.reduceEqDiff, if_false, if_true] at h11
      obtain ⟨⟨a9, c9, rfl, -⟩, ho⟩ := h11
      have HO := Lib.hid ho
      have HS9 := Lib.hid hS
      clear hF hS ho
      go_wp2_with fail
      refine bodyPost_ret (v := .tuple #[.slice a9 (0 + k + 1 + (n - k)) c9, .bool true]) (by simp [results, Try.results7, go_sem]) rfl ?_
      have hlen : (insI L x).length = 0 + k + 1 + (n - k) := by rw [← HP.out.1, List.length_append, List.length_cons, List.length_take, List.length_drop, HN.out]; omega
      have hcs : (insI L x).map encZ = [] ++ (L.map encZ).take (k * 1) ++ [Value.int .i64 x] ++ (L.map encZ).drop k := by rw [← HP.out.1, List.map_append, List.map_cons, List.map_take, List.map_drop, Nat.mul_one]; simp
      exact ⟨_, by rw [HE.out], HS9.out, ⟨by rw [hlen, hcs]; exact owns_base HO.out (fun g hg => Nat.zero_le _), .inr fun g hg => (HO.out.lt g hg).1⟩⟩
set_option maxRecDepth 100000 in
set_option maxHeartbeats 4000000 in
theorem insert_nil (x : Int) (hx : -9223372036854775808 ≤ x ∧ x ≤ 9223372036854775807) (w : World) :
    Calls Try.prog 7 #[.slice none 0 0, .int .i64 x] w fun e w' => ∃ v', e = .returned (.tuple #[v', .bool true]) ∧ Below w.heap.size w w' ∧ Out w (.slice none 0 0) [x] v' w' := by
  obtain ⟨i0, hi, hz0, hz1, hz2⟩ := info_of infoI
  go_enter Try.func7, Try.ntmps7
  go_wp2_with fail
  go_loop [6] (fun i => i = .int .i64 0) (fun i => 0)
  case atStart => rfl
  case round =>
    subst hrel
    go_upto_region 6 with fail
    apply ag.region_chain  (ag.Spec.sat (ag.Ch (w.heap.size) TI 1 (0) ([])) ag.grew :: ag.Spec.val _ :: ag.Spec.val _ :: ag.Spec.val _ :: ag.Spec.sat (ag.Ch (w.heap.size) TI 1 (0 + 0) ([] ++ [])) (ag.tk (w.heap.size) TI 1 (0)) :: ag.Spec.val _ :: ag.Spec.sat (ag.Ch (w.heap.size) TI 1 (1) ([Value.int .i64 x])) ag.grew :: ag.Spec.sat (ag.Ch (w.heap.size) TI 1 ((0 + 0) + 1) (([] ++ []) ++ [Value.int .i64 x])) (ag.tk (w.heap.size) TI 1 ((0 + 0))) :: ag.Spec.val _ :: ag.Spec.val _ :: ag.Spec.val _ :: ag.Spec.sat (ag.Ch (w.heap.size) TI 1 ((0 + 0 + 1) + 0) (([] ++ [] ++ [Value.int .i64 x]) ++ [])) (ag.tk (w.heap.size) TI 1 ((0 + 0 + 1))) :: ag.Spec.cpy 11 :: ag.Spec.val _ :: [])
    case hm => kernel_rfl
    case hB => kernel_rfl
    case hlen => rfl
    case hc => exact ⟨.inl rfl, .inr (fun f w w' h => h.1), .inl rfl, .inr (fun f w w' h => h.1), .inr (fun f w w' h => h.1), trivial⟩
    case hst =>
      simp only [ag.Stab, ag.Row2, ag.Ok2, and_true]
      repeat' apply And.intro
      all_goals first
        | exact fun h => absurd rfl h
        | exact fun _ _ f v W W' _ hv _ ht => ag.Ch.lasts v W W' hv ht
        | exact fun _ _ f v W W' _ hv _ ht => ag.Ch.stays hv ht (by omega)
        | trivial
        | exact fun _ h => absurd (h.symm.trans (show _ = true by kernel_rfl)) (by decide)
    refine ag.walk_such (by rfl) (fun W1 hS hE => ?_) (fun y0 => ?_)
    · have hX := hS.size
      clear hE
      unfold ag.does
      go_simp
      exact ⟨ag.Ch.new W1 ([]) (by simp) hX (by decide), (Below.refl _ _).alloc (Nat.le_refl _) _⟩
    simp only [Act.put, List.setIfInBounds_toArray, List.set_cons_zero, List.set_cons_succ]
    apply ag.walk_val
    · rfl
    · intro W1 hS hE
      clear hS hE
      unfold ag.does
      go_simp
      first | done | exact ⟨rfl, rfl⟩ | rfl | (exact ⟨by go_num, rfl⟩) | (simp; done) | trace_state
    simp only [Act.put, List.setIfInBounds_toArray, List.set_cons_zero, List.set_cons_succ]
    apply ag.walk_val
    · rfl
    · intro W1 hS hE
      clear hS hE
      unfold ag.does
      go_simp
      first | done | exact ⟨rfl, rfl⟩ | rfl | (exact ⟨by go_num, rfl⟩) | (simp; done) | trace_state
    simp only [Act.put, List.setIfInBounds_toArray, List.set_cons_zero, List.set_cons_succ]
    apply ag.walk_val
    · rfl
    · intro W1 hS hE
      clear hS hE
      unfold ag.does
      go_simp
      first | done | exact ⟨rfl, rfl⟩ | rfl | (exact ⟨by go_num, rfl⟩) | (simp; done) | trace_state
    simp only [Act.put, List.setIfInBounds_toArray, List.set_cons_zero, List.set_cons_succ]
    refine ag.walk_sat (by rfl) (fun W1 hS hE => ?_) (fun y4 => ?_)
    · have own := hE.of 0 (by kernel_rfl)
      simp only [ag.lookE, if_true, Nat.reduceEqDiff, if_false] at own
      clear hE
      have hX := hS.size
      refine ag.does_chain (.tmp 34) (.tmp 37) 29 (by rfl) (w.heap.size) TI i0 (.int .i64 0) 1 8 Try.underlying29 hi hz0 hz1 hz2 rfl (by decide) y0 (0) ([]) (by rfl) own (.slice none 0 0) (0) ([]) (by rfl) (Row.nil _ 1 _ _) ((by simp)) (by simp only [maxLen]; omega) (by omega) hX _ _ _
    simp only [Act.put, List.setIfInBounds_toArray, List.set_cons_zero, List.set_cons_succ]
    apply ag.walk_val
    · rfl
    · intro W1 hS hE
      clear hS hE
      unfold ag.does
      go_simp
      first | done | exact ⟨rfl, rfl⟩ | rfl | (exact ⟨by go_num, rfl⟩) | (simp; done) | trace_state
    simp only [Act.put, List.setIfInBounds_toArray, List.set_cons_zero, List.set_cons_succ]
    refine ag.walk_such (by rfl) (fun W1 hS hE => ?_) (fun y6 => ?_)
    · have hX := hS.size
      clear hE
      unfold ag.does
      go_simp
      exact ⟨ag.Ch.new W1 ([Value.int .i64 x]) (by simp) hX (by decide), (Below.refl _ _).alloc (Nat.le_refl _) _⟩
    simp only [Act.put, List.setIfInBounds_toArray, List.set_cons_zero, List.set_cons_succ]
    refine ag.walk_sat (by rfl) (fun W1 hS hE => ?_) (fun y7 => ?_)
    · have own := hE.of 4 (by kernel_rfl)
      simp only [ag.lookE, if_true, Nat.reduceEqDiff, if_false] at own
      have box := hE.of 6 (by kernel_rfl)
      simp only [ag.lookE, if_true, Nat.reduceEqDiff, if_false] at box
      clear hE
      have hX := hS.size
      refine ag.does_chain (.tmp 38) (.tmp 40) 29 (by rfl) (w.heap.size) TI i0 (.int .i64 0) 1 8 Try.underlying29 hi hz0 hz1 hz2 rfl (by decide) y4 ((0 + 0)) (([] ++ [])) (by rfl) own (y6) (1) ([Value.int .i64 x]) (by rfl) (box.row) ((by simp [Value.oneCell'])) (by simp only [maxLen]; omega) (by omega) hX _ _ _
    simp only [Act.put, List.setIfInBounds_toArray, List.set_cons_zero, List.set_cons_succ]
    apply ag.walk_val
    · rfl
    · intro W1 hS hE
      clear hS hE
      unfold ag.does
      go_simp
      first | done | exact ⟨rfl, rfl⟩ | rfl | (exact ⟨by go_num, rfl⟩) | (simp; done) | trace_state
    simp only [Act.put, List.setIfInBounds_toArray, List.set_cons_zero, List.set_cons_succ]
    apply ag.walk_val
    · rfl
    · intro W1 hS hE
      clear hS hE
      unfold ag.does
      go_simp
      first | done | exact ⟨rfl, rfl⟩ | rfl | (exact ⟨by go_num, rfl⟩) | (simp; done) | trace_state
    simp only [Act.put, List.setIfInBounds_toArray, List.set_cons_zero, List.set_cons_succ]
    apply ag.walk_val
    · rfl
    · intro W1 hS hE
      clear hS hE
      unfold ag.does
      go_simp
      first | done | exact ⟨rfl, rfl⟩ | rfl | (exact ⟨by go_num, rfl⟩) | (simp; done) | trace_state
    simp only [Act.put, List.setIfInBounds_toArray, List.set_cons_zero, List.set_cons_succ]
    refine ag.walk_sat (by rfl) (fun W1 hS hE => ?_) (fun y11 => ?_)
    · have own := hE.of 7 (by kernel_rfl)
      simp only [ag.lookE, if_true, Nat.reduceEqDiff, if_false] at own
      clear hE
      have hX := hS.size
      refine ag.does_chain (.tmp 41) (.tmp 44) 29 (by rfl) (w.heap.size) TI i0 (.int .i64 0) 1 8 Try.underlying29 hi hz0 hz1 hz2 rfl (by decide) y7 ((0 + 0 + 1)) (([] ++ [] ++ [Value.int .i64 x])) (by rfl) own (.slice none 0 0) (0) ([]) (by rfl) (Row.nil _ 1 _ _) ((by simp)) (by simp only [maxLen]; omega) (by omega) hX _ _ _
    simp only [Act.put, List.setIfInBounds_toArray, List.set_cons_zero, List.set_cons_succ]
    refine ag.walk_cpy (by kernel_rfl) (by rfl) (by rfl) (fun W1 hS hE => ?_) ?_
    · clear hS hE
      unfold ag.does
      go_simp
      first | exact ⟨rfl, rfl⟩ | rfl
    simp only [ag.lookX, Nat.reduceAdd, Nat.reduceEqDiff, if_false, if_true]
    simp only [Act.put, List.setIfInBounds_toArray, List.set_cons_zero, List.set_cons_succ]
    apply ag.walk_val
    · rfl
    · intro W1 hS hE
      clear hS hE
      unfold ag.does
      go_simp
      first | done | exact ⟨rfl, rfl⟩ | rfl | (exact ⟨by go_num, rfl⟩) | (simp; done) | trace_state
    simp only [Act.put, List.setIfInBounds_toArray, List.set_cons_zero, List.set_cons_succ]
    refine ag.walk_nil (fun w9 hS hF hP => ?_)
    clear hP
    have h11 := hF.of 11
    simp only [ag.lookE, Nat.reduceEqDiff, if_false, if_true] at h11
    obtain ⟨⟨a9, c9, rfl, -⟩, ho⟩ := h11
    have HO := Lib.hid ho
    have HS9 := Lib.hid hS
    clear hF hS ho
    go_wp2_with fail
    refine bodyPost_ret (v := .tuple #[.slice a9 (0 + 0 + 1 + 0) c9, .bool true]) (by simp [results, Try.results7, go_sem]) rfl ?_
    exact ⟨_, rfl, HS9.out, ⟨owns_base HO.out (fun g hg => Nat.zero_le _), .inr fun g hg => (HO.out.lt g hg).1⟩⟩
theorem insert_any (v : Value) (L : List Int) (hL : L.length ≤ 100000) (hs : L.Pairwise (· < ·)) (x : Int) (hx : -9223372036854775808 ≤ x ∧ x ≤ 9223372036854775807) (hLb : ∀ y ∈ L, -9223372036854775808 ≤ y ∧ y ≤ 9223372036854775807) (w : World) (hv : w.ownsRow 0 TI 1 v L.length (L.map encZ)) :
    Calls Try.prog 7 #[v, .int .i64 x] w fun e w' => ∃ v', e = .returned (.tuple #[v', .bool (!decide (x ∈ L))]) ∧ Below w.heap.size w w' ∧ Out w v (insI L x) v' w' := by
  rcases hv.2 with ⟨rfl, h0⟩ | ⟨g, cap, cur, rfl, hrest⟩
  · obtain rfl : L = [] := by simpa using h0
    exact (insert_nil x hx w).mono fun e w' h => by simpa [insI] using h
  · exact insert_some g cap L hL hs x hx hLb w hv
/-- a number taken out -/
theorem delI_at {L : List Int} (hs : L.Pairwise (· < ·)) {x : Int} {k : Nat} (hk : L[k]? = some x) : L.take k ++ L.drop (k + 1) = delI L x := by
  obtain ⟨hl, he⟩ := List.getElem?_eq_some_iff.1 hk
  have e : L = L.take k ++ x :: L.drop (k + 1) := by rw [← he, ← List.drop_eq_getElem_cons hl, List.take_append_drop]
  have hp := hs
  rw [e] at hp
  obtain ⟨-, hp2, hp3⟩ := List.pairwise_append.1 hp
  have hp4 := (List.pairwise_cons.1 hp2).1
  unfold delI
  conv => rhs; rw [e]
  rw [List.filter_append, List.filter_cons]
  rw [List.filter_eq_self.2 (fun y hy => by have := hp3 y hy x (by simp); simp; omega), List.filter_eq_self.2 (fun y hy => by have := hp4 y hy; simp; omega)]
  simp
theorem delI_of_not {L : List Int} {x : Int} (h : x ∉ L) : delI L x = L := List.filter_eq_self.2 (fun y hy => by
  have : y ≠ x := fun e => h (e ▸ hy)
  simpa using this)
set_option maxRecDepth 100000 in
set_option maxHeartbeats 4000000 in
theorem remove_some (g cap : Nat) (L : List Int) (hL : L.length ≤ 100000) (hs : L.Pairwise (· < ·)) (x : Int) (hx : -9223372036854775808 ≤ x ∧ x ≤ 9223372036854775807) (hLb : ∀ y ∈ L, -9223372036854775808 ≤ y ∧ y ≤ 9223372036854775807) (w : World) (hv : w.ownsRow 0 TI 1 (.slice (some ⟨g, 0, none⟩) L.length cap) L.length (L.map encZ)) :
    Calls Try.prog 9 #[.slice (some ⟨g, 0, none⟩) L.length cap, .int .i64 x] w fun e w' => ∃ v', e = .returned (.tuple #[v', .bool (decide (x ∈ L))]) ∧ Below w.heap.size w w' ∧ Out w (.slice (some ⟨g, 0, none⟩) L.length cap) (delI L x) v' w' := by
  have HV := Lib.hid hv
  have HS := Lib.hid hs
  have hcap : L.length ≤ cap := by
    obtain ⟨-, ⟨h, -⟩ | ⟨_, _, _, e, _, _, h, _⟩⟩ := hv
    · cases h
    · simp only [Value.slice.injEq] at e; omega
  have hg : g < w.heap.size := (hv.lt g rfl).2
  obtain ⟨n, hn⟩ : ∃ n, L.length = n := ⟨_, rfl⟩
  rw [hn] at HV hcap hL ⊢
  have HN := Lib.hid hn
  have HLB := Lib.hid hLb
  have hn0 : (0 : Int) ≤ (n : Int) := by omega
  have hn1 : (n : Int) ≤ 100000 := by omega
  clear hv hs hn hLb
  have HC := Lib.hid (fun (k : Nat) (hk : k < n) (u : Int) (hu : L[k]? = some u) => show w.cell? ⟨g, k, none⟩ = some (.int .i64 u) from by
    obtain ⟨g', e, -, -, hc, -⟩ := owns_cellAt HV.out (by omega)
    simp only [Option.some.injEq, Addr.mk.injEq, and_true] at e
    subst e
    have := hc k (by omega)
    rw [List.getElem?_map, hu] at this
    exact this)
  obtain ⟨i0, hi, hz0, hz1, hz2⟩ := info_of infoI
  have h63 : n ≤ maxLen := by unfold maxLen; omega
  go_enter Try.func9, Try.ntmps9
  go_wp2_with fail
  go_loop [6] (fun i => ∃ k : Nat, i = .int .i64 (k : Int) ∧ k ≤ n ∧ Hid (x ∉ L.take k)) (fun i => n - (intOf i).toNat)
  case atStart => exact ⟨0, rfl, Nat.zero_le _, Lib.hid (by simp)⟩
  case round =>
    obtain ⟨k, rfl, hk, HT⟩ := hrel
    have hd0 : (0 : Int) ≤ (k : Int) := by omega
    by_cases hkn : k < n
    · have dk : (k : Int) < (n : Int) := by omega
      have hkl : k < L.length := by have := HN.out; omega
      have hu := List.getElem?_eq_getElem hkl
      generalize L[k] = u at hu
      have c0 := HC.out k hkn u hu
      have HU := Lib.hid hu
      clear hu hkl
      by_cases e : u = x
      · subst e
        have HE : Hid (decide (u ∈ L) = true ∧ L.take k ++ L.drop (k + 1) = delI L u) := Lib.hid ⟨by simp [List.mem_of_getElem? HU.out], delI_at HS.out HU.out⟩
        have hcc : (k : Int) ≤ (cap : Int) := by omega
        have hcd : (k : Int) + 1 ≤ (n : Int) := by omega
        have hk1 : ((k : Int) + 1).toNat = k + 1 := by omega
        have hw1 : IntKind.i64.wrap ((k : Int) + 1) = (k : Int) + 1 := Go.IntWalk.i64_in _ (by omega)
        have HRT := Lib.hid (sub_take (Row.of_owns HV.out) k hk cap)
        obtain ⟨A, hA, HRD⟩ : ∃ A : Option Addr, (if cap = k + 1 then some (⟨g, 0, none⟩ : Addr) else some ⟨g, k + 1, none⟩) = A ∧ Hid (∀ W, Below w.heap.size w W → Row W (.slice A (n - (k + 1)) (cap - (k + 1))) 1 (n - (k + 1)) ((L.map encZ).drop (k + 1))) :=
          ⟨_, rfl, Lib.hid (fun W hb => by have := sub_drop ((Row.of_owns HV.out).later hb) (k + 1) hkn (cap - (k + 1)) (if cap = k + 1 then some (⟨g, 0, none⟩ : Addr) else some ⟨g, k + 1, none⟩) (fun h => by rw [if_neg (by omega)]; simp); simpa using this)⟩
        have HONE1 := Lib.hid (one_part (one_encZ L) (fun u (h : u ∈ (L.map encZ).take (k * 1)) => List.mem_of_mem_take h))
        have HONE3 := Lib.hid (one_part (one_encZ L) (fun u (h : u ∈ (L.map encZ).drop (k + 1)) => List.mem_of_mem_drop h))
        have he : (u == u) = true := by simp
        go_upto_region 5 with fail
        apply ag.region_chain  (ag.Spec.sat (ag.Ch (w.heap.size) TI 1 (0) ([])) ag.grew :: ag.Spec.val _ :: ag.Spec.val _ :: ag.Spec.val _ :: ag.Spec.sat (ag.Ch (w.heap.size) TI 1 (0 + k) ([] ++ (L.map encZ).take (k * 1))) (ag.tk (w.heap.size) TI 1 (0)) :: ag.Spec.val _ :: ag.Spec.val _ :: ag.Spec.val _ :: ag.Spec.val _ :: ag.Spec.sat (ag.Ch (w.heap.size) TI 1 ((0 + k) + (n - (k + 1))) (([] ++ (L.map encZ).take (k * 1)) ++ (L.map encZ).drop (k + 1))) (ag.tk (w.heap.size) TI 1 ((0 + k))) :: ag.Spec.cpy 9 :: ag.Spec.val _ :: [])
        case hm => kernel_rfl
        case hB => kernel_rfl
        case hlen => rfl
        case hc => exact ⟨.inl rfl, .inr (fun f w w' h => h.1), .inr (fun f w w' h => h.1), trivial⟩
        case hst =>
          simp only [ag.Stab, ag.Row2, ag.Ok2, and_true]
          repeat' apply And.intro
          all_goals first
            | exact fun h => absurd rfl h
            | exact fun _ _ f v W W' _ hv _ ht => ag.Ch.lasts v W W' hv ht
            | exact fun _ _ f v W W' _ hv _ ht => ag.Ch.stays hv ht (by omega)
            | trivial
            | exact fun _ h => absurd (h.symm.trans (show _ = true by kernel_rfl)) (by decide)
        refine ag.walk_such (by rfl) (fun W1 hS hE => ?_) (fun y0 => ?_)
        · have hX := hS.size
          clear hE
          unfold ag.does
          go_simp
          exact ⟨ag.Ch.new W1 ([]) (by simp) hX (by decide), (Below.refl _ _).alloc (Nat.le_refl _) _⟩
        simp only [Act.put, List.setIfInBounds_toArray, List.set_cons_zero, List.set_cons_succ]
        apply ag.walk_val
        · rfl
        · intro W1 hS hE
          clear hS hE
          unfold ag.does
          go_simp
          first | done | exact ⟨rfl, rfl⟩ | rfl | (exact ⟨by go_num, rfl⟩) | (simp; done) | trace_state
        simp only [Act.put, List.setIfInBounds_toArray, List.set_cons_zero, List.set_cons_succ]
        apply ag.walk_val
        · rfl
        · intro W1 hS hE
          clear hS hE
          unfold ag.does
          go_simp
          first | done | exact ⟨rfl, rfl⟩ | rfl | (exact ⟨by go_num, rfl⟩) | (simp; done) | trace_state
        simp only [Act.put, List.setIfInBounds_toArray, List.set_cons_zero, List.set_cons_succ]
        apply ag.walk_val
        · rfl
        · intro W1 hS hE
          clear hS hE
          unfold ag.does
          go_simp
          first | done | exact ⟨rfl, rfl⟩ | rfl | (exact ⟨by go_num, rfl⟩) | (simp; done) | trace_state
        simp only [Act.put, List.setIfInBounds_toArray, List.set_cons_zero, List.set_cons_succ]
        refine ag.walk_sat (by rfl) (fun W1 hS hE => ?_) (fun y4 => ?_)
        · have own := hE.of 0 (by kernel_rfl)
          simp only [ag.lookE, if_true, Nat.reduceEqDiff, if_false] at own
          clear hE
          have hX := hS.size
          refine ag.does_chain (.tmp 19) (.tmp 22) 29 (by rfl) (w.heap.size) TI i0 (.int .i64 0) 1 8 Try.underlying29 hi hz0 hz1 hz2 rfl (by decide) y0 (0) ([]) (by rfl) own (.slice (some ⟨g, 0, none⟩) k cap) (k) ((L.map encZ).take (k * 1)) (by rfl) (HRT.out.later hS) (HONE1.out) (by simp only [maxLen]; omega) (by omega) hX _ _ _
        simp only [Act.put, List.setIfInBounds_toArray, List.set_cons_zero, List.set_cons_succ]
        apply ag.walk_val
        · rfl
        · intro W1 hS hE
          clear hS hE
          unfold ag.does
          go_simp
          first | done | exact ⟨rfl, rfl⟩ | rfl | (exact ⟨by go_num, rfl⟩) | (simp; done) | trace_state
        simp only [Act.put, List.setIfInBounds_toArray, List.set_cons_zero, List.set_cons_succ]
        apply ag.walk_val
        · rfl
        · intro W1 hS hE
          clear hS hE
          unfold ag.does
          go_simp
          first | done | exact ⟨rfl, rfl⟩ | rfl | (exact ⟨by go_num, rfl⟩) | (simp; done) | trace_state
        simp only [Act.put, List.setIfInBounds_toArray, List.set_cons_zero, List.set_cons_succ]
        apply ag.walk_val
        · rfl
        · intro W1 hS hE
          clear hS hE
          unfold ag.does
          go_simp
          first | done | exact ⟨rfl, rfl⟩ | rfl | (exact ⟨by go_num, rfl⟩) | (simp; done) | trace_state
        simp only [Act.put, List.setIfInBounds_toArray, List.set_cons_zero, List.set_cons_succ]
        apply ag.walk_val
        · rfl
        · intro W1 hS hE
          clear hS hE
          unfold ag.does
          go_simp
          first | done | exact ⟨rfl, rfl⟩ | rfl | (exact ⟨by go_num, rfl⟩) | (simp; done) | trace_state
        simp only [Act.put, List.setIfInBounds_toArray, List.set_cons_zero, List.set_cons_succ]
        refine ag.walk_sat (by rfl) (fun W1 hS hE => ?_) (fun y9 => ?_)
        · have own := hE.of 4 (by kernel_rfl)
          simp only [ag.lookE, if_true, Nat.reduceEqDiff, if_false] at own
          clear hE
          have hX := hS.size
          refine ag.does_chain (.tmp 23) (.tmp 27) 29 (by rfl) (w.heap.size) TI i0 (.int .i64 0) 1 8 Try.underlying29 hi hz0 hz1 hz2 rfl (by decide) y4 ((0 + k)) (([] ++ (L.map encZ).take (k * 1))) (by rfl) own (.slice A (n - (k + 1)) (cap - (k + 1))) ((n - (k + 1))) ((L.map encZ).drop (k + 1)) (by rfl) (HRD.out _ hS) (HONE3.out) (by simp only [maxLen]; omega) (by omega) hX _ _ _
        simp only [Act.put, List.setIfInBounds_toArray, List.set_cons_zero, List.set_cons_succ]
        refine ag.walk_cpy (by kernel_rfl) (by rfl) (by rfl) (fun W1 hS hE => ?_) ?_
        · clear hS hE
          unfold ag.does
          go_simp
          first | exact ⟨rfl, rfl⟩ | rfl
        simp only [ag.lookX, Nat.reduceAdd, Nat.reduceEqDiff, if_false, if_true]
        simp only [Act.put, List.setIfInBounds_toArray, List.set_cons_zero, List.set_cons_succ]
        apply ag.walk_val
        · rfl
        · intro W1 hS hE
          clear hS hE
          unfold ag.does
          go_simp
          first | done | exact ⟨rfl, rfl⟩ | rfl | (exact ⟨by go_num, rfl⟩) | (simp; done) | trace_state
        simp only [Act.put, List.setIfInBounds_toArray, List.set_cons_zero, List.set_cons_succ]
        refine ag.walk_nil (fun w9 hS hF hP => ?_)
        clear hP
        have h9 := hF.of 9
        simp only [ag.lookE, Nat.reduceEqDiff, if_false, if_true] at h9
        obtain ⟨⟨a9, c9, rfl, -⟩, ho⟩ := h9
        have HO := Lib.hid ho
        have HS9 := Lib.hid hS
        clear hF hS ho
        go_wp2_with fail
        refine bodyPost_ret (v := .tuple #[.slice a9 (0 + k + (n - (k + 1))) c9, .bool true]) (by simp [results, Try.results9, go_sem]) rfl ?_
        have hlen : (delI L u).length = 0 + k + (n - (k + 1)) := by rw [← HE.out.2, List.length_append, List.length_take, List.length_drop, HN.out]; omega
        have hcs : (delI L u).map encZ = [] ++ (L.map encZ).take (k * 1) ++ (L.map encZ).drop (k + 1) := by rw [← HE.out.2, List.map_append, List.map_take, List.map_drop, Nat.mul_one]; simp
        exact ⟨_, by rw [HE.out.1], HS9.out, ⟨by rw [hlen, hcs]; exact owns_base HO.out (fun g hg => Nat.zero_le _), .inr fun g hg => (HO.out.lt g hg).1⟩⟩
      · have he : (u == x) = false := by simpa using e
        go_wp2_with fail
        go_round
        case rel => exact ⟨k + 1, by go_num, by omega, Lib.hid (by
          rw [List.take_add_one, HU.out]
          intro hm
          rcases List.mem_append.1 hm with hm | hm
          · exact HT.out hm
          · simp at hm; exact e hm.symm)⟩
        case measure => simp [intOf]; omega
    · have dk : ¬ (k : Int) < (n : Int) := by omega
      have HE : Hid (decide (x ∈ L) = false ∧ delI L x = L) := Lib.hid (by
        have h : x ∉ L := by
          have := HT.out
          rw [List.take_of_length_le (by have := HN.out; omega)] at this
          exact this
        exact ⟨by simp [h], delI_of_not h⟩)
      go_wp2_with fail
      refine bodyPost_ret (v := .tuple #[.slice (some ⟨g, 0, none⟩) n cap, .bool false]) (by simp [results, Try.results9, go_sem]) rfl ?_
      exact ⟨_, by rw [HE.out.1], Below.refl _ _, by rw [HE.out.2, HN.out]; exact HV.out, .inl rfl⟩
set_option maxRecDepth 100000 in
set_option maxHeartbeats 4000000 in
theorem remove_nil (x : Int) (w : World) :
    Calls Try.prog 9 #[.slice none 0 0, .int .i64 x] w fun e w' => e = .returned (.tuple #[.slice none 0 0, .bool false]) ∧ w' = w := by
  go_enter Try.func9, Try.ntmps9
  go_wp2_with fail
  go_loop [6] (fun i => i = .int .i64 0) (fun i => 0)
  case atStart => rfl
  case round =>
    subst hrel
    go_wp2_with fail
    refine bodyPost_ret (v := .tuple #[.slice none 0 0, .bool false]) (by simp [results, Try.results9, go_sem]) rfl ?_
    exact ⟨rfl, rfl⟩
theorem remove_any (v : Value) (L : List Int) (hL : L.length ≤ 100000) (hs : L.Pairwise (· < ·)) (x : Int) (hx : -9223372036854775808 ≤ x ∧ x ≤ 9223372036854775807) (hLb : ∀ y ∈ L, -9223372036854775808 ≤ y ∧ y ≤ 9223372036854775807) (w : World) (hv : w.ownsRow 0 TI 1 v L.length (L.map encZ)) :
    Calls Try.prog 9 #[v, .int .i64 x] w fun e w' => ∃ v', e = .returned (.tuple #[v', .bool (decide (x ∈ L))]) ∧ Below w.heap.size w w' ∧ Out w v (delI L x) v' w' := by
  rcases hv.2 with ⟨rfl, h0⟩ | ⟨g, cap, cur, rfl, hrest⟩
  · obtain rfl : L = [] := by simpa using h0
    refine (remove_nil x w).mono ?_
    rintro e w' ⟨rfl, rfl⟩
    exact ⟨_, by simp, Below.refl _ _, World.ownsRow_nil _ _ _ _, .inl rfl⟩
  · exact remove_some g cap L hL hs x hx hLb w hv
end Go.Proofs.Ytfaoeajaahnooaa.cel
