/- What layer 23's laws begin with; walked. -/
import Derived.Test.YtmbafcfoboknkaaAggI
namespace Go.Proofs.Ytmbafcfoboknkaa.agr
set_option linter.unusedVariables false
open Go.RowKit val
theorem run_eql_same (k n : Int) (s : ByteArray) (w : World) : (binOp .eql 63 (.agg #[.int .i64 k, .int .i64 n, .string s]) (.agg #[.int .i64 k, .int .i64 n, .string s])).run Try.prog w = .ok (.bool true) w := by
  rw [run_eql_struct]
  go_simp
def P1V (r : Int) (o : On) (w : World) (e : Ending) (w' : World) : Prop := ∃ g, e = .returned (.agg #[.int .i64 r, .slice (some ⟨g, 0, none⟩) 1 1]) ∧ Row w' (.slice (some ⟨g, 0, none⟩) 1 1) 9 1 (oCells [o]) ∧ Below w.heap.size w w'
theorem of1 (v : V) (o : On) (ho : oneOf v = o) (hv : v.k = 2 → inR v.n) (W : World) (g : Nat) (hr : Row W (.slice (some ⟨g, 0, none⟩) 1 1) 3 1 (vCells [v])) : Calls Try.prog 18 #[.slice (some ⟨g, 0, none⟩) 1 1] W (P1V 1 o W) := by
  have h := ofp_any 1 (by decide) (some ⟨g, 0, none⟩) 1 [v] W rfl hr (fun u hu hk => by obtain rfl := List.mem_singleton.1 hu; exact hv hk)
  rw [show [v].map oneOf = [o] by simp [ho]] at h
  exact h
def vOne : V := ⟨2, 1, ⟨#[]⟩⟩
def oOne : On := ⟨1, 1, vOne, vOne⟩
theorem one_o : oneOf vOne = oOne := by
  unfold oneOf vOne oOne
  simp
  rfl
theorem nul_o : oneOf nul = zero := by unfold oneOf; rw [if_pos (show nul.k = 0 from rfl)]
theorem plus1 (W : World) (g g' : Nat) (h1 : Row W (.slice (some ⟨g, 0, none⟩) 1 1) 9 1 (oCells [oOne])) (h2 : Row W (.slice (some ⟨g', 0, none⟩) 1 1) 9 1 (oCells [zero])) : Calls Try.prog 16 #[.agg #[.int .i64 1, .slice (some ⟨g, 0, none⟩) 1 1], .agg #[.int .i64 1, .slice (some ⟨g', 0, none⟩) 1 1]] W (P1V 2 oOne W) := by
  have h := plus_any 1 (by decide) 1 1 (some ⟨g, 0, none⟩) (some ⟨g', 0, none⟩) 1 1 [oOne] [zero] W rfl rfl h1 h2 (by unfold inR; decide) (fun j x y hx hy => by
    rcases j with _ | j
    · simp at hx hy
      subst hx hy
      exact ⟨by unfold inR; decide, by unfold inR; decide⟩
    · simp at hx)
  rw [show List.zipWith both [oOne] [zero] = [oOne] by simp [both, oOne, zero]] at h
  exact h
theorem sum_one : sumF oOne = (vOne, 0) := by
  have e1 : wrap64 1 = 1 := by rw [wide.wrap64_eq]; decide
  have e2 : wide.hiW 1 = 0 := by unfold wide.hiW; rw [wide.wrap64_eq]; decide
  have e3 : wide.loW 1 = 1 := by unfold wide.loW; decide
  have e4 : wide.isInt (wide.hiW 1) (wide.loW 1) = true := by unfold wide.isInt; rw [e3, e1, e2, e3]; decide
  unfold sumF
  rw [if_neg (by decide), show oOne.s = 1 from rfl, if_pos e4, e3, e1]
  rfl
attribute [local go_sem high] run_eql_same
set_option maxRecDepth 100000 in
set_option maxHeartbeats 8000000 in
theorem speaks_any (w : World) : Calls Try.prog 5 #[] w fun en w' => en = .returned (.bool true) ∧ Below w.heap.size w w' := by
  have HI := Lib.hid (fun (n : Int) (W : World) => show Calls Try.prog 19 #[.int .i64 n] W (fun e w' => e = .returned (.agg #[.int .i64 2, .int .i64 n, .string ⟨#[]⟩]) ∧ Below W.heap.size W w') from ofInt_any n W)
  have HFS := Lib.hid (fun (W : World) (g : Nat) (h : Row W (.slice (some ⟨g, 0, none⟩) 1 1) 9 1 (oCells [oOne])) => show Calls Try.prog 20 #[.agg #[.int .i64 2, .slice (some ⟨g, 0, none⟩) 1 1], .int .i64 2, .int .i64 0] W (fun e w' => e = .returned (.tuple #[.agg #[.int .i64 2, .int .i64 1, .string ⟨#[]⟩], .int .i64 0]) ∧ Below W.heap.size W w') from by
    have hh := final_sum 2 (some ⟨g, 0, none⟩) 1 oOne W h
    rw [sum_one] at hh
    exact hh)
  have HFC := Lib.hid (fun (W : World) (g : Nat) => show Calls Try.prog 20 #[.agg #[.int .i64 2, .slice (some ⟨g, 0, none⟩) 1 1], .int .i64 1, .int .i64 (-1)] W (fun e w' => e = .returned (.tuple #[.agg #[.int .i64 2, .int .i64 2, .string ⟨#[]⟩], .int .i64 0]) ∧ Below W.heap.size W w') from final_count 2 (some ⟨g, 0, none⟩) 1 1 W)
  go_enter Try.func5, Try.ntmps5
  go_upto_region 2 with (first
    | (go_at_call 19; (with_reducible refine (HI.out 1 w).mono ?_); rintro ee w1 ⟨rfl, hb1⟩; have HB1 := Lib.hid hb1; clear hb1)
    | (go_at_call 18; have hA := of1 vOne oOne one_o (fun _ => by unfold inR; decide) (w1.alloc (.cells #[.int .i64 2, .int .i64 1, .string ⟨#[]⟩] TV)) w1.heap.size (Row.of_flds (Flds.new w1 TV [.int .i64 2, .int .i64 1, .string ⟨#[]⟩]) rfl 1); (with_reducible refine hA.mono ?_); clear hA; rintro ee w2 ⟨gA, rfl, hrA, hb2⟩; have HRA := Lib.hid hrA; have HB2 := Lib.hid ((HB1.out.alloc HB1.out.size _).trans (hb2.mono (HB1.out.alloc HB1.out.size _).size)); clear hrA hb2)
    | (go_at_call 18; have hA := of1 nul zero nul_o (fun e => (by cases e)) (w2.alloc (.cells #[.int .i64 0, .int .i64 0, .string ⟨#[]⟩] TV)) w2.heap.size (Row.of_flds (Flds.new w2 TV [.int .i64 0, .int .i64 0, .string ⟨#[]⟩]) rfl 1); go_loud (with_reducible refine hA.mono ?_); clear hA; rintro ee w3 ⟨gB, rfl, hrB, hb3⟩; have HRB := Lib.hid hrB; have hbz : Below w2.heap.size w2 w3 := ((Below.refl _ _).alloc (Nat.le_refl _) _).trans (hb3.mono (by rw [World.size_alloc]; omega)); have HRA := Lib.hid (HRA.out.later hbz); have HB3 := Lib.hid (HB2.out.trans (hbz.mono HB2.out.size)); clear hrB hb3 hbz)
    | (go_at_call 16; (with_reducible refine (plus1 w3 gA gB HRA.out HRB.out).mono ?_); rintro ee w4 ⟨gC, rfl, hrC, hb4⟩; have HRC := Lib.hid hrC; have HB4 := Lib.hid (HB3.out.trans (hb4.mono HB3.out.size)); clear hrC hb4))
  obtain ⟨W6, hW6⟩ : ∃ W, w4.alloc (.cells #[.int .i64 2, .slice (some ⟨gC, 0, none⟩) 1 1] TPt) = W := ⟨_, rfl⟩
  obtain ⟨g6, hg6⟩ : ∃ g, w4.heap.size = g := ⟨_, rfl⟩
  have hb6 : Below w4.heap.size w4 W6 := by rw [← hW6]; exact (Below.refl _ _).alloc (Nat.le_refl _) _
  have hf6 : Flds W6 g6 TPt [.int .i64 2, .slice (some ⟨gC, 0, none⟩) 1 1] := by rw [← hW6, ← hg6]; exact Flds.new w4 _ _
  have HF6 := Lib.hid (fun (W : World) (hb : Below W6.heap.size W6 W) => And.intro ((hf6.later hb).cell 0) (And.intro ((hf6.later hb).cell 1) (hf6.later hb).lt))
  simp only [List.getElem?_cons_zero, List.getElem?_cons_succ] at HF6
  have HR6 := Lib.hid (HRC.out.later hb6)
  have HB6 := Lib.hid (HB4.out.trans (hb6.mono HB4.out.size))
  rw [hW6, hg6]
  clear hW6 hg6 hb6 hf6
  obtain ⟨p0, p1, pl⟩ := HF6.out W6 (Below.refl _ _)
  go_upto_region 3 with (go_at_call 20; (with_reducible refine (HFS.out W6 gC HR6.out).mono ?_); rintro ee w7 ⟨rfl, hb7⟩; have HB7 := Lib.hid hb7; clear hb7 p0 p1 pl)
  obtain ⟨W8, hW8⟩ : ∃ W, w7.alloc (.cells #[.int .i64 2, .int .i64 1, .string ⟨#[]⟩] TV) = W := ⟨_, rfl⟩
  obtain ⟨g8, hg8⟩ : ∃ g, w7.heap.size = g := ⟨_, rfl⟩
  have hb8 : Below w7.heap.size w7 W8 := by rw [← hW8]; exact (Below.refl _ _).alloc (Nat.le_refl _) _
  have hf8 : Flds W8 g8 TV [.int .i64 2, .int .i64 1, .string ⟨#[]⟩] := by rw [← hW8, ← hg8]; exact Flds.new w7 _ _
  have HF8 := Lib.hid hf8
  have HB8 := Lib.hid (HB7.out.trans (hb8.mono HB7.out.size))
  rw [hW8, hg8]
  clear hW8 hg8 hb8 hf8
  obtain ⟨p0, p1, pl⟩ := HF6.out W8 HB8.out
  go_upto_region 4 with (go_at_call 20; (with_reducible refine (HFC.out W8 gC).mono ?_); rintro ee w9 ⟨rfl, hb9⟩; have HB9 := Lib.hid (HB8.out.trans (hb9.mono HB8.out.size)); have HF9 := Lib.hid (HF8.out.later hb9); clear hb9 p0 p1 pl)
  obtain ⟨W10, hW10⟩ : ∃ W, w9.alloc (.cells #[.int .i64 2, .int .i64 2, .string ⟨#[]⟩] TV) = W := ⟨_, rfl⟩
  obtain ⟨g10, hg10⟩ : ∃ g, w9.heap.size = g := ⟨_, rfl⟩
  have hb10 : Below w9.heap.size w9 W10 := by rw [← hW10]; exact (Below.refl _ _).alloc (Nat.le_refl _) _
  have hf10 : Flds W10 g10 TV [.int .i64 2, .int .i64 2, .string ⟨#[]⟩] := by rw [← hW10, ← hg10]; exact Flds.new w9 _ _
  have hf9 := HF9.out.later hb10
  have hb66 := HB9.out.trans (hb10.mono HB9.out.size)
  obtain ⟨bo, fo, eo, hco⟩ := on_at (HR6.out.later hb66) (k := 0) (by decide) rfl
  simp only [Option.some.injEq, Addr.mk.injEq, and_true] at eo
  obtain ⟨rfl, rfl⟩ := eo
  have H2 := Lib.hid (fun (W : World) (hb : Below W10.heap.size W10 W) => And.intro ((hf9.later hb).cell 0) (And.intro ((hf9.later hb).cell 1) (And.intro ((hf9.later hb).cell 2) (hf9.later hb).lt)))
  have H4 := Lib.hid (fun (W : World) (hb : Below W10.heap.size W10 W) => And.intro ((hf10.later hb).cell 0) (And.intro ((hf10.later hb).cell 1) (And.intro ((hf10.later hb).cell 2) (hf10.later hb).lt)))
  have H1 := Lib.hid (fun (W : World) (hb : Below W10.heap.size W10 W) => HF6.out W (hb66.trans (hb.mono hb66.size)))
  have HN := Lib.hid (fun (W : World) (hb : Below W10.heap.size W10 W) => And.intro (hco W hb).1 (hco W hb).2.2.2.2.2.2.2.2.2)
  simp only [List.getElem?_cons_zero, List.getElem?_cons_succ, Nat.zero_mul, Nat.add_zero] at H2 H4 HN
  have HB66 := Lib.hid (HB6.out.trans (hb66.mono HB6.out.size))
  rw [hW10, hg10]
  clear hW10 hg10 hb10 hf10 hf9 hb66 hco
  apply ag.region_calm (ag.Spec.val _ :: ag.Spec.val _ :: ag.Spec.val _ :: ag.Spec.val _ :: ag.Spec.val _ :: ag.Spec.val _ :: ag.Spec.val _ :: ag.Spec.val _ :: ag.Spec.sat (fun v _ => v = .agg #[.int .i64 2, .int .i64 1, .string ⟨#[]⟩]) ag.grew :: ag.Spec.val (.bool true) :: ag.Spec.val _ :: ag.Spec.val _ :: ag.Spec.val _ :: ag.Spec.val _ :: ag.Spec.val _ :: ag.Spec.val _ :: ag.Spec.val _ :: ag.Spec.val _ :: ag.Spec.sat (fun v _ => v = .agg #[.int .i64 2, .int .i64 2, .string ⟨#[]⟩]) ag.grew :: ag.Spec.val (.bool true) :: ag.Spec.val _ :: ag.Spec.val _ :: ag.Spec.val _ :: ag.Spec.val _ :: ag.Spec.val _ :: ag.Spec.val _ :: ag.Spec.val _ :: ag.Spec.val _ :: ag.Spec.val _ :: ag.Spec.val _ :: [])
  case hm => kernel_rfl
  case hB => kernel_rfl
  case hlen => rfl
  case hc => exact ⟨⟨ag.lasts_eq _, rfl⟩, ⟨ag.lasts_eq _, rfl⟩, trivial⟩
  apply ag.walk_val
  · rfl
  · intro W1 hS hE
    clear hS hE
    unfold ag.does
    go_simp
    first | done | exact ⟨rfl, rfl⟩ | rfl | (exact ⟨by go_num, rfl⟩) | (simp; done) | trace_state
  simp only [Act.put, List.setIfInBounds_toArray, List.set_cons_zero, List.set_cons_succ]
  apply ag.walk_val
  · rfl
  · intro W1 hS hE
    clear hS hE
    unfold ag.does
    go_simp
    first | done | exact ⟨rfl, rfl⟩ | rfl | (exact ⟨by go_num, rfl⟩) | (simp; done) | trace_state
  simp only [Act.put, List.setIfInBounds_toArray, List.set_cons_zero, List.set_cons_succ]
  apply ag.walk_val
  · rfl
  · intro W1 hS hE
    clear hS hE
    unfold ag.does
    go_simp
    first | done | exact ⟨rfl, rfl⟩ | rfl | (exact ⟨by go_num, rfl⟩) | (simp; done) | trace_state
  simp only [Act.put, List.setIfInBounds_toArray, List.set_cons_zero, List.set_cons_succ]
  apply ag.walk_val
  · rfl
  · intro W1 hS hE
    clear hS hE
    unfold ag.does
    go_simp
    first | done | exact ⟨rfl, rfl⟩ | rfl | (exact ⟨by go_num, rfl⟩) | (simp; done) | trace_state
  simp only [Act.put, List.setIfInBounds_toArray, List.set_cons_zero, List.set_cons_succ]
  apply ag.walk_val
  · rfl
  · intro W1 hS hE
    clear hS hE
    unfold ag.does
    go_simp
    first | done | exact ⟨rfl, rfl⟩ | rfl | (exact ⟨by go_num, rfl⟩) | (simp; done) | trace_state
  simp only [Act.put, List.setIfInBounds_toArray, List.set_cons_zero, List.set_cons_succ]
  apply ag.walk_val
  · rfl
  · intro W1 hS hE
    clear hS hE
    unfold ag.does
    go_simp
    first | done | exact ⟨rfl, rfl⟩ | rfl | (exact ⟨by go_num, rfl⟩) | (simp; done) | trace_state
  simp only [Act.put, List.setIfInBounds_toArray, List.set_cons_zero, List.set_cons_succ]
  apply ag.walk_val
  · rfl
  · intro W1 hS hE
    clear hS hE
    unfold ag.does
    go_simp
    first | done | exact ⟨rfl, rfl⟩ | rfl | (exact ⟨by go_num, rfl⟩) | (simp; done) | trace_state
  simp only [Act.put, List.setIfInBounds_toArray, List.set_cons_zero, List.set_cons_succ]
  apply ag.walk_val
  · rfl
  · intro W1 hS hE
    obtain ⟨q0, q1, q2, ql⟩ := H2.out W1 hS
    clear hS hE
    unfold ag.does
    go_simp
    first | done | exact ⟨rfl, rfl⟩ | rfl | (exact ⟨by go_num, rfl⟩) | (simp; done) | trace_state
  simp only [Act.put, List.setIfInBounds_toArray, List.set_cons_zero, List.set_cons_succ]
  refine ag.walk_such (by rfl) (fun W1 hS hE => ?_) (fun y8 => ?_)
  · have hk := HI.out 1 W1
    clear hE
    unfold ag.does
    go_simp
    first | done | (exact hk.mono (fun e w' h => ⟨_, h.1, rfl, h.2⟩))
  simp only [Act.put, List.setIfInBounds_toArray, List.set_cons_zero, List.set_cons_succ]
  apply ag.walk_val
  · rfl
  · intro W1 hS hE
    have box := hE.of 8 (by kernel_rfl)
    simp only [ag.lookE, if_true, Nat.reduceEqDiff, if_false] at box
    subst box
    clear hS hE
    unfold ag.does
    go_simp
    first | done | exact ⟨rfl, rfl⟩ | rfl | (exact ⟨by go_num, rfl⟩) | (simp; done) | trace_state
  simp only [Act.put, List.setIfInBounds_toArray, List.set_cons_zero, List.set_cons_succ]
  apply ag.walk_val
  · rfl
  · intro W1 hS hE
    clear hS hE
    unfold ag.does
    go_simp
    first | done | exact ⟨rfl, rfl⟩ | rfl | (exact ⟨by go_num, rfl⟩) | (simp; done) | trace_state
  simp only [Act.put, List.setIfInBounds_toArray, List.set_cons_zero, List.set_cons_succ]
  apply ag.walk_val
  · rfl
  · intro W1 hS hE
    clear hS hE
    unfold ag.does
    go_simp
    first | done | exact ⟨rfl, rfl⟩ | rfl | (exact ⟨by go_num, rfl⟩) | (simp; done) | trace_state
  simp only [Act.put, List.setIfInBounds_toArray, List.set_cons_zero, List.set_cons_succ]
  apply ag.walk_val
  · rfl
  · intro W1 hS hE
    clear hS hE
    unfold ag.does
    go_simp
    first | done | exact ⟨rfl, rfl⟩ | rfl | (exact ⟨by go_num, rfl⟩) | (simp; done) | trace_state
  simp only [Act.put, List.setIfInBounds_toArray, List.set_cons_zero, List.set_cons_succ]
  apply ag.walk_val
  · rfl
  · intro W1 hS hE
    obtain ⟨q0, q1, q2, ql⟩ := H2.out W1 hS
    clear hS hE
    unfold ag.does
    go_simp
    first | done | exact ⟨rfl, rfl⟩ | rfl | (exact ⟨by go_num, rfl⟩) | (simp; done) | trace_state
  simp only [Act.put, List.setIfInBounds_toArray, List.set_cons_zero, List.set_cons_succ]
  apply ag.walk_val
  · rfl
  · intro W1 hS hE
    clear hS hE
    unfold ag.does
    go_simp
    first | done | exact ⟨rfl, rfl⟩ | rfl | (exact ⟨by go_num, rfl⟩) | (simp; done) | trace_state
  simp only [Act.put, List.setIfInBounds_toArray, List.set_cons_zero, List.set_cons_succ]
  apply ag.walk_val
  · rfl
  · intro W1 hS hE
    clear hS hE
    unfold ag.does
    go_simp
    first | done | exact ⟨rfl, rfl⟩ | rfl | (exact ⟨by go_num, rfl⟩) | (simp; done) | trace_state
  simp only [Act.put, List.setIfInBounds_toArray, List.set_cons_zero, List.set_cons_succ]
  apply ag.walk_val
  · rfl
  · intro W1 hS hE
    clear hS hE
    unfold ag.does
    go_simp
    first | done | exact ⟨rfl, rfl⟩ | rfl | (exact ⟨by go_num, rfl⟩) | (simp; done) | trace_state
  simp only [Act.put, List.setIfInBounds_toArray, List.set_cons_zero, List.set_cons_succ]
  apply ag.walk_val
  · rfl
  · intro W1 hS hE
    obtain ⟨q0, q1, q2, ql⟩ := H4.out W1 hS
    clear hS hE
    unfold ag.does
    go_simp
    first | done | exact ⟨rfl, rfl⟩ | rfl | (exact ⟨by go_num, rfl⟩) | (simp; done) | trace_state
  simp only [Act.put, List.setIfInBounds_toArray, List.set_cons_zero, List.set_cons_succ]
  refine ag.walk_such (by rfl) (fun W1 hS hE => ?_) (fun y18 => ?_)
  · have hk := HI.out 2 W1
    clear hE
    unfold ag.does
    go_simp
    first | done | (exact hk.mono (fun e w' h => ⟨_, h.1, rfl, h.2⟩))
  simp only [Act.put, List.setIfInBounds_toArray, List.set_cons_zero, List.set_cons_succ]
  apply ag.walk_val
  · rfl
  · intro W1 hS hE
    have box := hE.of 18 (by kernel_rfl)
    simp only [ag.lookE, if_true, Nat.reduceEqDiff, if_false] at box
    subst box
    clear hS hE
    unfold ag.does
    go_simp
    first | done | exact ⟨rfl, rfl⟩ | rfl | (exact ⟨by go_num, rfl⟩) | (simp; done) | trace_state
  simp only [Act.put, List.setIfInBounds_toArray, List.set_cons_zero, List.set_cons_succ]
  apply ag.walk_val
  · rfl
  · intro W1 hS hE
    clear hS hE
    unfold ag.does
    go_simp
    first | done | exact ⟨rfl, rfl⟩ | rfl | (exact ⟨by go_num, rfl⟩) | (simp; done) | trace_state
  simp only [Act.put, List.setIfInBounds_toArray, List.set_cons_zero, List.set_cons_succ]
  apply ag.walk_val
  · rfl
  · intro W1 hS hE
    clear hS hE
    unfold ag.does
    go_simp
    first | done | exact ⟨rfl, rfl⟩ | rfl | (exact ⟨by go_num, rfl⟩) | (simp; done) | trace_state
  simp only [Act.put, List.setIfInBounds_toArray, List.set_cons_zero, List.set_cons_succ]
  apply ag.walk_val
  · rfl
  · intro W1 hS hE
    clear hS hE
    unfold ag.does
    go_simp
    first | done | exact ⟨rfl, rfl⟩ | rfl | (exact ⟨by go_num, rfl⟩) | (simp; done) | trace_state
  simp only [Act.put, List.setIfInBounds_toArray, List.set_cons_zero, List.set_cons_succ]
  apply ag.walk_val
  · rfl
  · intro W1 hS hE
    obtain ⟨q0, q1, ql⟩ := H1.out W1 hS
    clear hS hE
    unfold ag.does
    go_simp
    first | done | exact ⟨rfl, rfl⟩ | rfl | (exact ⟨by go_num, rfl⟩) | (simp; done) | trace_state
  simp only [Act.put, List.setIfInBounds_toArray, List.set_cons_zero, List.set_cons_succ]
  apply ag.walk_val
  · rfl
  · intro W1 hS hE
    clear hS hE
    unfold ag.does
    go_simp
    first | done | exact ⟨rfl, rfl⟩ | rfl | (exact ⟨by go_num, rfl⟩) | (simp; done) | trace_state
  simp only [Act.put, List.setIfInBounds_toArray, List.set_cons_zero, List.set_cons_succ]
  apply ag.walk_val
  · rfl
  · intro W1 hS hE
    clear hS hE
    unfold ag.does
    go_simp
    first | done | exact ⟨rfl, rfl⟩ | rfl | (exact ⟨by go_num, rfl⟩) | (simp; done) | trace_state
  simp only [Act.put, List.setIfInBounds_toArray, List.set_cons_zero, List.set_cons_succ]
  apply ag.walk_val
  · rfl
  · intro W1 hS hE
    obtain ⟨r0, rl⟩ := HN.out W1 hS
    clear hS hE
    unfold ag.does
    go_simp
    first | done | exact ⟨rfl, rfl⟩ | rfl | (exact ⟨by go_num, rfl⟩) | (simp; done) | trace_state
  simp only [Act.put, List.setIfInBounds_toArray, List.set_cons_zero, List.set_cons_succ]
  apply ag.walk_val
  · rfl
  · intro W1 hS hE
    clear hS hE
    unfold ag.does
    go_simp
    first | done | exact ⟨rfl, rfl⟩ | rfl | (exact ⟨by go_num, rfl⟩) | (simp; done) | trace_state
  simp only [Act.put, List.setIfInBounds_toArray, List.set_cons_zero, List.set_cons_succ]
  apply ag.walk_val
  · rfl
  · intro W1 hS hE
    clear hS hE
    unfold ag.does
    go_simp
    first | done | exact ⟨rfl, rfl⟩ | rfl | (exact ⟨by go_num, rfl⟩) | (simp; done) | trace_state
  simp only [Act.put, List.setIfInBounds_toArray, List.set_cons_zero, List.set_cons_succ]
  apply ag.walk_val
  · rfl
  · intro W1 hS hE
    clear hS hE
    unfold ag.does
    go_simp
    first | done | exact ⟨rfl, rfl⟩ | rfl | (exact ⟨by go_num, rfl⟩) | (simp; done) | trace_state
  simp only [Act.put, List.setIfInBounds_toArray, List.set_cons_zero, List.set_cons_succ]
  refine ag.walk_nil (fun w11 hS hF hP => ?_)
  clear hP
  have HB11 := Lib.hid (HB66.out.trans (hS.mono HB66.out.size))
  clear hF hS
  go_wp2_with fail
  go_ret
  exact ⟨rfl, HB11.out⟩
end Go.Proofs.Ytmbafcfoboknkaa.agr
