/- Packing a part; walked. -/
import Derived.Test.YtmbafcfoboknkaaAggD
import Derived.Test.YtmbafcfoboknkaaAgTU
import Derived.Test.YtmbafcfoboknkaaPackX
namespace Go.Proofs.Ytmbafcfoboknkaa.agr
set_option linter.unusedVariables false
open Go.RowKit val
abbrev TS : TypeId := 9
abbrev TV : TypeId := 63
theorem infoS' : (Try.prog.info? TS).map (fun i => (i.zero, i.size, i.bytes)) = some (some (.string ⟨#[]⟩), 1, 16) := by kernel_rfl
def intS (n : Int) : ByteArray := ⟨(intB n).toArray⟩
def keyW (s : Int) : ByteArray := strOfNums (wide.be8I (IntKind.u64.wrap (wide.hiW s)) ++ wide.be8I (wide.loW s))
def keyV (v : V) : ByteArray := ⟨(keyB [v]).toArray⟩
def textsO (o : On) : List ByteArray := [intS o.n, keyW o.s, keyV o.mn, keyV o.mx]
def textsP (r : Int) (l : List On) : List ByteArray := intS r :: l.flatMap textsO
def packP (r : Int) (l : List On) : ByteArray := ⟨(packB (textsP r l)).toArray⟩
theorem flat4 : ∀ l : List On, (l.flatMap textsO).length = 4 * l.length
  | [] => rfl
  | o :: l => by
    rw [List.flatMap_cons, List.length_append, flat4 l, List.length_cons]
    show 4 + 4 * l.length = _
    omega
theorem textsP_len (r : Int) (l : List On) : (textsP r l).length = 1 + 4 * l.length := by
  unfold textsP
  rw [List.length_cons, flat4]; omega
theorem textsP_snoc (r : Int) (l : List On) (j : Nat) (x : On) (h : l[j]? = some x) : textsP r (l.take (j + 1)) = textsP r (l.take j) ++ textsO x := by
  unfold textsP
  rw [List.take_add_one, h]
  simp [List.flatMap_append]
theorem size_arr (l : List UInt8) : (⟨l.toArray⟩ : ByteArray).size = l.length := by rw [← ByteArray.size_data]; simp
theorem keyW_size (s : Int) : (keyW s).size = 16 := by
  unfold keyW strOfNums
  rw [← ByteArray.size_data]
  simp [wide.be8I]
theorem keyV_size {v : V} (h : val.Good v) : (keyV v).size ≤ 69 := by
  unfold keyV
  rw [size_arr]
  exact keyB_len [v] (by simpa using h)
theorem textsO_sum {o : On} (h : val.Good o.mn ∧ val.Good o.mx) : ((textsO o).map fun s => s.size + 4).sum ≤ 178 := by
  have h1 := keyV_size h.1
  have h2 := keyV_size h.2
  have h3 : (intS o.n).size = 8 := by unfold intS; rw [size_arr, intB_length]
  have h4 := keyW_size o.s
  simp [textsO]
  omega
theorem packP_len (r : Int) : ∀ (l : List On), (∀ o ∈ l, val.Good o.mn ∧ val.Good o.mx) → (packB (textsP r l)).length ≤ 12 + 178 * l.length
  | [], _ => by
    rw [packB_length]
    have h3 : (intS r).size = 8 := by unfold intS; rw [size_arr, intB_length]
    simp [textsP, h3]
  | o :: l, h => by
    have ih := packP_len r l (fun o ho => h o (List.mem_cons_of_mem _ ho))
    have h1 := textsO_sum (h o (List.mem_cons_self ..))
    rw [packB_length] at ih ⊢
    simp only [textsP, List.flatMap_cons, List.map_cons, List.map_append, List.sum_cons, List.sum_append, List.length_cons] at ih ⊢
    omega
set_option maxRecDepth 100000 in
set_option maxHeartbeats 8000000 in
theorem ppack_any (m : Nat) (hm : m ≤ 1000) (r : Int) (hr : inR r) (a : Option Addr) (c : Nat) (l : List On) (w : World) (hl : l.length = m) (hrow : Row w (.slice a m c) 9 m (oCells l)) (hok : ∀ o ∈ l, inR o.n ∧ val.Good o.mn ∧ val.Good o.mx) :
    Calls Try.prog 34 #[.agg #[.int .i64 r, .slice a m c]] w fun e w' => e = .returned (.string (packP r l)) ∧ Below w.heap.size w w' := by
  obtain ⟨i0, hi0, hz0, hz1, hz2⟩ := info_of infoS'
  obtain ⟨W1, hW1⟩ : ∃ W, w.alloc (.cells #[.int .i64 r, .slice a m c] TPt) = W := ⟨_, rfl⟩
  obtain ⟨g1, hg1⟩ : ∃ g, w.heap.size = g := ⟨_, rfl⟩
  have hb1 : Below w.heap.size w W1 := by rw [← hW1]; exact (Below.refl _ _).alloc (Nat.le_refl _) _
  have hf1 : Flds W1 g1 TPt [.int .i64 r, .slice a m c] := by rw [← hW1, ← hg1]; exact Flds.new w _ _
  have HF := Lib.hid (fun (W : World) (hb : Below W1.heap.size W1 W) => And.intro ((hf1.later hb).cell 0) (And.intro ((hf1.later hb).cell 1) (hf1.later hb).lt))
  simp only [List.getElem?_cons_zero, List.getElem?_cons_succ] at HF
  have HL := Lib.hid hl
  have HR := Lib.hid hrow
  have HOK := Lib.hid hok
  have HB1 := Lib.hid hb1
  have HI := Lib.hid (packInt_any r hr W1)
  have m0 : (0 : Int) ≤ (m : Int) := by omega
  have m1 : (m : Int) ≤ 1000 := by omega
  obtain ⟨p0, p1, pl⟩ := HF.out W1 (Below.refl _ _)
  clear hl hrow hok hb1 hf1
  go_enter Try.func34, Try.ntmps34
  go_upto_region 1 with fail
  try rw [hW1, hg1]
  clear hW1 hg1
  go_upto_region 2 with (go_at_call 46; refine HI.out.mono ?_; rintro ee w2 ⟨rfl, hb2⟩; have HB2 := Lib.hid hb2; clear hb2 p0 p1 pl)
  obtain ⟨W3, hW3⟩ : ∃ W, w2.alloc (.cells #[.string (intS r)] TS) = W := ⟨_, rfl⟩
  obtain ⟨g3, hg3⟩ : ∃ g, w2.heap.size = g := ⟨_, rfl⟩
  have hb3 : Below w2.heap.size w2 W3 := by rw [← hW3]; exact (Below.refl _ _).alloc (Nat.le_refl _) _
  have hf3 : Flds W3 g3 TS [.string (intS r)] := by rw [← hW3, ← hg3]; exact Flds.new w2 _ _
  have HB3 := Lib.hid (HB2.out.trans (hb3.mono HB2.out.size))
  have HO3 := Lib.hid (show W3.ownsRow w.heap.size TS 1 (.slice (some ⟨g3, 0, none⟩) 1 1) 1 ((textsP r (l.take 0)).map Value.string) from owns_of_flds hf3 rfl (by have := HB1.out.size; have := HB2.out.size; omega) (by decide))
  obtain ⟨p0, p1, pl⟩ := HF.out W3 HB3.out
  have HBW := Lib.hid (HB1.out.trans (HB3.out.mono HB1.out.size))
  rw [show (⟨(intB r).toArray⟩ : ByteArray) = intS r from rfl, hW3, hg3]
  clear hW3 hg3 hb3 hf3
  go_wp2_with fail
  clear p0 p1 pl
  go_loopw [3, 13] (fun sv iv wr => ∃ (j : Nat) (a3 : Option Addr) (c3 : Nat), sv = .slice a3 (1 + 4 * j) c3 ∧ iv = .int .i64 (j : Int) ∧ j ≤ m ∧ Hid (wr.ownsRow w.heap.size TS 1 (.slice a3 (1 + 4 * j) c3) (1 + 4 * j) ((textsP r (l.take j)).map Value.string)) ∧ Hid (Below w.heap.size w wr)) (fun _ iv _ => m - (intOf iv).toNat)
  case atStart => exact ⟨0, _, _, rfl, rfl, Nat.zero_le _, HO3, HBW⟩
  case round =>
    obtain ⟨j, a3, c3, rfl, rfl, hj, HO, HB⟩ := hrel
    have j0 : (0 : Int) ≤ (j : Int) := by omega
    by_cases hjm : j < m
    · have dj : (j : Int) < (m : Int) := by omega
      have hju : j < l.length := by rw [HL.out]; exact hjm
      have hx := List.getElem?_eq_getElem hju
      generalize l[j] = x at hx
      obtain ⟨b8, off8, ea, hcy⟩ := on_at HR.out hjm hx
      subst ea
      obtain ⟨f0, f1, f2, f3, f4, f5, f6, f7, f8, fl⟩ := hcy wr HB.out
      have HXO := Lib.hid (HOK.out x (List.mem_of_getElem? hx))
      have HT := Lib.hid (textsP_snoc r l j x hx)
      clear hx hcy hju
      obtain ⟨xn, xs, ⟨xk, xm, xt⟩, ⟨xa, xb, xc⟩⟩ := x
      dsimp only at f0 f1 f2 f3 f4 f5 f6 f7 f8
      obtain ⟨M, hM⟩ : ∃ M, 1 + 4 * j = M := ⟨_, rfl⟩
      rw [hM] at HO ⊢
      go_upto_region 5 with fail
      obtain ⟨W9, hW9⟩ : ∃ W, wr.alloc (.cells #[.int .i64 xn, .int .i64 (wide.hiW xs), .int .u64 (wide.loW xs), .int .i64 xk, .int .i64 xm, .string xt, .int .i64 xa, .int .i64 xb, .string xc] TOn) = W := ⟨_, rfl⟩
      obtain ⟨g9, hg9⟩ : ∃ g, wr.heap.size = g := ⟨_, rfl⟩
      have hb9 : Below wr.heap.size wr W9 := by rw [← hW9]; exact (Below.refl _ _).alloc (Nat.le_refl _) _
      have hf9 : Flds W9 g9 TOn [.int .i64 xn, .int .i64 (wide.hiW xs), .int .u64 (wide.loW xs), .int .i64 xk, .int .i64 xm, .string xt, .int .i64 xa, .int .i64 xb, .string xc] := by rw [← hW9, ← hg9]; exact Flds.new wr _ _
      have hb99 := HB.out.trans (hb9.mono HB.out.size)
      have hown := owns_below HO.out hb9
      have HNE := Lib.hid (owns_ne_obj hown hf9 (by decide))
      obtain ⟨cs, hcs⟩ : ∃ cs, (textsP r (l.take j)).map Value.string = cs := ⟨_, rfl⟩
      have HCS := Lib.hid (show (textsP r (l.take (j + 1))).map Value.string = cs ++ [.string (intS xn), .string (keyW xs), .string (keyV ⟨xk, xm, xt⟩), .string (keyV ⟨xa, xb, xc⟩)] from by rw [HT.out, List.map_append, hcs]; rfl)
      rw [hcs] at hown
      have HSL := Lib.hid (ag.SL.start hown hb99.size)
      have HF9 := Lib.hid hf9
      have HB99 := Lib.hid hb99
      have HMM := Lib.hid (show M ≤ 5000 by omega)
      have hxn := HXO.out.1
      have HG1 := Lib.hid HXO.out.2.1
      have HG2 := Lib.hid HXO.out.2.2
      rw [hW9, hg9]
      clear hW9 hg9 hb9 hf9 hb99 hown HO HT f0 f1 f2 f3 f4 f5 f6 f7 f8 fl
      have hM2 : 1 + 4 * (j + 1) = M + 4 := by omega
      have hM3 : M ≤ 5000 := HMM.out
      apply ag.region_ag  (fun W1' => ag.SL w.heap.size TS 1 M cs (.slice a3 M c3) W9 W1') (fun _ _ _ _ => True) (ag.Spec.val _ :: ag.Spec.val _ :: ag.Spec.val _ :: ag.Spec.sat (fun v _ => v = .string (intS xn)) (ag.grew) :: ag.Spec.val _ :: ag.Spec.val _ :: ag.Spec.sat (fun v _ => v = .string (keyW xs)) (ag.grew) :: ag.Spec.val _ :: ag.Spec.val _ :: ag.Spec.sat (ag.NS W9.heap.size TV 1 [.int .i64 xk, .int .i64 xm, .string xt]) (ag.grew) :: ag.Spec.sat (fun v _ => v = .string (keyV ⟨xk, xm, xt⟩)) (ag.grew) :: ag.Spec.val _ :: ag.Spec.val _ :: ag.Spec.sat (ag.NS W9.heap.size TV 1 [.int .i64 xa, .int .i64 xb, .string xc]) (ag.grew) :: ag.Spec.sat (fun v _ => v = .string (keyV ⟨xa, xb, xc⟩)) (ag.grew) :: ag.Spec.sat (ag.NS W9.heap.size TS 4 [.string (intS xn), .string (keyW xs), .string (keyV ⟨xk, xm, xt⟩), .string (keyV ⟨xa, xb, xc⟩)]) (ag.grew) :: ag.Spec.sat (ag.OneR w.heap.size TS 1 (M + 4) (cs ++ [.string (intS xn), .string (keyW xs), .string (keyV ⟨xk, xm, xt⟩), .string (keyV ⟨xa, xb, xc⟩)])) (ag.tk3 w.heap.size TS 1 M cs (.slice a3 M c3)) :: ag.Spec.cpy 16 :: [])
      case hm => kernel_rfl
      case hB => kernel_rfl
      case hlen => rfl
      case hS => exact HSL.out.drew
      case hst =>
        simp only [ag.Stab, ag.Row2, ag.Ok2, and_true]
        repeat' apply And.intro
        all_goals first
          | exact fun h => absurd rfl h
          | (exact fun _ _ f v W W' _ hv _ ht => hv)
          | (exact fun _ _ f v W W' _ hv _ ht => ag.NS.lasts v W W' hv ht)
          | (exact fun _ _ f v W W' hs hv _ ht => ag.NS.app hv hs ht)
          | (exact fun _ _ f v W W' _ hv _ ht => ag.OneR.lasts v W W' hv ht)
          | trivial
          | exact fun _ h => absurd (h.symm.trans (show _ = true by kernel_rfl)) (by decide)
      case hk =>
        simp only [ag.Keeps, and_true]
        repeat' apply And.intro
        all_goals first
          | (exact fun f W W' hS _ ht => ag.SL.grew hS ht)
          | (exact fun f W W' hS _ ht => ag.SL.app hS ht)
          | trivial
      apply ag.walk_val
      · rfl
      · intro W1 hS hE
        clear hS hE
        all_goals unfold ag.does
        all_goals go_simp
        all_goals first | done | exact ⟨rfl, rfl⟩ | rfl | (exact ⟨by go_num, rfl⟩) | (simp; done) | trace_state
      simp only [Act.put, List.setIfInBounds_toArray, List.set_cons_zero, List.set_cons_succ]
      apply ag.walk_val
      · rfl
      · intro W1 hS hE
        clear hS hE
        all_goals unfold ag.does
        all_goals go_simp
        all_goals first | done | exact ⟨rfl, rfl⟩ | rfl | (exact ⟨by go_num, rfl⟩) | (simp; done) | trace_state
      simp only [Act.put, List.setIfInBounds_toArray, List.set_cons_zero, List.set_cons_succ]
      apply ag.walk_val
      · rfl
      · intro W1 hS hE
        have hq := hS.flds HF9.out HNE.out
        have y0 := hq.cell 0
        have yl := hq.lt
        simp only [List.getElem?_cons_zero, List.getElem?_cons_succ] at y0
        clear hS hE
        all_goals unfold ag.does
        all_goals go_simp
        all_goals first | done | exact ⟨rfl, rfl⟩ | rfl | (exact ⟨by go_num, rfl⟩) | (simp; done) | trace_state
      simp only [Act.put, List.setIfInBounds_toArray, List.set_cons_zero, List.set_cons_succ]
      refine ag.walk_sat (by rfl) (fun W1 hS hE => ?_) (fun y3 => ?_)
      · have hk := packInt_any xn hxn W1
        clear hS hE
        all_goals unfold ag.does
        all_goals go_simp
        all_goals first | done | (exact hk.mono (fun e w' h => ⟨_, h.1, rfl, h.2, ag.News.none (fun _ _ => trivial) _ _⟩))
      simp only [Act.put, List.setIfInBounds_toArray, List.set_cons_zero, List.set_cons_succ]
      apply ag.walk_val
      · rfl
      · intro W1 hS hE
        clear hS hE
        all_goals unfold ag.does
        all_goals go_simp
        all_goals first | done | exact ⟨rfl, rfl⟩ | rfl | (exact ⟨by go_num, rfl⟩) | (simp; done) | trace_state
      simp only [Act.put, List.setIfInBounds_toArray, List.set_cons_zero, List.set_cons_succ]
      apply ag.walk_val
      · rfl
      · intro W1 hS hE
        have hq := hS.flds HF9.out HNE.out
        have y1 := hq.cell 1
        have y2 := hq.cell 2
        have yl := hq.lt
        simp only [List.getElem?_cons_zero, List.getElem?_cons_succ] at y1 y2
        clear hS hE
        all_goals unfold ag.does
        all_goals go_simp
        all_goals first | done | exact ⟨rfl, rfl⟩ | rfl | (exact ⟨by go_num, rfl⟩) | (simp; done) | trace_state
      simp only [Act.put, List.setIfInBounds_toArray, List.set_cons_zero, List.set_cons_succ]
      refine ag.walk_sat (by rfl) (fun W1 hS hE => ?_) (fun y6 => ?_)
      · have hk := wide.key_raw (wide.hiW xs) (wide.loW xs) (wide.loW_bd xs) W1
        clear hS hE
        all_goals unfold ag.does
        all_goals go_simp
        all_goals first | done | (exact hk.mono (fun e w' h => ⟨_, h.1, rfl, h.2, ag.News.none (fun _ _ => trivial) _ _⟩))
      simp only [Act.put, List.setIfInBounds_toArray, List.set_cons_zero, List.set_cons_succ]
      apply ag.walk_val
      · rfl
      · intro W1 hS hE
        clear hS hE
        all_goals unfold ag.does
        all_goals go_simp
        all_goals first | done | exact ⟨rfl, rfl⟩ | rfl | (exact ⟨by go_num, rfl⟩) | (simp; done) | trace_state
      simp only [Act.put, List.setIfInBounds_toArray, List.set_cons_zero, List.set_cons_succ]
      apply ag.walk_val
      · rfl
      · intro W1 hS hE
        have hq := hS.flds HF9.out HNE.out
        have y3 := hq.cell 3
        have y4 := hq.cell 4
        have y5 := hq.cell 5
        have yl := hq.lt
        simp only [List.getElem?_cons_zero, List.getElem?_cons_succ] at y3 y4 y5
        clear hS hE
        all_goals unfold ag.does
        all_goals go_simp
        all_goals first | done | exact ⟨rfl, rfl⟩ | rfl | (exact ⟨by go_num, rfl⟩) | (simp; done) | trace_state
      simp only [Act.put, List.setIfInBounds_toArray, List.set_cons_zero, List.set_cons_succ]
      refine ag.walk_sat (by rfl) (fun W1 hS hE => ?_) (fun y9 => ?_)
      · have hX := hS.1.size
        clear hS hE
        all_goals unfold ag.does
        all_goals go_simp
        all_goals first | done | (exact ⟨ag.NS.new W1 hX, (Below.refl _ _).alloc (Nat.le_refl _) _, ag.News.none (fun _ _ => trivial) _ _⟩)
      simp only [Act.put, List.setIfInBounds_toArray, List.set_cons_zero, List.set_cons_succ]
      refine ag.walk_sat (by rfl) (fun W1 hS hE => ?_) (fun y10 => ?_)
      · have f9 := hE.of 9 (by kernel_rfl)
        simp only [ag.lookE, if_true, Nat.reduceEqDiff, if_false] at f9
        obtain ⟨gN, e9, hgN, hfN⟩ := f9
        subst e9
        have hk := key_any (.slice (some ⟨gN, 0, none⟩) 1 1) [⟨xk, xm, xt⟩] (by simpa using HG1.out) (by simp) W1 (Row.of_flds hfN rfl 1)
        clear hS hE
        all_goals unfold ag.does
        all_goals go_simp
        all_goals first | done | (exact hk.mono (fun e w' h => ⟨_, h.1, rfl, h.2, ag.News.none (fun _ _ => trivial) _ _⟩))
      simp only [Act.put, List.setIfInBounds_toArray, List.set_cons_zero, List.set_cons_succ]
      apply ag.walk_val
      · rfl
      · intro W1 hS hE
        clear hS hE
        all_goals unfold ag.does
        all_goals go_simp
        all_goals first | done | exact ⟨rfl, rfl⟩ | rfl | (exact ⟨by go_num, rfl⟩) | (simp; done) | trace_state
      simp only [Act.put, List.setIfInBounds_toArray, List.set_cons_zero, List.set_cons_succ]
      apply ag.walk_val
      · rfl
      · intro W1 hS hE
        have hq := hS.flds HF9.out HNE.out
        have y3 := hq.cell 6
        have y4 := hq.cell 7
        have y5 := hq.cell 8
        have yl := hq.lt
        simp only [List.getElem?_cons_zero, List.getElem?_cons_succ] at y3 y4 y5
        clear hS hE
        all_goals unfold ag.does
        all_goals go_simp
        all_goals first | done | exact ⟨rfl, rfl⟩ | rfl | (exact ⟨by go_num, rfl⟩) | (simp; done) | trace_state
      simp only [Act.put, List.setIfInBounds_toArray, List.set_cons_zero, List.set_cons_succ]
      refine ag.walk_sat (by rfl) (fun W1 hS hE => ?_) (fun y13 => ?_)
      · have hX := hS.1.size
        clear hS hE
        all_goals unfold ag.does
        all_goals go_simp
        all_goals first | done | (exact ⟨ag.NS.new W1 hX, (Below.refl _ _).alloc (Nat.le_refl _) _, ag.News.none (fun _ _ => trivial) _ _⟩)
      simp only [Act.put, List.setIfInBounds_toArray, List.set_cons_zero, List.set_cons_succ]
      refine ag.walk_sat (by rfl) (fun W1 hS hE => ?_) (fun y14 => ?_)
      · have f9 := hE.of 13 (by kernel_rfl)
        simp only [ag.lookE, if_true, Nat.reduceEqDiff, if_false] at f9
        obtain ⟨gN, e9, hgN, hfN⟩ := f9
        subst e9
        have hk := key_any (.slice (some ⟨gN, 0, none⟩) 1 1) [⟨xa, xb, xc⟩] (by simpa using HG2.out) (by simp) W1 (Row.of_flds hfN rfl 1)
        clear hS hE
        all_goals unfold ag.does
        all_goals go_simp
        all_goals first | done | (exact hk.mono (fun e w' h => ⟨_, h.1, rfl, h.2, ag.News.none (fun _ _ => trivial) _ _⟩))
      simp only [Act.put, List.setIfInBounds_toArray, List.set_cons_zero, List.set_cons_succ]
      refine ag.walk_sat (by rfl) (fun W1 hS hE => ?_) (fun y15 => ?_)
      · have h3 := hE.of 3 (by kernel_rfl)
        have h6 := hE.of 6 (by kernel_rfl)
        have h10 := hE.of 10 (by kernel_rfl)
        have h14 := hE.of 14 (by kernel_rfl)
        simp only [ag.lookE, if_true, Nat.reduceEqDiff, if_false] at h3 h6 h10 h14
        subst h3 h6 h10 h14
        have hX := hS.1.size
        clear hS hE
        all_goals unfold ag.does
        all_goals go_simp
        all_goals first | done | (exact ⟨ag.NS.new W1 hX, (Below.refl _ _).alloc (Nat.le_refl _) _, ag.News.none (fun _ _ => trivial) _ _⟩)
      simp only [Act.put, List.setIfInBounds_toArray, List.set_cons_zero, List.set_cons_succ]
      refine ag.walk_sat (by rfl) (fun W1 hS hE => ?_) (fun y16 => ?_)
      · have own := hS.2.1
        have hBB := Nat.le_trans hS.2.2.1 hS.1.size
        have rx := hE.of 15 (by kernel_rfl)
        simp only [ag.lookE, if_true, Nat.reduceEqDiff, if_false] at rx
        obtain ⟨gN, e9, hgN, hfN⟩ := rx
        clear hE hS
        refine ag.does_one (.tmp 17) (.tmp 32) 80 (by rfl) w.heap.size TS i0 (.string ⟨#[]⟩) 1 16 Try.underlying80 hi0 hz0 hz1 hz2 rfl (by decide) (.slice a3 M c3) M cs (by rfl) own (.slice (some ⟨gN, 0, none⟩) 4 4) 4 _ (by rw [← e9]; rfl) (Row.of_flds hfN rfl 4) (by simp [Value.oneCell']) (by simp only [maxLen]; omega) (by omega) hBB _ _ _
      simp only [Act.put, List.setIfInBounds_toArray, List.set_cons_zero, List.set_cons_succ]
      refine ag.walk_cpy (by kernel_rfl) (by rfl) (by rfl) (fun W1 hS hE => ?_) ?_
      · clear hS hE
        unfold ag.does
        go_simp
        first | exact ⟨rfl, rfl⟩ | rfl
      simp only [ag.lookX, Nat.reduceAdd, Nat.reduceEqDiff, if_false, if_true]
      simp only [Act.put, List.setIfInBounds_toArray, List.set_cons_zero, List.set_cons_succ]
      refine ag.walk_nil (fun w10 hS hF hP => ?_)
      clear hP
      have h16 := hF.of 16
      simp only [ag.lookE, Nat.reduceAdd, Nat.reduceEqDiff, if_false, if_true] at h16
      obtain ⟨⟨a4, c4, e16⟩, ho16⟩ := h16
      rw [e16] at ho16
      subst e16
      rw [← HCS.out, ← hM2] at ho16
      have HO16 := Lib.hid ho16
      have HB16 := Lib.hid (HB99.out.trans (hS.below (Nat.le_refl _)))
      rw [← hM2]
      clear hF hS ho16
      go_wp2_with fail
      go_roundw
      case rel => exact ⟨j + 1, a4, c4, rfl, by go_num, by omega, HO16, HB16⟩
      case measure => simp [intOf]; omega
    · have dj : ¬ (j : Int) < (m : Int) := by omega
      have ej : j = m := by omega
      subst ej
      have he := HO.out
      rw [List.take_of_length_le (by rw [HL.out]; exact Nat.le_refl _)] at he
      have hn : 1 + 4 * j = (textsP r l).length := by rw [textsP_len, HL.out]
      rw [hn] at he ⊢
      have hroom := packP_len r l (fun o ho => (HOK.out o ho).2)
      rw [HL.out] at hroom
      have HPK := Lib.hid (pack_any _ (textsP r l) wr (by rw [← hn]; omega) (Row.of_owns he) (by omega))
      clear hjm he hn hroom
      go_wp2_with (go_at_call 30; refine HPK.out.mono ?_; rintro ee w9 ⟨rfl, hb9⟩; have HB9 := Lib.hid hb9; clear hb9)
      go_ret
      exact ⟨rfl, HB.out.trans (HB9.out.mono HB.out.size)⟩
end Go.Proofs.Ytmbafcfoboknkaa.agr
