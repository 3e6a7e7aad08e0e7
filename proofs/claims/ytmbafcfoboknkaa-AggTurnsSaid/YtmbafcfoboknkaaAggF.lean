/- Packing groups; walked. -/
import Derived.Test.YtmbafcfoboknkaaAggE
namespace Go.Proofs.Ytmbafcfoboknkaa.agr
set_option linter.unusedVariables false
open Go.RowKit val
/-- a group as it lies in memory and as it reads -/
structure Gp where
  ra : Option Addr
  rc : Nat
  row : List V
  rows : Int
  la : Option Addr
  lc : Nat
  l : List On
def gCell (x : Gp) : List Value := [.slice x.ra x.row.length x.rc, .int .i64 x.rows, .slice x.la x.l.length x.lc]
def gCells (l : List Gp) : List Value := l.flatMap gCell
theorem gCells_cons (x : Gp) (l : List Gp) : gCells (x :: l) = gCell x ++ gCells l := by unfold gCells; rw [List.flatMap_cons]
theorem gCells_at : ∀ (l : List Gp) (j : Nat) (v : Gp), l[j]? = some v → ∀ r, r < 3 → (gCells l)[j * 3 + r]? = (gCell v)[r]?
  | [], j, v, h, r, hr => by simp at h
  | a :: l, 0, v, h, r, hr => by
    simp at h; subst h
    rw [gCells_cons, Nat.zero_mul, Nat.zero_add, List.getElem?_append_left (by simp [gCell]; omega)]
  | a :: l, j + 1, v, h, r, hr => by
    have := gCells_at l j v (by simpa using h) r hr
    rw [gCells_cons, List.getElem?_append_right (by simp [gCell]; omega), show (j + 1) * 3 + r - (gCell a).length = j * 3 + r by simp [gCell]; omega]
    exact this
structure GpOk (W : World) (x : Gp) : Prop where
  r1 : Row W (.slice x.ra x.row.length x.rc) 3 x.row.length (vCells x.row)
  r2 : Row W (.slice x.la x.l.length x.lc) 9 x.l.length (oCells x.l)
  g : ∀ v ∈ x.row, val.Good v
  n1 : x.row.length ≤ 1000
  n2 : x.l.length ≤ 1000
  i : inR x.rows
  o : ∀ o ∈ x.l, inR o.n ∧ val.Good o.mn ∧ val.Good o.mx
theorem GpOk.later {W W' : World} {x : Gp} (h : GpOk W x) (hb : Below W.heap.size W W') : GpOk W' x := ⟨h.r1.later hb, h.r2.later hb, h.g, h.n1, h.n2, h.i, h.o⟩
theorem g_at {w : World} {a : Option Addr} {cap n : Nat} {l : List Gp} {k : Nat} {x : Gp} (hv : Row w (.slice a n cap) 3 n (gCells l)) (hk : k < n) (hx : l[k]? = some x) :
    ∃ b off, a = some ⟨b, off, none⟩ ∧ ∀ wq, Below w.heap.size w wq → wq.cell? ⟨b, off + k * 3, none⟩ = some (.slice x.ra x.row.length x.rc) ∧ wq.cell? ⟨b, off + k * 3 + 1, none⟩ = some (.int .i64 x.rows) ∧ wq.cell? ⟨b, off + k * 3 + 2, none⟩ = some (.slice x.la x.l.length x.lc) ∧ b < wq.heap.size := by
  obtain ⟨b, off, cap', ea, hcell⟩ := hv.pos (by omega)
  simp only [Value.slice.injEq] at ea
  obtain ⟨rfl, -, rfl⟩ := ea
  refine ⟨b, off, rfl, fun wq hb => ?_⟩
  have g := fun r (hr : r < 3) => cell_later hb ((hcell (k * 3 + r) (by omega)).trans ((gCells_at l k _ hx r hr).trans (List.getElem?_eq_getElem (by simpa [gCell] using hr))))
  have g0 := g 0 (by decide)
  exact ⟨g0, by have h := g 1 (by decide); rw [← Nat.add_assoc] at h; exact h, by have h := g 2 (by decide); rw [← Nat.add_assoc] at h; exact h, World.block_lt_of_cell? _ _ g0⟩
def keyR (l : List V) : ByteArray := ⟨(keyB l).toArray⟩
def gTexts (x : Gp) : List ByteArray := [keyR x.row, packP x.rows x.l]
def packG (l : List Gp) : ByteArray := ⟨(packB (l.flatMap gTexts)).toArray⟩
theorem flat2 : ∀ l : List Gp, (l.flatMap gTexts).length = 2 * l.length
  | [] => rfl
  | o :: l => by
    rw [List.flatMap_cons, List.length_append, flat2 l, List.length_cons]
    show 2 + 2 * l.length = _
    omega
theorem gTexts_snoc (l : List Gp) (j : Nat) (x : Gp) (h : l[j]? = some x) : (l.take (j + 1)).flatMap gTexts = (l.take j).flatMap gTexts ++ gTexts x := by
  rw [List.take_add_one, h]
  simp [List.flatMap_append]
theorem packG_len {w : World} : ∀ (l : List Gp), (∀ x ∈ l, GpOk w x) → (packB (l.flatMap gTexts)).length ≤ 300000 * l.length
  | [], _ => by simp [packB]
  | x :: l, h => by
    have ih := packG_len l (fun o ho => h o (List.mem_cons_of_mem _ ho))
    have hx := h x (List.mem_cons_self ..)
    have h1 := packP_len x.rows x.l (fun o ho => (hx.o o ho).2)
    have h2 := keyB_len x.row hx.g
    have h3 := hx.n1
    have h4 := hx.n2
    have e1 : (keyR x.row).size = (keyB x.row).length := size_arr _
    have e2 : (packP x.rows x.l).size = (packB (textsP x.rows x.l)).length := size_arr _
    rw [packB_length] at ih ⊢
    simp only [List.flatMap_cons, List.map_append, List.sum_append, List.length_cons, gTexts, List.map_cons, List.map_nil, List.sum_cons, List.sum_nil, e1, e2] at ih ⊢
    omega
theorem run_mul2 {P : Program} (t : TypeId) (x : Int) (w : World) : (binOp .mul t (.int .i64 2) (.int .i64 x)).run P w = .ok (.int .i64 (IntKind.i64.wrap (2 * x))) w := by
  simp [binOp_mul, Op.intArith, go_sem]
attribute [local go_sem high] run_mul2
set_option maxRecDepth 100000 in
set_option maxHeartbeats 8000000 in
theorem packg_any (n : Nat) (hn : n ≤ 1000) (a : Option Addr) (c : Nat) (gs : List Gp) (w : World) (hl : gs.length = n) (hrow : Row w (.slice a n c) 3 n (gCells gs)) (hok : ∀ x ∈ gs, GpOk w x) :
    Calls Try.prog 12 #[.slice a n c] w fun e w' => e = .returned (.string (packG gs)) ∧ Below w.heap.size w w' := by
  obtain ⟨i0, hi0, hz0, hz1, hz2⟩ := info_of infoS'
  have HL := Lib.hid hl
  have HR := Lib.hid hrow
  have HOK := Lib.hid hok
  have m0 : (0 : Int) ≤ (n : Int) := by omega
  have m1 : (n : Int) ≤ 1000 := by omega
  have hC : IntKind.i64.wrap (2 * (n : Int)) = ((2 * n : Nat) : Int) := by rw [IntKind.wrap_i64]; omega
  have HC := Lib.hid hC
  clear hC
  clear hl hrow hok
  go_enter Try.func12, Try.ntmps12
  go_wp2_with (at_make; go_loud (refine wpList_make_own _ rfl _ _ 80 rfl w.heap.size TS i0 (.string ⟨#[]⟩) 1 Try.underlying80 hi0 hz0 hz1 .i64 .i64 _ (2 * n) rfl rfl (by first | exact HC.out | rfl) (by rw [hz2]; omega) (by unfold maxLen; omega) (Nat.le_refl _) ?_); intro w3 hown3 hgrow3; have HO3 := Lib.hid hown3; have HB3 := Lib.hid (show Below w.heap.size w w3 from ⟨hgrow3.os, hgrow3.tape, hgrow3.output, hgrow3.size, fun k hk => hgrow3.block k hk (by simp)⟩); clear hown3 hgrow3)
  have HO0 := Lib.hid (show w3.ownsRow w.heap.size TS 1 (.slice (some ⟨w.heap.size, 0, none⟩) (2 * 0) (2 * n)) (2 * 0) (((gs.take 0).flatMap gTexts).map Value.string) from HO3.out)
  go_loopw [3, 12] (fun sv iv wr => ∃ (j : Nat) (a3 : Option Addr) (c3 : Nat), sv = .slice a3 (2 * j) c3 ∧ iv = .int .i64 (j : Int) ∧ j ≤ n ∧ Hid (wr.ownsRow w.heap.size TS 1 (.slice a3 (2 * j) c3) (2 * j) (((gs.take j).flatMap gTexts).map Value.string)) ∧ Hid (Below w.heap.size w wr)) (fun _ iv _ => n - (intOf iv).toNat)
  case atStart => exact ⟨0, _, _, rfl, rfl, Nat.zero_le _, HO0, HB3⟩
  case round =>
    obtain ⟨j, a3, c3, rfl, rfl, hj, HO, HB⟩ := hrel
    have j0 : (0 : Int) ≤ (j : Int) := by omega
    obtain ⟨M, hM⟩ : ∃ M, 2 * j = M := ⟨_, rfl⟩
    rw [hM] at HO ⊢
    by_cases hjm : j < n
    · have dj : (j : Int) < (n : Int) := by omega
      have hju : j < gs.length := by rw [HL.out]; exact hjm
      have hx := List.getElem?_eq_getElem hju
      generalize gs[j] = x at hx
      obtain ⟨b8, off8, ea, hcy⟩ := g_at HR.out hjm hx
      subst ea
      obtain ⟨f0, f1, f2, fl⟩ := hcy wr HB.out
      have HXO := Lib.hid (HOK.out x (List.mem_of_getElem? hx))
      have HT := Lib.hid (gTexts_snoc gs j x hx)
      clear hx hcy hju
      go_upto_region 5 with fail
      obtain ⟨W9, hW9⟩ : ∃ W, wr.alloc (.cells #[.slice x.ra x.row.length x.rc, .int .i64 x.rows, .slice x.la x.l.length x.lc] TGr) = W := ⟨_, rfl⟩
      obtain ⟨g9, hg9⟩ : ∃ g, wr.heap.size = g := ⟨_, rfl⟩
      have hb9 : Below wr.heap.size wr W9 := by rw [← hW9]; exact (Below.refl _ _).alloc (Nat.le_refl _) _
      have hf9 : Flds W9 g9 TGr [.slice x.ra x.row.length x.rc, .int .i64 x.rows, .slice x.la x.l.length x.lc] := by rw [← hW9, ← hg9]; exact Flds.new wr _ _
      have hb99 := HB.out.trans (hb9.mono HB.out.size)
      have hown := owns_below HO.out hb9
      have HNE := Lib.hid (owns_ne_obj hown hf9 (by decide))
      obtain ⟨cs, hcs⟩ : ∃ cs, ((gs.take j).flatMap gTexts).map Value.string = cs := ⟨_, rfl⟩
      have HCS := Lib.hid (show ((gs.take (j + 1)).flatMap gTexts).map Value.string = cs ++ [.string (keyR x.row), .string (packP x.rows x.l)] from by rw [HT.out, List.map_append, hcs]; rfl)
      rw [hcs] at hown
      have HSL := Lib.hid (ag.SL.start hown hb99.size)
      have HF9 := Lib.hid hf9
      have HB99 := Lib.hid hb99
      have HK1 := Lib.hid (fun (W : World) (hb : Below w.heap.size w W) => show Calls Try.prog 9 #[.slice x.ra x.row.length x.rc] W (fun e w' => e = .returned (.string (keyR x.row)) ∧ Below W.heap.size W w') from key_any (.slice x.ra x.row.length x.rc) x.row HXO.out.g (Nat.le_trans HXO.out.n1 (by decide)) W (HXO.out.r1.later hb))
      have HK2 := Lib.hid (fun (W : World) (hb : Below w.heap.size w W) => ppack_any x.l.length HXO.out.n2 x.rows HXO.out.i x.la x.lc x.l W rfl (HXO.out.r2.later hb) HXO.out.o)
      rw [hW9, hg9]
      clear hW9 hg9 hb9 hf9 hb99 hown HO HT f0 f1 f2 fl HXO
      have hM2 : 2 * (j + 1) = M + 2 := by omega
      have hM3 : M ≤ 2000 := by omega
      generalize x.row.length = rn at *
      generalize x.l.length = ln at *
      generalize x.ra = ra at *
      generalize x.rc = rc at *
      generalize x.rows = rr at *
      generalize x.la = la at *
      generalize x.lc = lc at *
      generalize keyR x.row = K1 at *
      apply ag.region_ag  (fun W1' => ag.SL w.heap.size TS 1 M cs (.slice a3 M c3) W9 W1') (fun _ _ _ _ => True) (ag.Spec.val _ :: ag.Spec.val _ :: ag.Spec.val _ :: ag.Spec.sat (fun v _ => v = .string K1) (ag.grew) :: ag.Spec.val _ :: ag.Spec.val _ :: ag.Spec.sat (fun v _ => v = .string (packP rr x.l)) (ag.grew) :: ag.Spec.sat (ag.NS W9.heap.size TS 2 [.string K1, .string (packP rr x.l)]) (ag.grew) :: ag.Spec.sat (ag.OneR w.heap.size TS 1 (M + 2) (cs ++ [.string K1, .string (packP rr x.l)])) (ag.tk3 w.heap.size TS 1 M cs (.slice a3 M c3)) :: ag.Spec.cpy 8 :: [])
      case hm => kernel_rfl
      case hB => kernel_rfl
      case hlen => rfl
      case hS => exact HSL.out.drew
      case hst =>
        simp only [ag.Stab, ag.Row2, ag.Ok2, and_true]
        repeat' apply And.intro
        all_goals first
          | exact fun h => absurd rfl h
          | (exact fun _ _ f v W W' _ hv _ ht => hv)
          | (exact fun _ _ f v W W' _ hv _ ht => ag.NS.lasts v W W' hv ht)
          | (exact fun _ _ f v W W' hs hv _ ht => ag.NS.app hv hs ht)
          | (exact fun _ _ f v W W' _ hv _ ht => ag.OneR.lasts v W W' hv ht)
          | trivial
          | exact fun _ h => absurd (h.symm.trans (show _ = true by kernel_rfl)) (by decide)
      case hk =>
        simp only [ag.Keeps, and_true]
        repeat' apply And.intro
        all_goals first
          | (exact fun f W W' hS _ ht => ag.SL.grew hS ht)
          | (exact fun f W W' hS _ ht => ag.SL.app hS ht)
          | trivial
      apply ag.walk_val
      · rfl
      · intro W1 hS hE
        clear hS hE
        all_goals unfold ag.does
        all_goals go_simp
        all_goals first | done | exact ⟨rfl, rfl⟩ | rfl | (exact ⟨by go_num, rfl⟩) | (simp; done) | trace_state
      simp only [Act.put, List.setIfInBounds_toArray, List.set_cons_zero, List.set_cons_succ]
      apply ag.walk_val
      · rfl
      · intro W1 hS hE
        clear hS hE
        all_goals unfold ag.does
        all_goals go_simp
        all_goals first | done | exact ⟨rfl, rfl⟩ | rfl | (exact ⟨by go_num, rfl⟩) | (simp; done) | trace_state
      simp only [Act.put, List.setIfInBounds_toArray, List.set_cons_zero, List.set_cons_succ]
      apply ag.walk_val
      · rfl
      · intro W1 hS hE
        have hq := hS.flds HF9.out HNE.out
        have y0 := hq.cell 0
        have yl := hq.lt
        simp only [List.getElem?_cons_zero, List.getElem?_cons_succ] at y0
        clear hS hE
        all_goals unfold ag.does
        all_goals go_simp
        all_goals first | done | exact ⟨rfl, rfl⟩ | rfl | (exact ⟨by go_num, rfl⟩) | (simp; done) | trace_state
      simp only [Act.put, List.setIfInBounds_toArray, List.set_cons_zero, List.set_cons_succ]
      refine ag.walk_sat (by rfl) (fun W1 hS hE => ?_) (fun y3 => ?_)
      · have hk := HK1.out W1 (HB99.out.trans (hS.below (Nat.le_refl _)))
        clear hS hE
        all_goals unfold ag.does
        all_goals go_simp
        all_goals first | done | (exact hk.mono (fun e w' h => ⟨_, h.1, rfl, h.2, ag.News.none (fun _ _ => trivial) _ _⟩))
      simp only [Act.put, List.setIfInBounds_toArray, List.set_cons_zero, List.set_cons_succ]
      apply ag.walk_val
      · rfl
      · intro W1 hS hE
        clear hS hE
        all_goals unfold ag.does
        all_goals go_simp
        all_goals first | done | exact ⟨rfl, rfl⟩ | rfl | (exact ⟨by go_num, rfl⟩) | (simp; done) | trace_state
      simp only [Act.put, List.setIfInBounds_toArray, List.set_cons_zero, List.set_cons_succ]
      apply ag.walk_val
      · rfl
      · intro W1 hS hE
        have hq := hS.flds HF9.out HNE.out
        have y1 := hq.cell 1
        have y2 := hq.cell 2
        have yl := hq.lt
        simp only [List.getElem?_cons_zero, List.getElem?_cons_succ] at y1 y2
        clear hS hE
        all_goals unfold ag.does
        all_goals go_simp
        all_goals first | done | exact ⟨rfl, rfl⟩ | rfl | (exact ⟨by go_num, rfl⟩) | (simp; done) | trace_state
      simp only [Act.put, List.setIfInBounds_toArray, List.set_cons_zero, List.set_cons_succ]
      refine ag.walk_sat (by rfl) (fun W1 hS hE => ?_) (fun y6 => ?_)
      · have hk := HK2.out W1 (HB99.out.trans (hS.below (Nat.le_refl _)))
        clear hS hE
        all_goals unfold ag.does
        all_goals go_simp
        all_goals first | done | (exact hk.mono (fun e w' h => ⟨_, h.1, rfl, h.2, ag.News.none (fun _ _ => trivial) _ _⟩))
      simp only [Act.put, List.setIfInBounds_toArray, List.set_cons_zero, List.set_cons_succ]
      refine ag.walk_sat (by rfl) (fun W1 hS hE => ?_) (fun y7 => ?_)
      · have h3 := hE.of 3 (by kernel_rfl)
        have h6 := hE.of 6 (by kernel_rfl)
        simp only [ag.lookE, if_true, Nat.reduceEqDiff, if_false] at h3 h6
        subst h3 h6
        have hX := hS.1.size
        clear hS hE
        all_goals unfold ag.does
        all_goals go_simp
        all_goals first | done | (exact ⟨ag.NS.new W1 hX, (Below.refl _ _).alloc (Nat.le_refl _) _, ag.News.none (fun _ _ => trivial) _ _⟩)
      simp only [Act.put, List.setIfInBounds_toArray, List.set_cons_zero, List.set_cons_succ]
      refine ag.walk_sat (by rfl) (fun W1 hS hE => ?_) (fun y8 => ?_)
      · have own := hS.2.1
        have hBB := Nat.le_trans hS.2.2.1 hS.1.size
        have rx := hE.of 7 (by kernel_rfl)
        simp only [ag.lookE, if_true, Nat.reduceEqDiff, if_false] at rx
        obtain ⟨gN, e9, hgN, hfN⟩ := rx
        clear hE hS
        refine ag.does_one (.tmp 16) (.tmp 23) 80 (by rfl) w.heap.size TS i0 (.string ⟨#[]⟩) 1 16 Try.underlying80 hi0 hz0 hz1 hz2 rfl (by decide) (.slice a3 M c3) M cs (by rfl) own (.slice (some ⟨gN, 0, none⟩) 2 2) 2 _ (by rw [← e9]; rfl) (Row.of_flds hfN rfl 2) (by simp [Value.oneCell']) (by simp only [maxLen]; omega) (by omega) hBB _ _ _
      simp only [Act.put, List.setIfInBounds_toArray, List.set_cons_zero, List.set_cons_succ]
      refine ag.walk_cpy (by kernel_rfl) (by rfl) (by rfl) (fun W1 hS hE => ?_) ?_
      · clear hS hE
        unfold ag.does
        go_simp
        first | exact ⟨rfl, rfl⟩ | rfl
      simp only [ag.lookX, Nat.reduceAdd, Nat.reduceEqDiff, if_false, if_true]
      simp only [Act.put, List.setIfInBounds_toArray, List.set_cons_zero, List.set_cons_succ]
      refine ag.walk_nil (fun w10 hS hF hP => ?_)
      clear hP
      have h16 := hF.of 8
      simp only [ag.lookE, Nat.reduceAdd, Nat.reduceEqDiff, if_false, if_true] at h16
      obtain ⟨⟨a4, c4, e16⟩, ho16⟩ := h16
      rw [e16] at ho16
      subst e16
      rw [← HCS.out, ← hM2] at ho16
      have HO16 := Lib.hid ho16
      have HB16 := Lib.hid (HB99.out.trans (hS.below (Nat.le_refl _)))
      rw [← hM2]
      clear hF hS ho16
      go_wp2_with fail
      go_roundw
      case rel => exact ⟨j + 1, a4, c4, rfl, by go_num, by omega, HO16, HB16⟩
      case measure => simp [intOf]; omega
    · have dj : ¬ (j : Int) < (n : Int) := by omega
      have ej : j = n := by omega
      subst ej
      have he := HO.out
      rw [List.take_of_length_le (by rw [HL.out]; exact Nat.le_refl _)] at he
      have hn2 : (gs.flatMap gTexts).length = M := by rw [flat2, HL.out]; exact hM
      have hroom := packG_len gs HOK.out
      rw [HL.out] at hroom
      have HSS := Lib.hid (show packG gs = ⟨(packB (gs.flatMap gTexts)).toArray⟩ from rfl)
      generalize gs.flatMap gTexts = ss at he hn2 hroom HSS
      have HPK := Lib.hid (pack_any (.slice a3 M c3) ss wr (by omega) (by rw [hn2]; exact Row.of_owns he) (by omega))
      clear hjm he hroom hn2 hM
      go_wp2_with (go_at_call 30; refine HPK.out.mono ?_; rintro ee w9 ⟨rfl, hb9⟩; have HB9 := Lib.hid hb9; clear hb9)
      go_ret
      exact ⟨by rw [HSS.out]; rfl, HB.out.trans (HB9.out.mono HB.out.size)⟩
def gOf (r : Int) (l : List On) (a : Option Addr) (c : Nat) : Gp := ⟨none, 0, [], r, a, c, l⟩
set_option maxRecDepth 100000 in
set_option maxHeartbeats 2000000 in
theorem one_any (m : Nat) (hm : m ≤ 1000) (r : Int) (hr : inR r) (a : Option Addr) (c : Nat) (l : List On) (w : World) (hl : l.length = m) (hrow : Row w (.slice a m c) 9 m (oCells l)) (hok : ∀ o ∈ l, inR o.n ∧ val.Good o.mn ∧ val.Good o.mx) :
    Calls Try.prog 17 #[.agg #[.int .i64 r, .slice a m c]] w fun e w' => e = .returned (.string (packG [gOf r l a c])) ∧ Below w.heap.size w w' := by
  subst hl
  obtain ⟨W1, hW1⟩ : ∃ W, w.alloc (.cells #[.int .i64 r, .slice a l.length c] TPt) = W := ⟨_, rfl⟩
  obtain ⟨g1, hg1⟩ : ∃ g, w.heap.size = g := ⟨_, rfl⟩
  have hb1 : Below w.heap.size w W1 := by rw [← hW1]; exact (Below.refl _ _).alloc (Nat.le_refl _) _
  have hf1 : Flds W1 g1 TPt [.int .i64 r, .slice a l.length c] := by rw [← hW1, ← hg1]; exact Flds.new w _ _
  have hb2 : Below W1.heap.size W1 (W1.alloc (.cells #[.slice none 0 0, .int .i64 r, .slice a l.length c] TGr)) := (Below.refl _ _).alloc (Nat.le_refl _) _
  have HP := Lib.hid (packg_any 1 (by decide) (some ⟨W1.heap.size, 0, none⟩) 1 [gOf r l a c] (W1.alloc (.cells #[.slice none 0 0, .int .i64 r, .slice a l.length c] TGr)) rfl (Row.of_flds (Flds.new W1 TGr [.slice none 0 0, .int .i64 r, .slice a l.length c]) rfl 1) (fun x hx => by
    obtain rfl := List.mem_singleton.1 hx
    exact ⟨Row.nil _ _ _ _, (hrow.later hb1).later hb2, fun v hv => (by cases hv), Nat.zero_le _, hm, hr, hok⟩))
  have HB := Lib.hid (hb1.trans (hb2.mono hb1.size))
  have p0 := hf1.cell 0; have p1 := hf1.cell 1; have pl := hf1.lt
  simp only [List.getElem?_cons_zero, List.getElem?_cons_succ] at p0 p1
  clear hb1 hb2 hrow hok hf1
  go_enter Try.func17, Try.ntmps17
  go_upto_region 1 with fail
  try rw [hW1, hg1]
  clear hW1 hg1
  go_wp2_with (go_at_call 12; go_loud (refine HP.out.mono ?_); rintro ee w9 ⟨rfl, hb9⟩; have HB9 := Lib.hid hb9; clear hb9)
  go_ret
  exact ⟨rfl, HB.out.trans (HB9.out.mono HB.out.size)⟩
end Go.Proofs.Ytmbafcfoboknkaa.agr
