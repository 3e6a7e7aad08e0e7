/- gather: rows with counts, in any order, brought into a bag; walked. -/
import Derived.Test.YtpkkhbmlclicfaaBagF
import Derived.RegionTactic
import Derived.BigRegion
import Derived.Deep.RegionWith
import Derived.Deep.QuietTactic
import Derived.BigQuiet
import Derived.OwnWalk
import Derived.Shelf.SlSortCmp.QuietGrown
namespace Go.Proofs.Ytpkkhbmlclicfaa.val
set_option linter.unusedVariables false
open Go.RowKit Go.Sort
abbrev TB : TypeId := 30
def Small (l : BL) : Prop := ∀ x ∈ l, x.1.length ≤ 1000000
/-- a bag in memory -/
def IsBag (w : World) (v : Value) (o : BL) : Prop := ∃ (a : Option Addr) (c : Nat) (xs : List (Value × Nat)), v = .agg #[.slice a o.length c] ∧ w.ownsRow 0 TS 2 (.slice a o.length c) o.length (eCells xs) ∧ Smx w xs o ∧ Strict o ∧ GoodB o ∧ Small o
theorem IsBag.later {w w' : World} {v : Value} {o : BL} (h : IsBag w v o) (hb : Below w.heap.size w w') : IsBag w' v o := by
  obtain ⟨a, c, xs, h1, h2, h3, h4⟩ := h
  exact ⟨a, c, xs, h1, owns_below h2 hb, h3.later hb, h4⟩
theorem sortk_none (w : World) (p : Option Addr) (cap : Nat) : Calls Try.prog 40 #[.slice p 0 cap, .func (.func 41) #[] #[]] w fun e w' => e = .returned (.tuple #[]) ∧ w' = w := by
  have h := AnyF.slices_SortFunc_none (P := Try.prog) (ρ := Try.sortK_ren) { Try.sortK with } p cap (.func (.func 41) #[] #[]) w
  exact h
/-- what sorting leaves, for any length -/
theorem sortk_all (v : Value) (xs : List (Value × Nat)) (l : BL) (w : World) (hn1 : xs.length < 4611686018427387904) (hg : GoodB l) (hl : Small l) (ho : w.ownsRow 0 TS 2 v xs.length (eCells xs)) (hr : Smx w xs l) :
    Calls Try.prog 40 #[v, .func (.func 41) #[] #[]] w fun e w' => e = .returned (.tuple #[]) ∧ ∃ xs' l', xs'.length = xs.length ∧ Row w' v 2 xs.length (eCells xs') ∧ Smx w' xs' l' ∧ l'.Perm l ∧ SortedB l' ∧ Only (fun k => v.ownBlock = some k) w w' := by
  rcases Nat.eq_zero_or_pos xs.length with h0 | h0
  · have hx : xs = [] := List.length_eq_zero_iff.1 h0
    subst hx
    have hl0 : l = [] := List.length_eq_zero_iff.1 (by rw [← hr.1]; rfl)
    subst hl0
    obtain ⟨a, c, rfl⟩ := owns_shape ho
    refine (sortk_none w a c).mono ?_
    rintro e w' ⟨he, rfl⟩
    exact ⟨he, [], [], rfl, Row.of_owns ho, Smx.nil _, List.Perm.refl _, List.Pairwise.nil, Only.refl _ _⟩
  · exact sortk_any xs.length v xs l w rfl h0 hn1 hg hl ho hr
/-- the last of what is out comes no later than what comes next -/
theorem gat_last {o p l : BL} {k : Nat} {ro : List V} {co : Nat} (h : Gat o (l.take k)) (hs : SortedB l) (hk : k < l.length) (ho : o = p ++ [(ro, co)]) : beforeL l[k].1 ro = false := by
  rcases h.2.2.2.2 with h0 | ⟨p', q, x, y, h1, h2, h3⟩
  · have h4 := h.2.2.2.1 (ro, co) (by rw [ho]; simp)
    rw [h0] at h4
    obtain ⟨y, hy, -⟩ := h4
    cases hy
  · rw [ho] at h1
    have e := List.append_inj_right' h1 rfl
    simp only [List.cons.injEq, and_true] at e
    rw [← e] at h3
    simp only at h3
    have hy : y ∈ l.take k := by rw [h2]; simp
    obtain ⟨i, hi, hiy⟩ := List.getElem_of_mem hy
    rw [List.length_take] at hi
    rw [List.getElem_take] at hiy
    have hp := List.pairwise_iff_getElem.1 hs i k (by omega) hk (by omega)
    rw [hiy, ← h3] at hp
    exact hp
theorem cmp_ne {l m : List V} (hl : Goods l) (hm : Goods m) (h : beforeL m l = false) (hc : cmpL l m ≠ 0) : beforeL l m = true := by
  rcases cmpL_range l m with h1 | h1 | h1
  · exact (cmpL_lt l m hl hm).1.1 (by omega)
  · exact absurd h1 hc
  · rw [(cmpL_lt l m hl hm).2.1 (by omega)] at h; cases h
theorem cmp_eq {l m : List V} (hl : Goods l) (hm : Goods m) (hc : cmpL l m = 0) : l = m := by
  refine beforeL_total l m hl hm ?_ ?_
  · cases h : beforeL l m with
    | false => rfl
    | true => have := (cmpL_lt l m hl hm).1.2 h; omega
  · cases h : beforeL m l with
    | false => rfl
    | true => have := (cmpL_lt l m hl hm).2.2 h; omega
theorem total_take (l : BL) (k : Nat) : total (l.take k) ≤ total l := by
  conv => rhs; rw [← List.take_append_drop k l]
  rw [total_append]; omega
theorem total_mem (l : BL) (x : List V × Nat) (h : x ∈ l) : x.2 ≤ total l := by
  obtain ⟨s, t, rfl⟩ := List.append_of_mem h
  rw [total_append]
  unfold total
  simp; omega
theorem owns_drewN {B n k : Nat} {T : TypeId} {v : Value} {xs : List Value} {w : World} (h : w.ownsRow B T k v n xs) (q : Nat) : (w.drewN q).ownsRow B T k v n xs := h
theorem Smx.drewN {w : World} {xs : List (Value × Nat)} {l : BL} (h : Smx w xs l) (q : Nat) : Smx (w.drewN q) xs l := ⟨h.1, fun j x y h1 h2 => ⟨(h.2 j x y h1 h2).1, owns_drewN (h.2 j x y h1 h2).2 q⟩⟩
theorem Smx.drew {w : World} {xs : List (Value × Nat)} {l : BL} (h : Smx w xs l) : Smx w.drew xs l := ⟨h.1, fun j x y h1 h2 => ⟨(h.2 j x y h1 h2).1, (h.2 j x y h1 h2).2.drew⟩⟩
theorem below_drewN {B : Nat} {a w : World} (h : Below B a w) (n : Nat) : Below B a (w.drewN n) := ⟨h.os, h.tape, h.output, h.size, h.block⟩
theorem below_growN (w : World) (q : Nat) (os : Array Go.Obj) : Below w.heap.size w (Go.Sort.grow (w.drewN q) os) :=
  ⟨rfl, rfl, rfl, by simp [Go.Sort.grow], fun k hk => by
    show ((w.drewN q).heap ++ os)[k]? = _
    rw [Array.getElem?_append_left (by show k < w.heap.size; omega)]
    rfl⟩
theorem eCells_last (ys : List (Value × Nat)) (u : Value) (c d M : Nat) (hM : ys.length = M) : (eCells (ys ++ [(u, c)])).set (M * 2 + 1) (.int .i64 (d : Int)) = eCells (ys ++ [(u, d)]) := by
  rw [eCells_snoc, eCells_snoc, List.set_append_right _ _ (by rw [eCells_len]; omega), eCells_len, hM, show M * 2 + 1 - M * 2 = 1 by omega]
  rfl
theorem Smx.upd {w : World} {ys : List (Value × Nat)} {p : BL} {u : Value} {r : List V} {c d : Nat} (h : Smx w (ys ++ [(u, c)]) (p ++ [(r, c)])) (hu : w.ownsRow 0 TV 3 u r.length (vCells r)) : Smx w (ys ++ [(u, d)]) (p ++ [(r, d)]) := by
  have hl : ys.length = p.length := by have := h.1; simp at this; exact this
  refine Smx.snoc ⟨hl, fun j x y h1 h2 => h.2 j x y ?_ ?_⟩ hu
  · rw [List.getElem?_append_left (List.getElem?_eq_some_iff.1 h1).1]; exact h1
  · rw [List.getElem?_append_left (List.getElem?_eq_some_iff.1 h2).1]; exact h2
theorem cells_new_add' (w : World) (vs : List Value) (T : TypeId) : ∀ j u, vs[j]? = some u → (w.alloc (.cells vs.toArray T)).cell? ((⟨w.heap.size, 0, none⟩ : Addr).add j) = some u := by
  intro j u h
  have e : (⟨w.heap.size, 0, none⟩ : Addr).add j = ⟨w.heap.size, j, none⟩ := by unfold Addr.add; split <;> simp_all
  rw [e, (Flds.new w T vs).cell j, h]
theorem fl_keep' {w w' : World} {b : Nat} {T : TypeId} {fs : List Value} (h : Flds w b T fs) (hb : Below w.heap.size w w') : Flds w' b T fs := h.later hb
theorem two_cells (u : Value) (a c : Nat) (p : Option Addr) (d : Int) (h : u = .slice p a c) : ∀ x ∈ [u, .int .i64 d], x.oneCell' = true := by
  intro x hx
  simp only [List.mem_cons, List.mem_nil_iff, or_false] at hx
  rcases hx with rfl | rfl
  · rw [h]; rfl
  · rfl
set_option maxRecDepth 100000 in
set_option maxHeartbeats 8000000 in
theorem gather_any (v : Value) (xs : List (Value × Nat)) (l : BL) (hn : xs.length ≤ 1000000) (hg : GoodB l) (hl : Small l) (hp : ∀ x ∈ l, 0 < x.2) (ht : total l ≤ 1000000000) (w : World) (ho : w.ownsRow 0 TS 2 v xs.length (eCells xs)) (hr : Smx w xs l) :
    Calls Try.prog 26 #[v] w fun e w' => ∃ bv o, e = .returned bv ∧ IsBag w' bv o ∧ (∀ r, cnt o r = cnt l r) ∧ total o = total l ∧ Only (fun k => v.ownBlock = some k) w w' := by
  obtain ⟨i0, hi, hz0, hz1, hz2⟩ := info_parts infoTs
  obtain ⟨W1, hW1⟩ : ∃ W1, w.alloc (.cells #[.slice none 0 0] TB) = W1 := ⟨_, rfl⟩
  have hb1 : Below w.heap.size w W1 := by rw [← hW1]; exact (Below.refl _ _).alloc (Nat.le_refl _) _
  have hfl : Flds W1 w.heap.size TB [.slice none 0 0] := by rw [← hW1]; exact Flds.new w TB [.slice none 0 0]
  have HSO := Lib.hid (sortk_all v xs l W1 (by omega) hg hl (owns_below ho hb1) (hr.later hb1))
  have HB1 := Lib.hid hb1
  have HFL := Lib.hid hfl
  have HNE : Hid (∀ k, v.ownBlock = some k → k < w.heap.size) := Lib.hid (fun k hk => (ho.lt k hk).2)
  have HG := Lib.hid hg
  have HL := Lib.hid hl
  have HP := Lib.hid hp
  have HT := Lib.hid ht
  have hn0 : (0 : Int) ≤ (xs.length : Int) := by omega
  have hn1 : (xs.length : Int) ≤ 1000000 := by omega
  obtain ⟨a, cap, rfl⟩ := owns_shape ho
  clear hb1 hfl hg hl hp ht ho hr
  go_enter Try.func26, Try.ntmps26
  go_upto_region 1 with fail
  clear hW1
  obtain ⟨g0, hg0⟩ : ∃ g0, w.heap.size = g0 := ⟨_, rfl⟩
  rw [hg0] at HFL HNE
  go_upto_region 2 with (go_at_call 40; (with_reducible refine (HSO.out).mono ?_); rintro e w2 ⟨rfl, xs', l', hxl, hrow, hsm, hper, hsrt, hon⟩; have HRW := Lib.hid hrow; have HSM := Lib.hid hsm; have HPE := Lib.hid hper; have HSR := Lib.hid hsrt; have HON := Lib.hid hon; clear hrow hsm hper hsrt hon)
  have HB12 : Hid (Below w.heap.size w w2 ∨ True) := Lib.hid (.inr trivial)
  have hW12 : W1.heap.size ≤ w2.heap.size := HON.out.size
  have hg0W : g0 < W1.heap.size := HFL.out.lt
  have HFL2 : Hid (Flds w2 g0 TB [.slice none 0 0]) := Lib.hid ((HON.out.block g0 hg0W (fun e => by have := HNE.out g0 e; omega)).trans HFL.out)
  have HLL : Hid (l'.length = xs.length) := Lib.hid (by rw [← HSM.out.1, hxl])
  have HGB : Hid (GoodB l') := Lib.hid (fun x hx => HG.out x (HPE.out.mem_iff.1 hx))
  have HSB : Hid (Small l') := Lib.hid (fun x hx => HL.out x (HPE.out.mem_iff.1 hx))
  have HPO : Hid (∀ x ∈ l', 0 < x.2) := Lib.hid (fun x hx => HP.out x (HPE.out.mem_iff.1 hx))
  have HTT : Hid (total l' ≤ 1000000000) := Lib.hid (by rw [total_perm HPE.out]; exact HT.out)
  have HON2 : Hid (Only (fun k => (Value.slice a xs.length cap).ownBlock = some k) w w2) := Lib.hid ((Only.of_below HB1.out).trans HON.out (fun k _ h => h))
  clear HSO HFL HB12
  go_wp2_with fail
  go_loopw [3, 11] (fun sv iv wr => ∃ (k : Nat) (ao : Option Addr) (co : Nat) (ys : List (Value × Nat)) (o : BL), sv = .slice ao ys.length co ∧ iv = .int .i64 (k : Int) ∧ k ≤ xs.length ∧ ys.length ≤ k ∧ Hid (wr.ownsRow w2.heap.size TS 2 sv ys.length (eCells ys)) ∧ Hid (Smx wr ys o) ∧ Hid (Gat o (l'.take k)) ∧ Hid (Below w2.heap.size w2 wr)) (fun _ iv _ => xs.length - (intOf iv).toNat)
  case atStart => exact ⟨0, none, 0, [], [], rfl, rfl, Nat.zero_le _, Nat.le_refl _, Lib.hid (World.ownsRow_nil _ _ _ _), Lib.hid (Smx.nil _), Lib.hid Gat.nil, Lib.hid (Below.refl _ _)⟩
  case round =>
    obtain ⟨k, ao, co, ys, o, rfl, rfl, hk, hyk, HO, HS, HGT, HB⟩ := hrel
    have hd0 : (0 : Int) ≤ (k : Int) := by omega
    by_cases hkn : k < xs.length
    · have dk : (k : Int) < (xs.length : Int) := by omega
      have hkl : k < l'.length := by rw [HLL.out]; exact hkn
      have hkx : k < xs'.length := by rw [hxl]; exact hkn
      obtain ⟨b, off, cap', ea, hcell⟩ := (HRW.out.later HB.out).pos (by omega)
      simp only [Value.slice.injEq] at ea
      obtain ⟨rfl, -, rfl⟩ := ea
      obtain ⟨ec0, ec1⟩ := eCells_at xs' k _ (List.getElem?_eq_getElem hkx)
      have c0 := (hcell (k * 2) (by omega)).trans ec0
      have c1 := (hcell (k * 2 + 1) (by omega)).trans ec1
      rw [← Nat.add_assoc] at c1
      obtain ⟨hcd, hru⟩ := HSM.out.2 k _ _ (List.getElem?_eq_getElem hkx) (List.getElem?_eq_getElem hkl)
      have hgr := HGB.out _ (List.getElem_mem hkl)
      have hsr := HSB.out _ (List.getElem_mem hkl)
      have hpr := HPO.out _ (List.getElem_mem hkl)
      have htk : l'.take (k + 1) = l'.take k ++ [l'[k]] := List.take_succ_eq_append_getElem hkl
      have hlast := fun p ro co' => gat_last (p := p) (ro := ro) (co := co') HGT.out HSR.out hkl
      have htd := total_mem _ _ (List.getElem_mem hkl)
      have htt := HTT.out
      generalize l'[k] = x at *
      generalize xs'[k] = y at *
      obtain ⟨r, d⟩ := x
      obtain ⟨u, d'⟩ := y
      simp only at hcd c0 c1 hpr htd hsr hgr hru hlast
      subst hcd
      obtain ⟨ua, uc, rfl⟩ := owns_shape hru
      have HTK := Lib.hid htk
      have HGR := Lib.hid hgr
      have HLAST := Lib.hid hlast
      have hdd : (d' : Int) ≤ 1000000000 := by omega
      have hd00 : (0 : Int) ≤ (d' : Int) := by omega
      have hgw : w2.heap.size ≤ wr.heap.size := HB.out.size
      have HOT := Lib.hid (HO.out.alloc (.cells #[.slice ua r.length uc, .int .i64 (d' : Int)] TS))
      have hal : Below wr.heap.size wr (wr.alloc (.cells #[.slice ua r.length uc, .int .i64 (d' : Int)] TS)) := below_alloc1 _ _
      have HST := Lib.hid (HS.out.later hal)
      have HRT := Lib.hid (owns_below (owns_below hru HB.out) hal)
      have HBT := Lib.hid (HB.out.trans (hal.mono hgw))
      have HF5 := Lib.hid (Flds.new wr TS [.slice ua r.length uc, .int .i64 (d' : Int)])
      have HN5 : Hid ((Value.slice ao ys.length co).ownBlock ≠ some wr.heap.size) := Lib.hid (fun e => by have := (HO.out.lt _ e).2; omega)
      clear hcell ec0 ec1 hru htk hgr hkl hkx hlast hal HO HS
      go_upto_region 6 with fail
      generalize wr.alloc (.cells #[.slice ua r.length uc, .int .i64 (d' : Int)] TS) = wt at *
      generalize wr.heap.size = g5 at *
      clear c0 c1
      have c0 := HF5.out.cell 0
      have c1 := HF5.out.cell 1
      simp only [List.getElem?_cons_zero, List.getElem?_cons_succ] at c0 c1
      have hl5 : g5 < wt.heap.size := HF5.out.lt
      rcases List.eq_nil_or_concat o with rfl | ⟨p, z, rfl⟩
      · have hys : ys = [] := List.length_eq_zero_iff.1 (by rw [HST.out.1]; rfl)
        subst hys
        go_upto_region 7 with fail
        go_quiet (fail)
        have HOQ := Lib.hid (owns_drewN HOT.out nq)
        have HSQ := Lib.hid (HST.out.drewN nq)
        have HRQ := Lib.hid (owns_drewN HRT.out nq)
        have HBQ := Lib.hid (below_drewN HBT.out nq)
        have HFQ := Lib.hid (HF5.out.drew nq)
        clear c0 c1 hl5
        generalize wt.drewN nq = wq at *
        have c0 := HFQ.out.cell 0
        have c1 := HFQ.out.cell 1
        simp only [List.getElem?_cons_zero, List.getElem?_cons_succ] at c0 c1
        have hl5 : g5 < wq.heap.size := HFQ.out.lt
        clear HOT HST HRT HBT HF5
        go_wp2_with (at_builtin; refine wpList_append_own _ rfl _ _ 28 rfl w2.heap.size TS i0 (.agg #[.slice none 0 0, .int .i64 0]) 2 32 Try.underlying28 hi hz0 hz1 hz2 rfl (by decide) _ _ _ rfl (HOQ.out.alloc _) ⟨wq.heap.size, 0, none⟩ 1 1 [.slice ua r.length uc, .int .i64 (d' : Int)] rfl rfl (cells_new_add' wq [.slice ua r.length uc, .int .i64 (d' : Int)] TS) (two_cells _ _ _ _ _ rfl) (by unfold maxLen; omega) (by omega) (by have := HBQ.out.size; simp only [World.size_alloc]; omega) ?_; intro v' w5 hown' hgrow _)
        have hgr' : (wq.alloc (.cells #[.slice ua r.length uc, .int .i64 (d' : Int)] TS)).grownBy w5 (Value.slice ao ([] : List (Value × Nat)).length co).ownBlock := hgrow
        have hS5 := (HSQ.out.later (below_alloc1 wq (.cells #[.slice ua r.length uc, .int .i64 (d' : Int)] TS))).kept hgr' ((HSQ.out.later (below_alloc1 wq (.cells #[.slice ua r.length uc, .int .i64 (d' : Int)] TS))).apart (HOQ.out.alloc (.cells #[.slice ua r.length uc, .int .i64 (d' : Int)] TS)) (by decide))
        have hR5 := (HRQ.out.alloc (.cells #[.slice ua r.length uc, .int .i64 (d' : Int)] TS)).kept hgr' (owns_ne_owns (HRQ.out.alloc (.cells #[.slice ua r.length uc, .int .i64 (d' : Int)] TS)) (HOQ.out.alloc (.cells #[.slice ua r.length uc, .int .i64 (d' : Int)] TS)) (by decide))
        have HB5 := Lib.hid ((HBQ.out.alloc HBQ.out.size (.cells #[.slice ua r.length uc, .int .i64 (d' : Int)] TS)).grown hgr' (by have := HBQ.out.size; simp only [World.size_alloc]; omega) (fun j hj => (HOQ.out.lt j hj).1))
        have HS5 := Lib.hid (hS5.snoc (c := d') hR5)
        obtain ⟨a5, c5, rfl⟩ := owns_shape hown'
        have HO5 := Lib.hid hown'
        clear hgr' hgrow hown' hS5 hR5
        go_roundw
        case rel => exact ⟨k + 1, a5, c5, ([] : List (Value × Nat)) ++ [(.slice ua r.length uc, d')], ([] : BL) ++ [(r, d')], by rw [List.length_append]; rfl, by go_num, by omega, by rw [List.length_append]; exact Nat.succ_le_succ hyk, Lib.hid (by rw [eCells_snoc, List.length_append]; exact HO5.out), HS5, Lib.hid (by rw [HTK.out]; exact HGT.out.more hpr (.inl rfl)), HB5⟩
        case measure => simp [intOf]; omega
      · obtain ⟨ro, cx⟩ := z
        rw [List.concat_eq_append] at *
        rcases List.eq_nil_or_concat ys with rfl | ⟨ys0, y, rfl⟩
        · have h := HST.out.1
          simp at h
        · rw [List.concat_eq_append] at *
          obtain ⟨uo, cu⟩ := y
          obtain ⟨M, hM⟩ : ∃ M, ys0.length = M := ⟨_, rfl⟩
          have hpl : p.length = M := by have h := HST.out.1; simp at h; omega
          obtain ⟨hcu, hro⟩ := HST.out.2 M (uo, cu) (ro, cx) (by rw [← hM]; exact List.getElem?_concat_length) (by rw [← hpl]; exact List.getElem?_concat_length)
          simp only at hcu hro
          subst hcu
          have hyl : (ys0 ++ [(uo, cu)]).length = M + 1 := by rw [List.length_append, hM]; rfl
          obtain ⟨ec0, ec1⟩ := eCells_at (ys0 ++ [(uo, cu)]) M (uo, cu) (by rw [← hM]; exact List.getElem?_concat_length)
          have hot := HOT.out
          rw [hyl] at hot
          obtain ⟨go, rfl, hgo1, hgo2, hoc, hof⟩ := owns_cellAt hot (by omega)
          have o0 := (hoc (M * 2) (by omega)).trans ec0
          have o1 := (hoc (M * 2 + 1) (by omega)).trans ec1
          have of1 := hof (M * 2 + 1)
          obtain ⟨oa, oc, rfl⟩ := owns_shape hro
          have hgb := HGT.out.2.2.2.1 (ro, cu) (by simp)
          have hGro : Goods ro ∧ ro.length ≤ 1000000 := by
            obtain ⟨y, hy, e⟩ := hgb
            have hm := List.mem_of_mem_take hy
            exact ⟨by have := HGB.out y hm; rw [e] at this; exact this, by have := HSB.out y hm; rw [e] at this; exact this⟩
          have hcut : cu ≤ 1000000000 := by
            have h := total_mem _ _ (show (ro, cu) ∈ p ++ [(ro, cu)] by simp)
            rw [HGT.out.2.2.1] at h
            have := total_take l' k
            simp only at h
            omega
          have HC := Lib.hid (fun W (hb : Below wt.heap.size wt W) => rcompare_any (.slice oa ro.length oc) (.slice ua r.length uc) ro r (by have := hGro.2; omega) (by omega) W ((Row.of_owns hro).later hb) ((Row.of_owns HRT.out).later hb))
          have hbf := HLAST.out p ro cu rfl
          have HBF := Lib.hid hbf
          have HGO := Lib.hid hGro
          have HYL := Lib.hid hyl
          have HML := Lib.hid hM
          have HOM := Lib.hid hot
          clear HOT
          have HROT := Lib.hid hro
          have hm1 : (M : Int) ≤ 1000000 := by have h := hyk; rw [hyl] at h; omega
          have cu0 : (0 : Int) ≤ (cu : Int) := by omega
          have cu1 : (cu : Int) ≤ 1000000000 := by omega
          rw [hyl]
          clear hot hoc hof ec0 ec1 hro hgb hGro hbf hyl hpl hM
          obtain ⟨R, hR⟩ : ∃ R, cmpL ro r = R := ⟨_, rfl⟩
          rw [hR] at HC
          have hm0 : (0 : Int) ≤ (M : Int) := by omega
          have hotM := HOM.out
          have hwM : IntKind.i64.wrap (M : Int) = (M : Int) := by simp [IntKind.wrap, IntKind.bits, IntKind.signed]; omega
          have hltM : (M : Int) < (M : Int) + 1 := by omega
          by_cases h0 : R = 0
          · have HEQ := Lib.hid (cmp_eq HGO.out.1 HGR.out (hR.trans h0))
            have e0 : (R == 0) = true := by simp [h0]
            clear hR h0
            have mixed : Try.prog.follows .mixedOrders = true := by kernel_rfl
            have hcx : ∀ n os, Calls Try.prog 21 #[.slice oa ro.length oc, .slice ua r.length uc] (grow (wt.drewN n) os) fun e w' => e = .returned (.int .i64 R) ∧ ∃ q os', w' = grow ((grow (wt.drewN n) os).drewN q) os' := fun n os => (HC.out _ (below_growN wt n os)).mono (fun e w' h => ⟨h.1, h.2.form⟩)
            have x0 : ∀ n os, (grow (wt.drewN n) os).cell? ⟨go, M * 2, none⟩ = some (.slice oa ro.length oc) := fun n os => cell_grown (by exact hgo2) o0 n os
            have x1 : ∀ n os, (grow (wt.drewN n) os).cell? ⟨g5, 0, none⟩ = some (.slice ua r.length uc) := fun n os => cell_grown (by exact hl5) c0 n os
            have OO1 := Lib.hid o1
            have OF1 := Lib.hid of1
            clear o1 of1 c1
            go_upto_region 7 with fail
            go_quiet_grown (first | (go_at_call 21; refine Calls.grown_of (hcx _ _)))
            clear hcx x0 x1 HC mixed
            have hbg := below_growN wt nq osq
            have HOQ := Lib.hid (owns_below hotM hbg)
            have HSQ := Lib.hid (HST.out.later hbg)
            have HRQ := Lib.hid (owns_below HRT.out hbg)
            have HROQ := Lib.hid (owns_below HROT.out hbg)
            have HBQ := Lib.hid (HBT.out.trans (hbg.mono HBT.out.size))
            have HFQ := Lib.hid (HF5.out.later hbg)
            have o1 := cell_later hbg OO1.out
            have of1 := (hbg.frozen (p := ⟨go, M * 2 + 1, none⟩) hgo2).trans OF1.out
            have hgo2 : go < (grow (wt.drewN nq) osq).heap.size := Nat.lt_of_lt_of_le hgo2 hbg.size
            clear c0 o0 hl5 hbg hotM
            generalize grow (wt.drewN nq) osq = wq at *
            have c0 := HFQ.out.cell 0
            have c1 := HFQ.out.cell 1
            simp only [List.getElem?_cons_zero, List.getElem?_cons_succ] at c0 c1
            have hl5 : g5 < wq.heap.size := HFQ.out.lt
            clear HST HRT HBT HF5
            clear c0
            go_upto_region 8 with fail
            go_region
            have ei : ((cu + d' : Nat) : Int) = (cu : Int) + (d' : Int) := Int.natCast_add _ _
            have hst := (HOQ.out.stored (M * 2 + 1) (.int .i64 ((cu + d' : Nat) : Int))).1
            rw [eCells_last _ _ _ _ _ HML.out, ei] at hst
            have hne : (Value.slice oa ro.length oc).ownBlock ≠ some go := by
              rcases owns_ne_owns HROQ.out HOQ.out (by decide) with h | h
              · rw [h]; simp
              · exact h
            have hs2 := (HSQ.out.kept (grown_setCell wq ⟨go, M * 2 + 1, none⟩ (.int .i64 ((cu : Int) + (d' : Int)))) (HSQ.out.apart HOQ.out (by decide))).upd (d := cu + d') (owns_setCell HROQ.out ⟨go, M * 2 + 1, none⟩ (.int .i64 ((cu : Int) + (d' : Int))) hne)
            have HBE := Lib.hid ((HBQ.out.setCell (p := ⟨go, M * 2 + 1, none⟩) hgo1 (.int .i64 ((cu : Int) + (d' : Int)))).drew)
            have HSE := Lib.hid hs2.drew
            have HOE := Lib.hid hst.drew
            clear ei hst hne hs2
            go_wp2_with fail
            go_roundw
            case rel => exact ⟨k + 1, some ⟨go, 0, none⟩, co, ys0 ++ [(.slice oa ro.length oc, cu + d')], p ++ [(ro, cu + d')], by rw [List.length_append, HML.out]; rfl, by go_num, by omega, by rw [List.length_append, HML.out]; have h := hyk; rw [HYL.out] at h; simp; omega, Lib.hid (by rw [List.length_append, HML.out]; exact HOE.out), HSE, Lib.hid (by rw [HTK.out, ← HEQ.out]; exact HGT.out.same), HBE⟩
            case measure => simp [intOf]; omega
          · have HLT := Lib.hid (cmp_ne HGO.out.1 HGR.out HBF.out (by rw [hR]; exact h0))
            have e0 : (R == 0) = false := by simp [h0]
            clear hR h0
            have mixed : Try.prog.follows .mixedOrders = true := by kernel_rfl
            have hcx : ∀ n os, Calls Try.prog 21 #[.slice oa ro.length oc, .slice ua r.length uc] (grow (wt.drewN n) os) fun e w' => e = .returned (.int .i64 R) ∧ ∃ q os', w' = grow ((grow (wt.drewN n) os).drewN q) os' := fun n os => (HC.out _ (below_growN wt n os)).mono (fun e w' h => ⟨h.1, h.2.form⟩)
            have x0 : ∀ n os, (grow (wt.drewN n) os).cell? ⟨go, M * 2, none⟩ = some (.slice oa ro.length oc) := fun n os => cell_grown (by exact hgo2) o0 n os
            have x1 : ∀ n os, (grow (wt.drewN n) os).cell? ⟨g5, 0, none⟩ = some (.slice ua r.length uc) := fun n os => cell_grown (by exact hl5) c0 n os
            have OO1 := Lib.hid o1
            have OF1 := Lib.hid of1
            clear o1 of1 c1
            go_upto_region 7 with fail
            go_quiet_grown (first | (go_at_call 21; refine Calls.grown_of (hcx _ _)))
            clear hcx x0 x1 HC mixed
            have hbg := below_growN wt nq osq
            have HOQ := Lib.hid (owns_below hotM hbg)
            have HSQ := Lib.hid (HST.out.later hbg)
            have HRQ := Lib.hid (owns_below HRT.out hbg)
            have HROQ := Lib.hid (owns_below HROT.out hbg)
            have HBQ := Lib.hid (HBT.out.trans (hbg.mono HBT.out.size))
            have HFQ := Lib.hid (HF5.out.later hbg)
            have o1 := cell_later hbg OO1.out
            have of1 := (hbg.frozen (p := ⟨go, M * 2 + 1, none⟩) hgo2).trans OF1.out
            have hgo2 : go < (grow (wt.drewN nq) osq).heap.size := Nat.lt_of_lt_of_le hgo2 hbg.size
            clear c0 o0 hl5 hbg hotM
            generalize grow (wt.drewN nq) osq = wq at *
            have c0 := HFQ.out.cell 0
            have c1 := HFQ.out.cell 1
            simp only [List.getElem?_cons_zero, List.getElem?_cons_succ] at c0 c1
            have hl5 : g5 < wq.heap.size := HFQ.out.lt
            clear HST HRT HBT HF5
            go_wp2_with (at_builtin; refine wpList_append_own _ rfl _ _ 28 rfl w2.heap.size TS i0 (.agg #[.slice none 0 0, .int .i64 0]) 2 32 Try.underlying28 hi hz0 hz1 hz2 rfl (by decide) _ _ _ rfl (HOQ.out.alloc _) ⟨wq.heap.size, 0, none⟩ 1 1 [.slice ua r.length uc, .int .i64 (d' : Int)] rfl rfl (cells_new_add' wq [.slice ua r.length uc, .int .i64 (d' : Int)] TS) (two_cells _ _ _ _ _ rfl) (by unfold maxLen; omega) (by omega) (by have := HBQ.out.size; simp only [World.size_alloc]; omega) ?_; intro v' w5 hown' hgrow _)
            have hgr' : (wq.alloc (.cells #[.slice ua r.length uc, .int .i64 (d' : Int)] TS)).grownBy w5 (Value.slice (some ⟨go, 0, none⟩) (M + 1) co).ownBlock := hgrow
            have hS5 := (HSQ.out.later (below_alloc1 wq (.cells #[.slice ua r.length uc, .int .i64 (d' : Int)] TS))).kept hgr' ((HSQ.out.later (below_alloc1 wq (.cells #[.slice ua r.length uc, .int .i64 (d' : Int)] TS))).apart (HOQ.out.alloc (.cells #[.slice ua r.length uc, .int .i64 (d' : Int)] TS)) (by decide))
            have hR5 := (HRQ.out.alloc (.cells #[.slice ua r.length uc, .int .i64 (d' : Int)] TS)).kept hgr' (owns_ne_owns (HRQ.out.alloc (.cells #[.slice ua r.length uc, .int .i64 (d' : Int)] TS)) (HOQ.out.alloc (.cells #[.slice ua r.length uc, .int .i64 (d' : Int)] TS)) (by decide))
            have HB5 := Lib.hid ((HBQ.out.alloc HBQ.out.size (.cells #[.slice ua r.length uc, .int .i64 (d' : Int)] TS)).grown hgr' (by have := HBQ.out.size; simp only [World.size_alloc]; omega) (fun j hj => (HOQ.out.lt j hj).1))
            have HS5 := Lib.hid (hS5.snoc (c := d') hR5)
            obtain ⟨a5, c5, rfl⟩ := owns_shape hown'
            have HO5 := Lib.hid hown'
            clear hgr' hgrow hown' hS5 hR5
            go_roundw
            case rel => exact ⟨k + 1, a5, c5, (ys0 ++ [(.slice oa ro.length oc, cu)]) ++ [(.slice ua r.length uc, d')], (p ++ [(ro, cu)]) ++ [(r, d')], by rw [List.length_append, HYL.out]; rfl, by go_num, by omega, by rw [List.length_append]; exact Nat.succ_le_succ hyk, Lib.hid (by rw [eCells_snoc, List.length_append, HYL.out]; exact HO5.out), HS5, Lib.hid (by rw [HTK.out]; exact HGT.out.more hpr (.inr ⟨p, (ro, cu), rfl, HLT.out⟩)), HB5⟩
            case measure => simp [intOf]; omega
    · have dk : ¬ (k : Int) < (xs.length : Int) := by omega
      have hkk : l'.take k = l' := List.take_of_length_le (by rw [HLL.out]; omega)
      have hgt := HGT.out
      rw [hkk] at hgt
      obtain ⟨h1, h2, h3, h4, -⟩ := hgt
      have hfl := fl_keep' HFL2.out HB.out
      have c0 := hfl.cell 0
      have f0 := hfl.frozen 0
      simp only [List.getElem?_cons_zero] at c0
      have hgl := hfl.lt
      have hne : (Value.slice ao ys.length co).ownBlock ≠ some g0 := fun e => by have := (HO.out.lt _ e).1; omega
      have hyo := HS.out.1
      have HOE : Hid ((wr.setCell ⟨g0, 0, none⟩ (.slice ao ys.length co)).ownsRow 0 TS 2 (.slice ao ys.length co) ys.length (eCells ys)) := Lib.hid (owns_base (owns_setCell HO.out ⟨g0, 0, none⟩ (.slice ao ys.length co) hne) (fun g hg => Nat.zero_le _))
      have HSE : Hid (Smx (wr.setCell ⟨g0, 0, none⟩ (.slice ao ys.length co)) ys o) := Lib.hid (HS.out.kept (grown_setCell wr ⟨g0, 0, none⟩ (.slice ao ys.length co)) (fun x hx => by
        obtain ⟨j, hj, rfl⟩ := List.getElem_of_mem hx
        exact .inr (owns_ne_obj (HS.out.2 j _ _ (List.getElem?_eq_getElem hj) (List.getElem?_eq_getElem (by rw [← hyo]; exact hj))).2 hfl (by decide))))
      have HOO := Lib.hid (((HON2.out.trans (Only.of_below (own := fun k => (Value.slice a xs.length cap).ownBlock = some k) HB.out) (fun _ _ h => h)).setCell ⟨g0, 0, none⟩ (.slice ao ys.length co) (fun h => absurd h (by rw [hg0]; exact Nat.lt_irrefl _))))
      have HRES : Hid (IsBag (wr.setCell ⟨g0, 0, none⟩ (.slice ao ys.length co)) (.agg #[.slice ao ys.length co]) o ∧ (∀ r, cnt o r = cnt l r) ∧ total o = total l) := Lib.hid ⟨⟨ao, co, ys, by rw [← hyo], by have h := HOE.out; rw [← hyo]; exact h, HSE.out, h1, fun x hx => by
        obtain ⟨y, hy, e⟩ := h4 x hx
        rw [← e]; exact HGB.out y hy, fun x hx => by
        obtain ⟨y, hy, e⟩ := h4 x hx
        rw [← e]; exact HSB.out y hy⟩, fun r => (h2 r).trans (cnt_perm HPE.out r), h3.trans (total_perm HPE.out)⟩
      clear hkk h1 h2 h3 h4 hne hyo hfl
      go_wp2_with fail
      refine bodyPost_ret (v := .agg #[.slice ao ys.length co]) ?_ (by rfl) ?_
      · simp only [results, Try.results26]; go_simp
      · exact ⟨_, rfl, o, HRES.out.1, HRES.out.2.1, HRES.out.2.2, HOO.out⟩
end Go.Proofs.Ytpkkhbmlclicfaa.val
