/- How many rows a bag has; the bag of rows; walked. -/
import Derived.Test.YtpkkhbmlclicfaaBagG
import Derived.Test.YtpkkhbmlclicfaaRowYS
namespace Go.Proofs.Ytpkkhbmlclicfaa.val
set_option linter.unusedVariables false
open Go.RowKit Go.Sort
/-- an element of a bag in memory -/
theorem bag_at {w : World} {a : Option Addr} {c : Nat} {xs : List (Value × Nat)} {o : BL} (ho : w.ownsRow 0 TS 2 (.slice a o.length c) o.length (eCells xs)) (hs : Smx w xs o) (k : Nat) (hk : k < o.length) :
    ∃ g ua uc, a = some ⟨g, 0, none⟩ ∧ g < w.heap.size ∧ w.ownsRow 0 TV 3 (.slice ua (o[k]).1.length uc) (o[k]).1.length (vCells (o[k]).1) ∧ ∀ W1, Below w.heap.size w W1 → W1.cell? ⟨g, k * 2, none⟩ = some (.slice ua (o[k]).1.length uc) ∧ W1.cell? ⟨g, k * 2 + 1, none⟩ = some (.int .i64 ((o[k]).2 : Int)) := by
  obtain ⟨g, rfl, -, hl, hc, -⟩ := owns_cellAt ho (by omega)
  have hkx : k < xs.length := by rw [hs.1]; exact hk
  obtain ⟨e0, e1⟩ := eCells_at xs k _ (List.getElem?_eq_getElem hkx)
  obtain ⟨h1, h2⟩ := hs.2 k _ _ (List.getElem?_eq_getElem hkx) (List.getElem?_eq_getElem hk)
  obtain ⟨ua, uc, hu⟩ := owns_shape h2
  rw [hu] at e0 h2
  rw [h1] at e1
  exact ⟨g, ua, uc, rfl, hl, h2, fun W1 hb => ⟨cell_later hb ((hc _ (by omega)).trans e0), cell_later hb ((hc _ (by omega)).trans e1)⟩⟩
set_option maxRecDepth 100000 in
set_option maxHeartbeats 2000000 in
theorem len_any (bv : Value) (o : BL) (w : World) (h : IsBag w bv o) (ht : total o ≤ 1000000000) (hn : o.length ≤ 1000000) : Calls Try.prog 20 #[bv] w fun e w' => e = .returned (.int .i64 (total o : Int)) ∧ Below w.heap.size w w' := by
  obtain ⟨a, c, xs, rfl, ho, hs, -⟩ := h
  have HO := Lib.hid ho
  have HS := Lib.hid hs
  have HT := Lib.hid ht
  have hn0 : (0 : Int) ≤ (o.length : Int) := by omega
  have hn1 : (o.length : Int) ≤ 1000000 := by omega
  clear ho hs ht
  go_enter Try.func20, Try.ntmps20
  go_wp2_with fail
  go_loopw [3, 9] (fun nv iv wr => ∃ k : Nat, nv = .int .i64 (total (o.take k) : Int) ∧ iv = .int .i64 (k : Int) ∧ k ≤ o.length ∧ Hid (Below w.heap.size w wr)) (fun _ iv _ => o.length - (intOf iv).toNat)
  case atStart => exact ⟨0, rfl, rfl, Nat.zero_le _, Lib.hid (below_alloc1 _ _)⟩
  case round =>
    obtain ⟨k, rfl, rfl, hk, HB⟩ := hrel
    have hd0 : (0 : Int) ≤ (k : Int) := by omega
    by_cases hkn : k < o.length
    · have dk : (k : Int) < (o.length : Int) := by omega
      obtain ⟨g, ua, uc, rfl, hgl, -, hc⟩ := bag_at HO.out HS.out k hkn
      obtain ⟨c0, c1⟩ := hc _ HB.out
      have e1 : o.take (k + 1) = o.take k ++ [o[k]] := List.take_succ_eq_append_getElem hkn
      have e2 : total (o.take (k + 1)) = total (o.take k) + (o[k]).2 := by rw [e1, total_snoc]
      have e3 := total_take o (k + 1)
      have hT := HT.out
      generalize o[k] = x at *
      obtain ⟨r, d⟩ := x
      simp only at c0 c1 e2
      generalize total (o.take k) = T at *
      have E2 := Lib.hid e2
      have t0 : (0 : Int) ≤ (T : Int) := by omega
      have t1 : (T : Int) + (d : Int) ≤ 1000000000 := by omega
      have t2 : (0 : Int) ≤ (d : Int) := by omega
      have hglt : g < wr.heap.size := Nat.lt_of_lt_of_le hgl HB.out.size
      have HBE := Lib.hid (HB.out.alloc HB.out.size (.cells #[.slice ua r.length uc, .int .i64 (d : Int)] TS))
      clear hc e1 e2 e3
      go_wp2_with fail
      go_roundw
      case rel => exact ⟨k + 1, by rw [E2.out]; go_num, by go_num, by omega, HBE⟩
      case measure => simp [intOf]; omega
    · have dk : ¬ (k : Int) < (o.length : Int) := by omega
      have e : o.take k = o := List.take_of_length_le (by omega)
      rw [e]
      go_wp2_with fail
      go_ret
      exact ⟨rfl, HB.out⟩
/-- rows, each once -/
def once (ls : List (List V)) : BL := ls.map fun r => (r, 1)
theorem once_snoc (ls : List (List V)) (r : List V) : once (ls ++ [r]) = once ls ++ [(r, 1)] := by unfold once; rw [List.map_append]; rfl
theorem once_total (ls : List (List V)) : total (once ls) = ls.length := by
  induction ls with
  | nil => rfl
  | cons a l ih =>
    unfold once total at ih ⊢
    simp only [List.map_cons, List.sum_cons, List.length_cons] at ih ⊢
    omega
theorem IsBag.setObj {w : World} {v : Value} {o : BL} {g : Nat} {fs : List Value} (h : IsBag w v o) (hf : Flds w g TB fs) (i : Nat) (u : Value) : IsBag (w.setCell ⟨g, i, none⟩ u) v o := by
  obtain ⟨a, c, xs, h1, h2, h3, h4⟩ := h
  refine ⟨a, c, xs, h1, owns_setCell h2 ⟨g, i, none⟩ u (owns_ne_obj h2 hf (by decide)), h3.kept (grown_setCell w ⟨g, i, none⟩ u) (fun x hx => ?_), h4⟩
  obtain ⟨j, hj, rfl⟩ := List.getElem_of_mem hx
  exact .inr (owns_ne_obj (h3.2 j _ _ (List.getElem?_eq_getElem hj) (List.getElem?_eq_getElem (by rw [← h3.1]; exact hj))).2 hf (by decide))
set_option maxRecDepth 100000 in
set_option maxHeartbeats 4000000 in
theorem of_any (v : Value) (us : List Value) (ls : List (List V)) (hn : us.length ≤ 1000000) (hg : ∀ l ∈ ls, Goods l) (hl : ∀ l ∈ ls, l.length ≤ 1000000) (w : World) (hv : Row w v 1 us.length us) (hr : Rws w us ls) (hnil : ∀ u ∈ us, ∀ n c, u = .slice none n c → c = 0) :
    Calls Try.prog 8 #[v] w fun e w' => ∃ bv, e = .returned bv ∧ ∃ o, IsBag w' bv o ∧ (∀ r, cnt o r = cnt (once ls) r) ∧ total o = ls.length ∧ Below w.heap.size w w' := by
  obtain ⟨i0, hi, hz0, hz1, hz2⟩ := info_parts infoTs
  obtain ⟨W1, hW1⟩ : ∃ W1, w.alloc (.cells #[.slice none 0 0] TB) = W1 := ⟨_, rfl⟩
  have hb1 : Below w.heap.size w W1 := by rw [← hW1]; exact (Below.refl _ _).alloc (Nat.le_refl _) _
  have hfl : Flds W1 w.heap.size TB [.slice none 0 0] := by rw [← hW1]; exact Flds.new w TB [.slice none 0 0]
  have hs1 : w.heap.size < W1.heap.size := hfl.lt
  have HB1 := Lib.hid hb1
  have HFL := Lib.hid hfl
  have HV := Lib.hid (hv.later hb1)
  have HR := Lib.hid (hr.later hb1)
  have HG := Lib.hid hg
  have HL := Lib.hid hl
  have HN := Lib.hid hnil
  have HLL : Hid (ls.length = us.length) := Lib.hid hr.1.symm
  have hn0 : (0 : Int) ≤ (us.length : Int) := by omega
  have hn1 : (us.length : Int) ≤ 1000000 := by omega
  obtain ⟨a, cap, rfl, -⟩ := hv
  clear hb1 hfl hr hg hl hnil
  go_enter Try.func8, Try.ntmps8
  go_upto_region 1 with fail
  clear hW1
  obtain ⟨g0, hg0⟩ : ∃ g0, w.heap.size = g0 := ⟨_, rfl⟩
  rw [hg0] at HFL
  go_wp2_with (at_make; refine wpList_make_own _ rfl _ _ 28 rfl W1.heap.size TS i0 (.agg #[.slice none 0 0, .int .i64 0]) 2 Try.underlying28 hi hz0 hz1 .i64 .i64 _ us.length rfl rfl rfl (by rw [hz2]; omega) (by unfold maxLen; omega) (Nat.le_refl _) ?_; intro w0 hown0 hgrow0)
  have hB0 := below_grown hgrow0
  go_loopw [3, 11] (fun sv iv wr => ∃ (k : Nat) (aa : Option Addr) (cc : Nat) (xs : List (Value × Nat)), sv = .slice aa k cc ∧ iv = .int .i64 (k : Int) ∧ k ≤ us.length ∧ Hid (xs.length = k) ∧ Hid (wr.ownsRow W1.heap.size TS 2 sv k (eCells xs)) ∧ Hid (Smx wr xs (once (ls.take k))) ∧ Hid (Below W1.heap.size W1 wr)) (fun _ iv _ => us.length - (intOf iv).toNat)
  case atStart => exact ⟨0, _, _, [], rfl, rfl, Nat.zero_le _, Lib.hid rfl, Lib.hid hown0, Lib.hid (Smx.nil _), Lib.hid hB0⟩
  case round =>
    obtain ⟨k, aa, cc, xs, rfl, rfl, hk, HXL, HO, HS, HB⟩ := hrel
    clear hown0 hgrow0 hB0
    have hd0 : (0 : Int) ≤ (k : Int) := by omega
    by_cases hkn : k < us.length
    · have dk : (k : Int) < (us.length : Int) := by omega
      have hkl : k < ls.length := by rw [HLL.out]; exact hkn
      obtain ⟨b, off, cap', ea, g0c⟩ := row_at (HV.out.later HB.out) k hkn
      simp only [Value.slice.injEq] at ea
      obtain ⟨rfl, -, rfl⟩ := ea
      have hru := (HR.out.later HB.out).2 k _ _ (List.getElem?_eq_getElem hkn) (List.getElem?_eq_getElem hkl)
      have hnu := HN.out _ (List.getElem_mem hkn)
      have hlr := HL.out _ (List.getElem_mem hkl)
      have htk : ls.take (k + 1) = ls.take k ++ [ls[k]] := List.take_succ_eq_append_getElem hkl
      generalize us[k] = u at *
      generalize ls[k] = r at *
      have HCL := Lib.hid (clone_any u r hlr wr hru hnu)
      have HTK := Lib.hid htk
      clear hru hnu htk hkl
      go_wp2_with (first | (go_at_call 25; (with_reducible refine (HCL.out).mono ?_); rintro e w3 ⟨v3, rfl, ho3, hb3⟩; obtain ⟨a3, c3, rfl⟩ := owns_shape ho3; have hown3 := owns_below HO.out hb3; have HS3 := Lib.hid (HS.out.later hb3); have HR3 := Lib.hid (owns_base ho3 (fun g hg => Nat.zero_le _)); have HB3 := Lib.hid (HB.out.trans (hb3.mono HB.out.size)); clear hb3 ho3) | (at_builtin; refine wpList_append_own _ rfl _ _ 28 rfl W1.heap.size TS i0 (.agg #[.slice none 0 0, .int .i64 0]) 2 32 Try.underlying28 hi hz0 hz1 hz2 rfl (by decide) _ _ _ rfl (hown3.alloc _) ⟨w3.heap.size, 0, none⟩ 1 1 [.slice a3 r.length c3, .int .i64 1] rfl rfl (cells_new_add' w3 [.slice a3 r.length c3, .int .i64 1] TS) (two_cells _ _ _ _ _ rfl) (by unfold maxLen; omega) (by omega) (by have := HB3.out.size; simp only [World.size_alloc]; omega) ?_; intro v' w5 hown' hgrow _))
      have hgr' : (w3.alloc (.cells #[.slice a3 r.length c3, .int .i64 1] TS)).grownBy w5 (Value.slice aa k cc).ownBlock := hgrow
      have hal := below_alloc1 w3 (.cells #[.slice a3 r.length c3, .int .i64 1] TS)
      have hS5 := (HS3.out.later hal).kept hgr' ((HS3.out.later hal).apart (hown3.alloc (.cells #[.slice a3 r.length c3, .int .i64 1] TS)) (by decide))
      have hR5 := (HR3.out.alloc (.cells #[.slice a3 r.length c3, .int .i64 1] TS)).kept hgr' (owns_ne_owns (HR3.out.alloc (.cells #[.slice a3 r.length c3, .int .i64 1] TS)) (hown3.alloc (.cells #[.slice a3 r.length c3, .int .i64 1] TS)) (by decide))
      have HB5 := Lib.hid ((HB3.out.alloc HB3.out.size (.cells #[.slice a3 r.length c3, .int .i64 1] TS)).grown hgr' (by have := HB3.out.size; simp only [World.size_alloc]; omega) (fun j hj => (hown3.lt j hj).1))
      have HS5 := Lib.hid (hS5.snoc (c := 1) hR5)
      obtain ⟨a5, c5, rfl⟩ := owns_shape hown'
      have HO5 := Lib.hid hown'
      clear hgr' hgrow hown' hS5 hR5 hal hown3
      go_wp2_with fail
      go_roundw
      case rel => exact ⟨k + 1, a5, c5, xs ++ [(.slice a3 r.length c3, 1)], rfl, by go_num, by omega, Lib.hid (by rw [List.length_append, HXL.out]; rfl), Lib.hid (by rw [eCells_snoc]; exact HO5.out), Lib.hid (by rw [HTK.out, once_snoc]; exact HS5.out), HB5⟩
      case measure => simp [intOf]; omega
    · have dk : ¬ (k : Int) < (us.length : Int) := by omega
      have htk : ls.take k = ls := List.take_of_length_le (by rw [HLL.out]; omega)
      have hsx := HS.out
      rw [htk] at hsx
      have hxk := HXL.out
      have hon : wr.ownsRow 0 TS 2 (.slice aa k cc) xs.length (eCells xs) := by rw [hxk]; exact owns_base HO.out (fun g hg => Nat.zero_le _)
      have HGA := Lib.hid (gather_any (.slice aa k cc) xs (once ls) (by omega) (fun x hx => by
        obtain ⟨r, hr, rfl⟩ := List.mem_map.1 hx
        exact HG.out r hr) (fun x hx => by
        obtain ⟨r, hr, rfl⟩ := List.mem_map.1 hx
        exact HL.out r hr) (fun x hx => by
        obtain ⟨r, hr, rfl⟩ := List.mem_map.1 hx
        exact Nat.one_pos) (by rw [once_total, HLL.out]; omega) wr hon hsx)
      have HFR := Lib.hid (HFL.out.later HB.out)
      have HNG : Hid ((Value.slice aa k cc).ownBlock ≠ some g0) := Lib.hid (fun e => by have := (HO.out.lt _ e).1; have := HFL.out.lt; omega)
      have HBG : Hid (∀ j, (Value.slice aa k cc).ownBlock = some j → W1.heap.size ≤ j) := Lib.hid (fun j e => (HO.out.lt _ e).1)
      clear htk hsx hon
      go_upto_region 8 with (go_at_call 26; (with_reducible refine (HGA.out).mono ?_); rintro e w6 ⟨bv, o, rfl, hbag, hcnt, htot, honly⟩; have HBAG := Lib.hid hbag; have HCNT := Lib.hid hcnt; have HTOT := Lib.hid htot; have HONL := Lib.hid honly; obtain ⟨ab, cb, xb, rfl, -⟩ := hbag; have hf6 : Flds w6 g0 TB [.slice none 0 0] := (HONL.out.block g0 HFR.out.lt (fun e => HNG.out e)).trans HFR.out; have q0 := hf6.cell 0; have qf := hf6.frozen 0; simp only [List.getElem?_cons_zero] at q0; have ql := hf6.lt; have HF6 := Lib.hid hf6; clear hf6 hcnt htot honly)
      have HBE := Lib.hid ((HB1.out.trans ((HB.out.trans (HONL.out.below HB.out.size HBG.out)).mono HB1.out.size)).setCell (p := ⟨g0, 0, none⟩) (by rw [hg0]; exact Nat.le_refl _) (.slice ab o.length cb))
      refine bodyPost_ret (v := .agg #[.slice ab o.length cb]) ?_ (by rfl) ⟨_, rfl, o, HBAG.out.setObj HF6.out 0 _, HCNT.out, HTOT.out.trans (once_total ls), HBE.out⟩
      simp only [results, Try.results8]; go_simp
end Go.Proofs.Ytpkkhbmlclicfaa.val
