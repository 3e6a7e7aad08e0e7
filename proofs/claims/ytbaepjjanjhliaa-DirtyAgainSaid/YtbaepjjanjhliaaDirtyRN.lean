/- The queue: a number moved up, walked, for any order. -/
import Derived.Test.YtbaepjjanjhliaaDirtyP
import Derived.BigQuiet
namespace Go.Proofs.Ytbaepjjanjhliaa.drt.N
set_option linter.unusedVariables false
open Go.RowKit Go.Maps
variable {own : Nat → Prop} {bq bm : Nat} {a : List Int} {D : Dm} {n : Nat} {w w' : World} {bt : Nat} {ky : Int → Int}

/-- the queue's function asks by the key ky, and leaves all as it is -/
def Less (own : Nat → Prop) (ky : Int → Int) (w : World) : Prop :=
  ∀ w', Only own w w' → ∀ x y : Int, Calls Try.prog 59 #[.int .i64 x, .int .i64 y] w' fun e w'' => e = .returned (.bool (decide (ky x < ky y))) ∧ ∃ m, w'' = w'.drewN m
theorem Less.only (h : Less own ky w) (ho : Only own w w') : Less own ky w' := fun w2 h2 => h w2 (ho.trans h2 (fun _ _ q => q))
theorem set_at {b : List Int} {k : Nat} {x : Int} (h : b[k]? = some x) : b.set k x = b := by
  obtain ⟨hl, e⟩ := List.getElem?_eq_some_iff.1 h
  rw [← e]; exact List.set_getElem_self hl
theorem mv_set {b : List Int} {k p : Nat} {nn v : Int} (hp : b[p]? = some v) (hne : k ≠ p) : (mv b k p nn).set p v = b.set k v := by
  unfold mv
  rw [List.set_set, List.getD_eq_getElem?_getD, hp]
  exact set_at (by rw [List.getElem?_set_ne hne]; exact hp)
/-- what 'rise' leaves -/
def RisePost (own : Nat → Prop) (bq bm : Nat) (fv : Value) (ky : Int → Int) (a : List Int) (n i : Nat) (w : World) (e : Ending) (w' : World) : Prop :=
  ∃ (i' : Nat) (a' : List Int) (D' : Dm) (n' : Nat), e = .returned (.int .i64 (i' : Int)) ∧ DQ own bq bm fv a' D' n' w' ∧ Only own w w' ∧ a'.Perm a ∧ Pos D' a' (fun _ => False) ∧ n' ≤ n + a.length + 1 ∧ ((i' = i ∧ a' = a ∧ Dn ky a i) ∨ (i' ≠ i ∧ Heap ky a'))
theorem RisePost.mk {fv : Value} {i k : Nat} {b : List Int} {nn : Int} {D' : Dm} {n' m : Nat} {wr w5 : World} (hi : i < a.length) (hki : k ≤ i) (hnk : n' + k ≤ n + i) (hbk : b[k]? = some nn) (ho : Only own w wr) (hpm : b.Perm a) (hd : a.Nodup) (hpo : Pos D' b (· = nn)) (hga : Gap ky b k) (hw : (k = i ∧ b = a) ∨ (k ≠ i ∧ Up ky b k)) (hM : IsMap D')
    (hge : 0 < k → g ky b ((k - 1) / 2) ≤ g ky b k) (h5 : DQ own bq bm fv b (D'.put (kl nn) (dl k)) (n' + 1) w5) (ho5 : Only own (wr.drewN m) w5) : RisePost own bq bm fv ky a n i w (.returned (.int .i64 (k : Int))) w5 := by
  refine ⟨k, b, _, _, rfl, h5, (ho.drewN m).trans ho5 (fun _ _ q => q), hpm, hpo.put hM (hpm.nodup_iff.2 hd) hbk, by omega, ?_⟩
  rcases hw with ⟨rfl, rfl⟩ | ⟨h1, h2⟩
  · exact .inl ⟨rfl, rfl, gap_dn hga hge⟩
  · exact .inr ⟨h1, up_end h2 hge⟩
set_option maxRecDepth 100000 in
set_option maxHeartbeats 2000000 in
theorem rise_l (h : DQ own bq bm (.func (.func 59) #[] #[]) a D n w) (hL : Less own ky w) {i : Nat} {nn : Int} (hi : a[i]? = some nn) (hla : a.length ≤ 1000000) (hd : a.Nodup) (hn : n + a.length + 1 < maxLen) (hpos : Pos D a (· = nn)) (hgap : Gap ky a i) :
    Calls Try.prog 61 #[.pointer (some ⟨bq, 0, none⟩), .int .i64 (i : Int)] w (RisePost own bq bm (.func (.func 59) #[] #[]) ky a n i w) := by
  have hil := (List.getElem?_eq_some_iff.1 hi).1
  obtain ⟨q, cr, hf, hrow, -, -, -, hql, hcell, hfz⟩ := h.blk (by omega)
  have gi := hcell i hil
  rw [List.getElem?_map, hi] at gi
  have gi : w.cell? ⟨q, i, none⟩ = some (.int .i64 nn) := gi
  have c1 := hf.cell 1
  simp only [List.getElem?_cons_zero, List.getElem?_cons_succ] at c1
  have d0 : (0 : Int) ≤ (i : Int) := by omega
  have d1 : (i : Int) < (a.length : Int) := by omega
  have hnn : In64 nn := h.rg nn (List.mem_of_getElem? hi)
  have H0 := Lib.hid h; have HL := Lib.hid hL; have HP := Lib.hid hpos; have HG := Lib.hid hgap; have HD := Lib.hid hd; have HI := Lib.hid hi
  clear h hL hpos hgap hf hrow hcell hfz hd hi
  go_enter Try.func61, Try.ntmps61
  go_wp2
  go_loopw [1] (fun s1 wr => ∃ (k : Nat) (b : List Int) (x : Int) (D' : Dm) (n' : Nat), s1 = .int .i64 (k : Int) ∧ k ≤ i ∧ n' + k ≤ n + i ∧ Hid (b[k]? = some nn) ∧ Hid (DQ own bq bm (.func (.func 59) #[] #[]) (b.set k x) D' n' wr) ∧ Hid (Only own w wr) ∧ Hid (b.Perm a) ∧ Hid (Pos D' b (· = nn)) ∧ Hid (Gap ky b k) ∧ Hid ((k = i ∧ b = a) ∨ (k ≠ i ∧ Up ky b k))) (fun s1 _ => (intOf s1).toNat)
  case atStart => exact ⟨i, a, nn, D, n, rfl, Nat.le_refl _, Nat.le_refl _, HI, Lib.hid (by rw [set_at HI.out]; exact H0.out), Lib.hid (Only.refl _ _), Lib.hid (List.Perm.refl _), HP, HG, Lib.hid (.inl ⟨rfl, rfl⟩)⟩
  case round =>
    obtain ⟨k, b, x, D', n', rfl, hki, hnk, HBK, HQ, HO, HPM, HPO, HGA, HW⟩ := hrel
    have hlen : b.length = a.length := HPM.out.length_eq
    have hkl := (List.getElem?_eq_some_iff.1 HBK.out).1
    have hdb : b.Nodup := HPM.out.nodup_iff.2 HD.out
    -- what the round's end does, if it ends
    have hend : b.set k nn = b := set_at HBK.out
    have hMM := HQ.out.isMap
    have HMM := Lib.hid hMM
    have hput : ∀ m, Calls Try.prog 68 #[.pointer (some ⟨bq, 0, none⟩), .int .i64 (k : Int), .int .i64 nn] (wr.drewN m) fun e w' => (∃ r, e = .returned r) ∧ DQ own bq bm (.func (.func 59) #[] #[]) b (D'.put (kl nn) (dl k)) (n' + 1) w' ∧ Only own (wr.drewN m) w' := fun m => by
      have h := put_l (HQ.out.later (below_drewN (Below.refl _ wr) m)) (i := k) (by rw [List.length_set]; exact hkl) (by rw [List.length_set]; omega) (by omega) hnn
      rw [List.set_set, hend] at h
      exact h
    have HEND : Hid (∀ (m : Nat) w5, (0 < k → g ky b ((k - 1) / 2) ≤ g ky b k) → DQ own bq bm (.func (.func 59) #[] #[]) b (D'.put (kl nn) (dl k)) (n' + 1) w5 → Only own (wr.drewN m) w5 → RisePost own bq bm (.func (.func 59) #[] #[]) ky a n i w (.returned (.int .i64 (k : Int))) w5) := Lib.hid (fun m w5 hge h5 ho5 => RisePost.mk hil hki hnk HBK.out HO.out HPM.out HD.out HPO.out HGA.out HW.out HMM.out hge h5 ho5)
    have HPUT := Lib.hid hput
    clear hput hMM hend
    by_cases h0 : k = 0
    · subst h0
      have hz : decide ((0 : Int) < ((0 : Nat) : Int)) = false := rfl
      have hz2 : decide (((0 : Nat) : Int) > 0) = false := hz
      clear HL HW HGA HPO HPM HD HI HG HP H0 HO HBK HQ
      go_upto_region 2 with fail
      go_quiet (fail)
      all_goals go_wp2_with fail
      all_goals (refine (HPUT.out _).mono ?_; rintro e w5 ⟨⟨r5, rfl⟩, h5, ho5⟩)
      all_goals go_wp2_with fail
      all_goals go_ret
      all_goals exact HEND.out _ w5 (fun q => absurd q (by omega)) h5 ho5
    · obtain ⟨p, hp⟩ : ∃ p : Nat, (k - 1) / 2 = p := ⟨_, rfl⟩
      have hpk : p < k := by omega
      have hpl : p < b.length := by omega
      obtain ⟨bp, hbp⟩ : ∃ bp, b[p]? = some bp := ⟨_, List.getElem?_eq_getElem hpl⟩
      obtain ⟨q', cr', hf', -, -, -, -, -, hcell', -⟩ := HQ.out.blk (by rw [List.length_set]; omega)
      rw [List.length_set] at hf' hcell'
      have gp := hcell' p hpl
      rw [List.getElem?_map, List.getElem?_set_ne (by omega), hbp] at gp
      have gp : wr.cell? ⟨q', p, none⟩ = some (.int .i64 bp) := gp
      have c0 := hf'.cell 0; have c1' := hf'.cell 1
      simp only [List.getElem?_cons_zero, List.getElem?_cons_succ] at c0 c1'
      have HLS := Lib.hid (HL.out.only HO.out)
      have e0 : decide ((0 : Int) < (k : Int)) = true := by simp; omega
      have e1 : (0 : Int) < (k : Int) := by omega
      have e00 : decide (0 < k) = true := by simp; omega
      have e01 : 0 < k := by omega
      have e2 : IntKind.i64.wrap ((k : Int) - 1) = (k : Int) - 1 := IntWalk.i64_in _ (by omega)
      have e3 : ((k : Int) - 1).tdiv 2 = (p : Int) := by rw [Int.tdiv_eq_ediv_of_nonneg (by omega)]; omega
      have e4 : IntKind.i64.wrap (p : Int) = (p : Int) := IntWalk.i64_in _ (by omega)
      have e5 : (0 : Int) ≤ (p : Int) := by omega
      have e6 : (p : Int) < (b.length : Int) := by omega
      have e7 : (p : Int) < (a.length : Int) := by omega
      have e8 : p < a.length := by omega
      have hbp64 : In64 bp := HQ.out.rg bp (List.mem_of_getElem? (i := p) (by rw [List.getElem?_set_ne (by omega)]; exact hbp))
      have hg1 : g ky b p = ky bp := g_at hbp
      have hg2 : g ky b k = ky nn := g_at HBK.out
      have HBP := Lib.hid hbp
      clear hf' hcell' hbp
      by_cases hlt : ky nn < ky bp
      · have HL2 : Hid (∀ w', Only own wr w' → Calls Try.prog 59 #[.int .i64 nn, .int .i64 bp] w' fun e w'' => e = .returned (.bool true) ∧ ∃ m, w'' = w'.drewN m) := Lib.hid (fun w' ho => by have := HLS.out w' ho nn bp; rwa [decide_eq_true hlt] at this)
        have HPT := Lib.hid (fun m => put_l (HQ.out.later (below_drewN (Below.refl _ wr) m)) (i := k) (by rw [List.length_set]; exact hkl) (by rw [List.length_set]; omega) (by omega) hbp64)
        have HMV := Lib.hid (up_step HGA.out HBK.out (by omega) (by rw [hp, hg1]; exact hlt))
        rw [hp] at HMV
        clear HLS HEND HPUT HL
        go_upto_region 2 with fail
        go_quiet ((go_at_call 59; refine Calls.quiet_of (HL2.out _ ((Only.refl own wr).drewN _))))
        clear HL2
        go_wp2_with fail
        refine (HPT.out _).mono ?_
        rintro e w5 ⟨⟨r5, rfl⟩, h5, ho5⟩
        rw [List.set_set] at h5
        have H5 := Lib.hid h5; have HO5 := Lib.hid ho5
        clear h5 ho5 HPT
        go_wp2_with fail
        go_roundw
        case rel =>
          refine ⟨p, mv b k p nn, bp, _, n' + 1, rfl, by omega, by omega, Lib.hid ?_, Lib.hid ?_, Lib.hid ((HO.out.drewN _).trans HO5.out (fun _ _ h => h)), Lib.hid ((mv_perm HBK.out hpl).trans HPM.out), Lib.hid (HPO.out.move HMM.out hdb HBK.out HBP.out (by omega)), Lib.hid HMV.out.toGap, Lib.hid (.inr ⟨by omega, HMV.out⟩)⟩
          · rw [mv_get nn hkl hpl (by omega), if_pos rfl]
          · rw [mv_set HBP.out (by omega)]; exact H5.out
        case measure => simp [intOf]; omega
      · have HL2 : Hid (∀ w', Only own wr w' → Calls Try.prog 59 #[.int .i64 nn, .int .i64 bp] w' fun e w'' => e = .returned (.bool false) ∧ ∃ m, w'' = w'.drewN m) := Lib.hid (fun w' ho => by have := HLS.out w' ho nn bp; rwa [decide_eq_false hlt] at this)
        have HGE : Hid (0 < k → g ky b ((k - 1) / 2) ≤ g ky b k) := Lib.hid (fun _ => by rw [hp, hg1, hg2]; omega)
        clear HLS HL HW HGA HPO HPM HD HI HG HP H0 HO HBK HQ
        go_upto_region 2 with fail
        go_quiet ((go_at_call 59; refine Calls.quiet_of (HL2.out _ ((Only.refl own wr).drewN _))))
        clear HL2
        go_wp2_with fail
        refine (HPUT.out _).mono ?_
        rintro e w5 ⟨⟨r5, rfl⟩, h5, ho5⟩
        go_wp2_with fail
        go_ret
        exact HEND.out _ w5 HGE.out h5 ho5
end Go.Proofs.Ytbaepjjanjhliaa.drt.N
