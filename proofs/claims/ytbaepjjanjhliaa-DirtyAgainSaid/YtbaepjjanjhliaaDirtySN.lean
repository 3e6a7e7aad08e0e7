/- The queue: a number moved down, walked. -/
import Derived.Test.YtbaepjjanjhliaaDirtyRN
namespace Go.Proofs.Ytbaepjjanjhliaa.drt.N
set_option linter.unusedVariables false
open Go.RowKit Go.Maps
variable {own : Nat → Prop} {bq bm : Nat} {a : List Int} {D : Dm} {n : Nat} {w w' : World} {bt : Nat} {ky : Int → Int}
/-- what 'sink' leaves -/
def SinkPost (own : Nat → Prop) (bq bm : Nat) (fv : Value) (ky : Int → Int) (a : List Int) (n : Nat) (w : World) (e : Ending) (w' : World) : Prop :=
  ∃ (a' : List Int) (D' : Dm) (n' : Nat), (∃ r, e = .returned r) ∧ DQ own bq bm fv a' D' n' w' ∧ Only own w w' ∧ a'.Perm a ∧ Pos D' a' (fun _ => False) ∧ n' ≤ n + a.length + 1 ∧ Heap ky a'
/-- which of two children is the lesser one -/
def Pick (ky : Int → Int) (b : List Int) (c : Nat) (two : Bool) : Prop := (two = true → c + 1 < b.length ∧ g ky b (c + 1) ≤ g ky b c) ∧ (two = false → c + 1 < b.length → g ky b c ≤ g ky b (c + 1))
theorem Pick.t {b : List Int} {c : Nat} (h : Pick ky b c true) : c + 1 < b.length ∧ g ky b (c + 1) ≤ g ky b c := h.1 rfl
theorem Pick.f {b : List Int} {c : Nat} (h : Pick ky b c false) : c + 1 < b.length → g ky b c ≤ g ky b (c + 1) := h.2 rfl
theorem SinkPost.mk {fv : Value} {k : Nat} {b : List Int} {nn : Int} {D' : Dm} {n' : Nat} {wr w5 : World} {r : Value} (hk : k < b.length) (hnk : n' ≤ n + k) (hbk : b[k]? = some nn) (ho : Only own w wr) (hpm : b.Perm a) (hd : a.Nodup) (hpo : Pos D' b (· = nn)) (hdn : Dn ky b k) (hM : IsMap D')
    (hge : ∀ j, 0 < j → j < b.length → (j - 1) / 2 = k → g ky b k ≤ g ky b j) (h5 : DQ own bq bm fv b (D'.put (kl nn) (dl k)) (n' + 1) w5) (ho5 : Only own wr w5) : SinkPost own bq bm fv ky a n w (.returned r) w5 :=
  ⟨b, _, _, ⟨_, rfl⟩, h5, ho.trans ho5 (fun _ _ q => q), hpm, hpo.put hM (hpm.nodup_iff.2 hd) hbk, by have := hpm.length_eq; omega, dn_end hdn hge⟩
set_option maxRecDepth 100000 in
set_option maxHeartbeats 2000000 in
theorem sink_l (h : DQ own bq bm (.func (.func 59) #[] #[]) a D n w) (hL : Less own ky w) {i : Nat} {nn : Int} (hi : a[i]? = some nn) (hla : a.length ≤ 1000000) (hd : a.Nodup) (hn : n + a.length + 1 < maxLen) (hpos : Pos D a (· = nn)) (hdn : Dn ky a i) :
    Calls Try.prog 69 #[.pointer (some ⟨bq, 0, none⟩), .int .i64 (i : Int)] w (SinkPost own bq bm (.func (.func 59) #[] #[]) ky a n w) := by
  have hil := (List.getElem?_eq_some_iff.1 hi).1
  obtain ⟨q, cr, hf, hrow, -, -, -, hql, hcell, hfz⟩ := h.blk (by omega)
  have gi := hcell i hil
  rw [List.getElem?_map, hi] at gi
  have gi : w.cell? ⟨q, i, none⟩ = some (.int .i64 nn) := gi
  have c1 := hf.cell 1
  simp only [List.getElem?_cons_zero, List.getElem?_cons_succ] at c1
  have d0 : (0 : Int) ≤ (i : Int) := by omega
  have d1 : (i : Int) < (a.length : Int) := by omega
  have hnn : In64 nn := h.rg nn (List.mem_of_getElem? hi)
  have H0 := Lib.hid h; have HL := Lib.hid hL; have HP := Lib.hid hpos; have HDN := Lib.hid hdn; have HD := Lib.hid hd; have HI := Lib.hid hi
  clear h hL hpos hdn hf hrow hcell hfz hd hi
  go_enter Try.func69, Try.ntmps69
  go_wp2
  go_loopw [1] (fun s1 wr => ∃ (k : Nat) (b : List Int) (x : Int) (D' : Dm) (n' : Nat), s1 = .int .i64 (k : Int) ∧ n' ≤ n + k ∧ Hid (b[k]? = some nn) ∧ Hid (DQ own bq bm (.func (.func 59) #[] #[]) (b.set k x) D' n' wr) ∧ Hid (Only own w wr) ∧ Hid (b.Perm a) ∧ Hid (Pos D' b (· = nn)) ∧ Hid (Dn ky b k)) (fun s1 _ => a.length - (intOf s1).toNat)
  case atStart => exact ⟨i, a, nn, D, n, rfl, by omega, HI, Lib.hid (by rw [set_at HI.out]; exact H0.out), Lib.hid (Only.refl _ _), Lib.hid (List.Perm.refl _), HP, HDN⟩
  case round =>
    obtain ⟨k, b, x, D', n', rfl, hnk, HBK, HQ, HO, HPM, HPO, HDB⟩ := hrel
    have hlen : b.length = a.length := HPM.out.length_eq
    have hkl := (List.getElem?_eq_some_iff.1 HBK.out).1
    have hdb : b.Nodup := HPM.out.nodup_iff.2 HD.out
    have hend : b.set k nn = b := set_at HBK.out
    have HMM := Lib.hid HQ.out.isMap
    have HPUT : Hid (∀ W, DQ own bq bm (.func (.func 59) #[] #[]) (b.set k x) D' n' W → Calls Try.prog 68 #[.pointer (some ⟨bq, 0, none⟩), .int .i64 (k : Int), .int .i64 nn] W fun e w' => (∃ r, e = .returned r) ∧ DQ own bq bm (.func (.func 59) #[] #[]) b (D'.put (kl nn) (dl k)) (n' + 1) w' ∧ Only own W w') := Lib.hid (fun W hW => by
      have h := put_l hW (i := k) (by rw [List.length_set]; exact hkl) (by rw [List.length_set]; omega) (by omega) hnn
      rw [List.set_set, hend] at h
      exact h)
    have HEND : Hid (∀ W r w5, Only own w W → (∀ j, 0 < j → j < b.length → (j - 1) / 2 = k → g ky b k ≤ g ky b j) → DQ own bq bm (.func (.func 59) #[] #[]) b (D'.put (kl nn) (dl k)) (n' + 1) w5 → Only own W w5 → SinkPost own bq bm (.func (.func 59) #[] #[]) ky a n w (.returned r) w5) := Lib.hid (fun W r w5 ho hge h5 ho5 => SinkPost.mk hkl hnk HBK.out ho HPM.out HD.out HPO.out HDB.out HMM.out hge h5 ho5)
    obtain ⟨c, hc⟩ : ∃ c : Nat, 2 * k + 1 = c := ⟨_, rfl⟩
    obtain ⟨q', cr', hf', -, -, -, -, -, hcell', -⟩ := HQ.out.blk (by rw [List.length_set]; omega)
    rw [List.length_set] at hf' hcell'
    have c0 := hf'.cell 0; have c1' := hf'.cell 1
    simp only [List.getElem?_cons_zero, List.getElem?_cons_succ] at c0 c1'
    have hgc : ∀ (j : Nat) (v : Int), j ≠ k → b[j]? = some v → wr.cell? ⟨q', j, none⟩ = some (.int .i64 v) := fun j v hj hv => by
      have := hcell' j (List.getElem?_eq_some_iff.1 hv).1
      rw [List.getElem?_map, List.getElem?_set_ne (fun e => hj e.symm), hv] at this
      exact this
    have HGC := Lib.hid hgc
    have e1 : IntKind.i64.wrap (2 * (k : Int)) = 2 * (k : Int) := IntWalk.i64_in _ (by omega)
    have e2 : IntKind.i64.wrap (2 * (k : Int) + 1) = (c : Int) := by rw [← hc]; exact (IntWalk.i64_in _ (by omega)).trans (by omega)
    have e3 : 2 * (k : Int) + 1 = (c : Int) := by omega
    have e4 : (0 : Int) ≤ (c : Int) := by omega
    rw [hlen] at hf' c1'
    clear hend hf' hcell' hgc
    by_cases hcl : c < b.length
    · have e5 : ¬ (c : Int) ≥ (a.length : Int) := by omega
      have e6 : ¬ (a.length : Int) ≤ (c : Int) := by omega
      obtain ⟨v0, hv0⟩ : ∃ v0, b[c]? = some v0 := ⟨_, List.getElem?_eq_getElem hcl⟩
      have HLS := Lib.hid (HL.out.only HO.out)
      have f1 : IntKind.i64.wrap ((c : Int) + 1) = (c : Int) + 1 := IntWalk.i64_in _ (by omega)
      have f2 : ((c : Int) + 1).toNat = c + 1 := by omega
      have f3 : (0 : Int) ≤ (c : Int) + 1 := by omega
      have f4 : c < a.length := by omega
      have f5 : (c : Int) < (a.length : Int) := by omega
      have g0 := HGC.out c v0 (by omega) hv0
      have hg0 : g ky b c = ky v0 := g_at hv0
      go_upto_region 3 with fail
      go_cut [52] from 23 to 51 (fun v wx => ∃ two : Bool, v = .bool two ∧ Hid (Pick ky b c two) ∧ ∃ m, wx = wr.drewN m)
      case first =>
        clear HPUT HEND HPO HPM HD HI HP H0 HBK HDN HDB HMM
        by_cases hc1 : c + 1 < b.length
        · obtain ⟨v1, hv1⟩ : ∃ v1, b[c + 1]? = some v1 := ⟨_, List.getElem?_eq_getElem hc1⟩
          have g1 := HGC.out (c + 1) v1 (by omega) hv1
          have hg1 : g ky b (c + 1) = ky v1 := g_at hv1
          have l1 : c + 1 < a.length := by omega
          have l2 : (c : Int) + 1 < (a.length : Int) := by omega
          have l3 : decide (c + 1 < a.length) = true := by simp; omega
          have l4 : decide ((c : Int) + 1 < (a.length : Int)) = true := by simp; omega
          obtain ⟨two, htwo⟩ : ∃ two : Bool, decide (ky v1 < ky v0) = two := ⟨_, rfl⟩
          have HL2 : Hid (∀ w', Only own wr w' → Calls Try.prog 59 #[.int .i64 v1, .int .i64 v0] w' fun e w'' => e = .returned (.bool two) ∧ ∃ m, w'' = w'.drewN m) := Lib.hid (fun w' ho => by have := HLS.out w' ho v1 v0; rwa [htwo] at this)
          have HT : Hid (Pick ky b c two) := Lib.hid ⟨fun q => ⟨hc1, by rw [hg0, hg1]; rw [← htwo, decide_eq_true_eq] at q; omega⟩, fun q _ => by rw [hg0, hg1]; rw [← htwo, decide_eq_false_iff_not] at q; omega⟩
          clear HLS HL hv0 hv1 htwo HGC HQ HO
          go_quiet ((go_at_call 59; refine Calls.quiet_of (HL2.out _ ((Only.refl own wr).drewN _))))
          go_wp2_with fail
          go_meet
          exact ⟨two, rfl, HT, _, rfl⟩
        · have l1 : ¬ c + 1 < a.length := by omega
          have l3 : decide (c + 1 < a.length) = false := by simp; omega
          have l4 : decide ((c : Int) + 1 < (a.length : Int)) = false := by simp; omega
          have HT : Hid (Pick ky b c false) := Lib.hid ⟨fun q => (by cases q), fun _ q => absurd q hc1⟩
          clear HLS HL hv0 HGC HQ HO
          go_quiet (fail)
          go_wp2_with fail
          go_meet
          exact ⟨false, rfl, HT, _, rfl⟩
      case rest =>
        obtain ⟨two, rfl, HT, m1, hwc⟩ := hcut
        have HQC : Hid (DQ own bq bm (.func (.func 59) #[] #[]) (b.set k x) D' n' wc) := Lib.hid (by rw [hwc]; exact HQ.out.later (below_drewN (Below.refl _ wr) m1))
        have HOC : Hid (Only own w wc) := Lib.hid (by rw [hwc]; exact HO.out.drewN m1)
        have HLC : Hid (Less own ky wc) := Lib.hid (by rw [hwc]; exact HLS.out.only ((Only.refl own wr).drewN m1))
        have HGW : Hid (∀ (j : Nat) (v : Int), j ≠ k → b[j]? = some v → wc.cell? ⟨q', j, none⟩ = some (.int .i64 v)) := Lib.hid (fun j v h1 h2 => by rw [hwc]; exact HGC.out j v h1 h2)
        have w0 : wc.cell? ⟨bq, 0, none⟩ = some (.func (.func 59) #[] #[]) := by rw [hwc]; exact c0
        have w1 : wc.cell? ⟨bq, 1, none⟩ = some (.slice (some ⟨q', 0, none⟩) a.length cr') := by rw [hwc]; exact c1'
        clear hwc HGC HLS HL HQ HO c0 c1' g0
        go_upto_if 52 with fail
        go_cut [5] from 53 to 54 (fun v wx => ∃ c2 : Nat, v = .int .i64 (c2 : Int) ∧ c2 < b.length ∧ (c2 - 1) / 2 = k ∧ 0 < c2 ∧ Hid (∀ j, 0 < j → j < b.length → (j - 1) / 2 = k → g ky b c2 ≤ g ky b j) ∧ wx = wc)
        case first =>
          cases two
          · go_wp2_with fail
            go_meet
            refine ⟨c, rfl, hcl, by omega, by omega, Lib.hid (fun j j0 jl jk => ?_), rfl⟩
            rcases (by omega : j = c ∨ j = c + 1) with rfl | rfl
            · exact Int.le_refl _
            · exact HT.out.f jl
          · obtain ⟨hc1, hc2⟩ := HT.out.t
            go_wp2_with fail
            go_meet
            refine ⟨c + 1, by go_num, hc1, by omega, by omega, Lib.hid (fun j j0 jl jk => ?_), rfl⟩
            rcases (by omega : j = c ∨ j = c + 1) with rfl | rfl
            · exact hc2
            · exact Int.le_refl _
        case rest =>
          obtain ⟨c2, rfl, k1, k2, k3, HLE, rfl⟩ := hcut
          clear HT hg0 hv0
          obtain ⟨v2, hv2⟩ : ∃ v2, b[c2]? = some v2 := ⟨_, List.getElem?_eq_getElem k1⟩
          have g2 := HGW.out c2 v2 (by omega) hv2
          have hg2 : g ky b c2 = ky v2 := g_at hv2
          have hgk : g ky b k = ky nn := g_at HBK.out
          have l1 : c2 < a.length := by omega
          have l2 : (c2 : Int) < (a.length : Int) := by omega
          have l5 : (0 : Int) ≤ (c2 : Int) := by omega
          have hv64 : In64 v2 := HQC.out.rg v2 (List.mem_of_getElem? (i := c2) (by rw [List.getElem?_set_ne (by omega)]; exact hv2))
          have HV2 := Lib.hid hv2
          clear hv2
          go_upto_region 5 with fail
          by_cases hlt : ky v2 < ky nn
          · have HL2 : Hid (∀ m, Calls Try.prog 59 #[.int .i64 v2, .int .i64 nn] (wc.drewN m) fun e w'' => e = .returned (.bool true) ∧ ∃ m', w'' = (wc.drewN m).drewN m') := Lib.hid (fun m => by have := HLC.out (wc.drewN m) ((Only.refl own wc).drewN _) v2 nn; rwa [decide_eq_true hlt] at this)
            have HPT := Lib.hid (fun m => put_l (HQC.out.later (below_drewN (Below.refl _ wc) m)) (i := k) (by rw [List.length_set]; exact hkl) (by rw [List.length_set]; omega) (by omega) hv64)
            have HMV := Lib.hid (dn_step HDB.out HBK.out k1 k2 k3 (by rw [hg2]; exact hlt) HLE.out)
            clear HLC HEND HPUT HGW
            go_quiet ((go_at_call 59; refine Calls.quiet_of (HL2.out _)))
            clear HL2
            go_wp2_with fail
            refine (HPT.out _).mono ?_
            rintro e w5 ⟨⟨r5, rfl⟩, h5, ho5⟩
            rw [List.set_set] at h5
            have H5 := Lib.hid h5; have HO5 := Lib.hid ho5
            clear h5 ho5 HPT
            go_wp2_with fail
            go_roundw
            case rel =>
              refine ⟨c2, mv b k c2 nn, v2, _, n' + 1, rfl, by omega, Lib.hid ?_, Lib.hid ?_, Lib.hid ((HOC.out.drewN _).trans HO5.out (fun _ _ h => h)), Lib.hid ((mv_perm HBK.out k1).trans HPM.out), Lib.hid (HPO.out.move HMM.out hdb HBK.out HV2.out (by omega)), HMV⟩
              · rw [mv_get nn hkl k1 (by omega), if_pos rfl]
              · rw [mv_set HV2.out (by omega)]; exact H5.out
            case measure => simp [intOf]; omega
          · have HL2 : Hid (∀ m, Calls Try.prog 59 #[.int .i64 v2, .int .i64 nn] (wc.drewN m) fun e w'' => e = .returned (.bool false) ∧ ∃ m', w'' = (wc.drewN m).drewN m') := Lib.hid (fun m => by have := HLC.out (wc.drewN m) ((Only.refl own wc).drewN _) v2 nn; rwa [decide_eq_false hlt] at this)
            have HGE : Hid (∀ j, 0 < j → j < b.length → (j - 1) / 2 = k → g ky b k ≤ g ky b j) := Lib.hid (fun j j0 jl jk => by have := HLE.out j j0 jl jk; rw [hgk]; rw [hg2] at this; omega)
            have HP1 := Lib.hid (fun m => HPUT.out (wc.drewN m) (HQC.out.later (below_drewN (Below.refl _ wc) m)))
            clear HLC HPO HPM HD HI HP H0 HBK HQC HDN HDB HGW HPUT HLE
            go_quiet ((go_at_call 59; refine Calls.quiet_of (HL2.out _)))
            clear HL2
            go_wp2_with fail
            refine (HP1.out _).mono ?_
            rintro e w5 ⟨⟨r5, rfl⟩, h5, ho5⟩
            go_wp2
            refine bodyPost_end (v := .tuple #[]) (by simp [results, Try.results69]) (by rfl) (HEND.out _ _ w5 (HOC.out.drewN _) HGE.out h5 ho5)
    · have HGE : Hid (∀ j, 0 < j → j < b.length → (j - 1) / 2 = k → g ky b k ≤ g ky b j) := Lib.hid (fun j j0 jl jk => by omega)
      have e5 : (c : Int) ≥ (a.length : Int) := by omega
      have e6 : (a.length : Int) ≤ (c : Int) := by omega
      have HP0 := Lib.hid (HPUT.out wr HQ.out)
      clear HL HPO HPM HD HI HP H0 HBK HQ HDN HDB HGC HPUT
      go_wp2_with fail
      refine HP0.out.mono ?_
      rintro e w5 ⟨⟨r5, rfl⟩, h5, ho5⟩
      go_wp2
      refine bodyPost_end (v := .tuple #[]) (by simp [results, Try.results69]) (by rfl) (HEND.out wr _ w5 HO.out HGE.out h5 ho5)
end Go.Proofs.Ytbaepjjanjhliaa.drt.N
