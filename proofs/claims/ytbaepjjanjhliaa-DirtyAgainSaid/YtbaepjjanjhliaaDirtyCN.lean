/- The queue: New, Push, Pop, Remove, walked. -/
import Derived.Test.YtbaepjjanjhliaaDirtySN
import Derived.Deep.RegionLaw
namespace Go.Proofs.Ytbaepjjanjhliaa.drt.N
set_option linter.unusedVariables false
open Go.RowKit Go.Maps
variable {own : Nat → Prop} {bq bm : Nat} {a : List Int} {D : Dm} {n : Nat} {w w' : World} {bt : Nat} {ky : Int → Int}
/-- what 'cut' leaves -/
def CutPost (own : Nat → Prop) (bq bm : Nat) (fv : Value) (ky : Int → Int) (a : List Int) (x : Int) (n : Nat) (w : World) (e : Ending) (w' : World) : Prop :=
  ∃ (a' : List Int) (D' : Dm) (n' : Nat), (∃ r, e = .returned r) ∧ DQ own bq bm fv a' D' n' w' ∧ Only own w w' ∧ (x :: a').Perm a ∧ Pos D' a' (fun _ => False) ∧ n' ≤ n + 2 * a.length + 3 ∧ Heap ky a'
theorem row_le {w : World} {B : Nat} {e : TypeId} {k : Nat} {x : Option Addr} {m c : Nat} {xs : List Value} (h : w.ownsRow B e k (.slice x m c) m xs) : m ≤ c := by
  rcases h.2 with ⟨e, _⟩ | ⟨g, cap, cur, e, _, _, hnc, _⟩
  · cases e; omega
  · cases e; exact hnc
theorem mem_take_in {a : List Int} (h : ∀ v ∈ a, In64 v) (m : Nat) : ∀ v ∈ a.take m, In64 v := fun v hv => h v (List.mem_of_mem_take hv)
theorem owns_pre {w : World} {B : Nat} {e : TypeId} {q c m k : Nat} {xs : List Value} (h : w.ownsRow B e 1 (.slice (some ⟨q, 0, none⟩) m c) m xs) (hk : k ≤ m) : w.ownsRow B e 1 (.slice (some ⟨q, 0, none⟩) k c) k (xs.take k) := by
  obtain ⟨hl, ⟨h0, -⟩ | ⟨g, cap, cur, he, hB, hg, hnc, hcm, hcs, ht⟩⟩ := h
  · cases h0
  · simp only [Value.slice.injEq, Option.some.injEq, Addr.mk.injEq] at he
    obtain ⟨⟨rfl, -, -⟩, -, rfl⟩ := he
    refine ⟨by rw [List.length_take]; omega, .inr ⟨q, c, cur, rfl, hB, hg, by omega, hcm, hcs, ?_⟩⟩
    rw [← ht, List.take_take, Nat.mul_one, Nat.mul_one, Nat.min_eq_left hk]
/-- 'delete', as a step of a region that draws its order -/
theorem step_delete {P : Program} {H : Type} (w : World) {ops : Array Oper} {o : Oper} {ac : Act} {K : Act → World → Prop} {Q : Exit → Act → World → Prop} {E : Prop} (hgd : o.guard = none) (m x : Operand) (t k : TypeId) (hop : o.op = Op.call { callee := Callee.builtin Builtin.delete, args := #[m, x], argTypes := #[t, k] })
    (e : TypeId) (KK : Keyed P k) (ht : P.underlying t = some (.map k e)) (R : Value → Option (DataW H × List MemPlace)) (b n : Nat) (D : DataW H)
    (hm : ac.eval m = .map (some b)) (hown : w.ownsMap P k R b n D) (key : Value) (kl : Lit) (hx : ac.eval x = key) (hkey : keyOf P k key = some kl)
    (hK : ∀ w', w'.ownsMap P k R b n (D.del kl) → w.mapTurned w' b → K (ac.put o.dst (.tuple #[])) w') :
    if Region.wanted o (yielded ops ac.tmps) = true then Oper.wp P o ac w K Q else E := by
  have hw : Region.wanted o (yielded ops ac.tmps) = true := by simp [Region.wanted, hgd]
  rw [if_pos hw]
  obtain ⟨w', hrun, r1, r2⟩ := hown.drop KK ht hkey o.type
  unfold Oper.wp
  simp [execOp, hop, resolve, invoke, builtin, hm, hx, hrun, Result.andThen]
  exact hK w' r1 r2
theorem DQ.turned {fv : Value} {D' : Dm} (h : DQ own bq bm fv a D n w) (hm : w'.ownsMap Try.prog TI (plainElem Try.prog TI) bm n D') (hg : w.grownBy w' (some bm)) : DQ own bq bm fv a D' n w' ∧ Only own w w' := by
  obtain ⟨ar, cr, h1, h2, h3⟩ := h.row
  have hne := h.ne
  refine ⟨⟨⟨ar, cr, h1.grown hg (fun e => hne (by cases e; rfl)), h2.kept hg ?_, h3⟩, hm, h.oq, h.om, fun k hk => Nat.lt_of_lt_of_le (h.lt k hk) hg.size, h.rg⟩, (Only.refl own w).grown hg (fun k e _ => by cases e; exact h.om)⟩
  cases ar with
  | none => exact .inl rfl
  | some y =>
    rcases h2.2 with ⟨e, -⟩ | ⟨g, cap, cur, e, -, hg2, -⟩
    · cases e
    · right
      simp only [Value.slice.injEq, Option.some.injEq] at e
      obtain ⟨rfl, -, rfl⟩ := e
      exact fun e => map_ne h.mp hg2 (by simpa [Value.ownBlock] using e.symm)
theorem DQ.reslice {fv : Value} {q cr m : Nat} (h : DQ own bq bm fv a D n w) (hf : Flds w bq TQ [fv, .slice (some ⟨q, 0, none⟩) a.length cr, .map (some bm)]) (hr : w.ownsRow 0 TI 1 (.slice (some ⟨q, 0, none⟩) a.length cr) a.length (ints a)) (hoq : own q) (hqb : q ≠ bq) (hm : m ≤ a.length) :
    DQ own bq bm fv (a.take m) D n (w.setCell ⟨bq, 1, none⟩ (.slice (some ⟨q, 0, none⟩) m cr)) ∧ Only own w (w.setCell ⟨bq, 1, none⟩ (.slice (some ⟨q, 0, none⟩) m cr)) := by
  have hl : (a.take m).length = m := by rw [List.length_take]; omega
  have e : (ints a).take m = ints (a.take m) := by simp
  refine ⟨⟨⟨some ⟨q, 0, none⟩, cr, ?_, ?_, fun y e => by cases e; exact hoq⟩, h.mp.setCell (a := ⟨bq, 1, none⟩) (fun e => h.ne e.symm) _, h.oq, h.om, fun k hk => by have := h.lt k hk; simpa [World.setCell] using this, mem_take_in h.rg m⟩, (Only.refl own w).setCell ⟨bq, 1, none⟩ _ (fun _ => h.oq)⟩
  · rw [hl]; exact hf.set 1 _
  · rw [hl, ← e]; exact owns_setCell (owns_pre hr hm) ⟨bq, 1, none⟩ _ (by simp [Value.ownBlock]; exact hqb)
set_option maxRecDepth 100000 in
set_option maxHeartbeats 2000000 in
theorem cut_l (h : DQ own bq bm (.func (.func 59) #[] #[]) a D n w) (hL : Less own ky w) {i : Nat} {x : Int} (hi : a[i]? = some x) (hla : a.length ≤ 1000000) (hd : a.Nodup) (hn : n + 2 * a.length + 4 < maxLen) (hpos : Pos D a (fun _ => False)) (hh : Heap ky a) :
    Calls Try.prog 60 #[.pointer (some ⟨bq, 0, none⟩), .int .i64 (i : Int)] w (CutPost own bq bm (.func (.func 59) #[] #[]) ky a x n w) := by
  have hil := (List.getElem?_eq_some_iff.1 hi).1
  obtain ⟨last, hlast⟩ : ∃ last, a[a.length - 1]? = some last := ⟨_, List.getElem?_eq_getElem (by omega)⟩
  obtain ⟨q, cr, hf, hrow, hoq, hqb, hqm, hql, hcell, hfz⟩ := h.blk (by omega)
  have gl := hcell (a.length - 1) (by omega)
  rw [List.getElem?_map, hlast] at gl
  have gl : w.cell? ⟨q, a.length - 1, none⟩ = some (.int .i64 last) := gl
  have gi := hcell i hil
  rw [List.getElem?_map, hi] at gi
  have gi : w.cell? ⟨q, i, none⟩ = some (.int .i64 x) := gi
  have c1 := hf.cell 1; have c2 := hf.cell 2
  simp only [List.getElem?_cons_zero, List.getElem?_cons_succ] at c1 c2
  have lb := hf.lt
  have hx64 : In64 x := h.rg x (List.mem_of_getElem? hi)
  have hl64 : In64 last := h.rg last (List.mem_of_getElem? hlast)
  obtain ⟨e, he⟩ : ∃ e : Nat, a.length - 1 = e := ⟨_, rfl⟩
  have hcr : a.length ≤ cr := row_le hrow
  rw [he] at gl hlast
  have w1 : IntKind.i64.wrap ((a.length : Int) - 1) = (e : Int) := (IntWalk.i64_in _ (by omega)).trans (by omega)
  have w2 : (a.length : Int) - 1 = (e : Int) := by omega
  have d0 : (0 : Int) ≤ (e : Int) := by omega
  have d1 : (e : Int) < (a.length : Int) := by omega
  have d2 : (0 : Int) ≤ (i : Int) := by omega
  have d3 : (i : Int) < (a.length : Int) := by omega
  have d4 : (e : Int) ≤ (cr : Int) := by omega
  have d5 : (e : Int).toNat = e := by omega
  have H0 := Lib.hid h; have HL := Lib.hid hL; have HP := Lib.hid hpos; have HH := Lib.hid hh; have HD := Lib.hid hd; have HI := Lib.hid hi; have HLA := Lib.hid hlast
  have HF := Lib.hid hf; have HR := Lib.hid hrow
  clear h hL hpos hh hf hrow hcell hfz hd hi hlast
  go_enter Try.func60, Try.ntmps60
  go_upto_region 2 with fail
  have HMD := Lib.hid (show w.drew.ownsMap Try.prog TI (plainElem Try.prog TI) bm n D from H0.out.mp)
  have HTN := Lib.hid (fun (w1 : World) (hm1 : w1.ownsMap Try.prog TI (plainElem Try.prog TI) bm n (D.del (kl x))) (ht1 : w.drew.mapTurned w1 bm) => DQ.turned (w := w.drew) (H0.out.later ((Below.refl _ _).drew)) hm1 ht1.grown)
  go_cut [4] from 19 to 29 (fun v wx => v = .int .i64 (e : Int) ∧ Hid (DQ own bq bm (.func (.func 59) #[] #[]) a (D.del (kl x)) n wx) ∧ Hid (Only own w wx) ∧ Hid (w.drew.grownBy wx (some bm)))
  case first =>
    clear HL HP HH HD HI HLA HF HR H0
    go_region_law (refine step_delete _ rfl (.tmp 22) (.tmp 29) 97 TI rfl TI law Try.underlying97 (plainElem Try.prog TI) bm n D (by rfl) HMD.out (.int .i64 x) (kl x) (by rfl) (hkey hx64) ?_; intro w1 hm1 ht1; obtain ⟨r1, r2⟩ := HTN.out w1 hm1 ht1; have r1 := Lib.hid r1; have r2 := Lib.hid r2; have r3 := Lib.hid ht1.grown; clear hm1 ht1)
    all_goals (go_wp2_with fail)
    all_goals (go_meet; exact ⟨rfl, r1, Lib.hid ((Only.of_below ((Below.refl _ _).drew)).trans r2.out (fun _ _ h => h)), r3⟩)
  case rest =>
    obtain ⟨rfl, HQ1, HO1, HG1⟩ := hcut
    have hf1 : Flds wc bq TQ [(.func (.func 59) #[] #[]), .slice (some ⟨q, 0, none⟩) a.length cr, .map (some bm)] := Flds.grown (w := w.drew) HF.out HG1.out (fun e => HQ1.out.ne (by cases e; rfl))
    have hr1 : wc.ownsRow 0 TI 1 (.slice (some ⟨q, 0, none⟩) a.length cr) a.length (ints a) := World.ownsRow.kept (w := w.drew) HR.out HG1.out (.inr (fun e => hqm (by simpa [Value.ownBlock] using e)))
    have c1' := hf1.cell 1
    have fz1 := hf1.frozen 1
    have lb1 := hf1.lt
    simp only [List.getElem?_cons_zero, List.getElem?_cons_succ] at c1'
    obtain ⟨hq2, ho2⟩ := DQ.reslice HQ1.out hf1 hr1 hoq hqb (show e ≤ a.length by omega)
    have HQ2 := Lib.hid hq2; have HO2 := Lib.hid (HO1.out.trans ho2 (fun _ _ h => h))
    have htl : (a.take e).length = e := by rw [List.length_take]; omega
    clear hf1 hr1 hq2 ho2 HMD HTN c1 c2 gl gi
    by_cases hie : i = e
    · have hq : ((i : Int) == (e : Int)) = true := by simp; omega
      go_wp2
      refine bodyPost_end (v := .tuple #[]) (by simp [results, Try.results60]) (by rfl) ⟨a.take e, _, n, ⟨_, rfl⟩, HQ2.out, HO2.out, ?_, ?_, by omega, take_heap HH.out e⟩
      · subst hie
        have e1 : x = last := Option.some.inj (HI.out.symm.trans HLA.out)
        rw [e1]
        have e2 : a = a.take i ++ [last] := by
          have h := List.take_add_one (l := a) (i := i)
          rw [HLA.out, List.take_of_length_le (by omega)] at h
          exact h
        exact (List.perm_append_comm (l₁ := [last])).trans (by rw [← e2])
      · subst hie
        have e1 : x = last := Option.some.inj (HI.out.symm.trans HLA.out)
        have h := HP.out.cutLast HD.out (n := x) (by rw [he]; exact HI.out)
        rw [he] at h
        exact h
    · have hq : ((i : Int) == (e : Int)) = false := by simp; omega
      have hPT := put_l HQ2.out (i := i) (by omega) (by omega) (by omega) hl64
      have HPT := Lib.hid hPT
      clear hPT
      go_wp2_with fail
      refine HPT.out.mono ?_
      rintro e3 w3 ⟨⟨r3, rfl⟩, h3, ho3⟩
      obtain ⟨b, hb⟩ : ∃ b, (a.take e).set i last = b := ⟨_, rfl⟩
      rw [hb] at h3
      have hbl : b.length = e := by rw [← hb, List.length_set]; exact htl
      have hbi : b[i]? = some last := by rw [← hb]; exact List.getElem?_set_self (by omega)
      have hpm : (x :: b).Perm a := by rw [← hb, ← he]; exact cut_perm (by rw [he]; exact HLA.out) HI.out (by omega)
      have hps : Pos ((D.del (kl x)).put (kl last) (dl i)) b (fun _ => False) := by rw [← hb, ← he]; exact HP.out.cutMid H0.out.isMap HD.out (by rw [he]; exact HLA.out) HI.out (by omega)
      have hga : Gap ky b i := by rw [← hb, ← he]; exact cut_gap HH.out (by omega) last
      have hbd : b.Nodup := (List.nodup_cons.1 (hpm.nodup_iff.2 HD.out)).2
      have HO3 := Lib.hid (HO2.out.trans ho3 (fun _ _ h => h))
      have hrs := rise_l h3 (HL.out.only HO3.out) hbi (by omega) hbd (by omega) (hps.sub (fun _ q => q.elim)) hga
      have HRS := Lib.hid hrs; have HPM := Lib.hid hpm; have HBD := Lib.hid hbd
      clear hb hps hga hrs h3 ho3 HPT HP HH HD HI HLA HF HR H0 HQ1 HO1 HG1 HQ2 hpm hbd
      go_wp2_with fail
      refine HRS.out.mono ?_
      rintro e4 w4 ⟨i', b', D4, n4, rfl, h4, ho4, hpm4, hps4, hn4, hcase⟩
      have HO4 := Lib.hid (HO3.out.trans ho4 (fun _ _ h => h))
      rcases hcase with ⟨rfl, rfl, hdn⟩ | ⟨hne, hhp⟩
      · have hq2 : ((i' : Int) == (i' : Int)) = true := by simp
        have hsk := sink_l h4 (HL.out.only HO4.out) hbi (by omega) HBD.out (by omega) (hps4.sub (fun _ q => q.elim)) hdn
        have HSK := Lib.hid hsk
        clear hsk h4 hps4 hdn ho4 HRS hpm4
        go_wp2_with fail
        refine HSK.out.mono ?_
        rintro e5 w5 ⟨b5, D5, n5, ⟨r5, rfl⟩, h5, ho5, hpm5, hps5, hn5, hhp5⟩
        go_wp2
        exact bodyPost_end (v := .tuple #[]) (by simp [results, Try.results60]) (by rfl) ⟨b5, D5, n5, ⟨_, rfl⟩, h5, HO4.out.trans ho5 (fun _ _ h => h), ((List.perm_cons x).2 hpm5).trans HPM.out, hps5, by omega, hhp5⟩
      · have hq2 : ((i' : Int) == (i : Int)) = false := by simp; omega
        have H4 := Lib.hid h4; have HS4 := Lib.hid hps4; have HH4 := Lib.hid hhp; have HM4 := Lib.hid hpm4
        clear h4 hps4 hhp ho4 HRS hpm4
        go_wp2
        exact bodyPost_end (v := .tuple #[]) (by simp [results, Try.results60]) (by rfl) ⟨b', D4, n4, ⟨_, rfl⟩, H4.out, HO4.out, ((List.perm_cons x).2 HM4.out).trans HPM.out, HS4.out, by omega, HH4.out⟩
end Go.Proofs.Ytbaepjjanjhliaa.drt.N
