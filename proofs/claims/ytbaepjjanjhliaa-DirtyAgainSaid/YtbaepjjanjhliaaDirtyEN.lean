/- The queue: Remove, Push, New, walked. -/
import Derived.Test.YtbaepjjanjhliaaDirtyDN
namespace Go.Proofs.Ytbaepjjanjhliaa.drt.N
set_option linter.unusedVariables false
open Go.RowKit Go.Maps
variable {own : Nat → Prop} {bq bm : Nat} {a : List Int} {D : Dm} {n : Nat} {w w' : World} {bt : Nat} {ky : Int → Int}
set_option maxRecDepth 100000 in
set_option maxHeartbeats 1000000 in
/-- REMOVE. -/
theorem q_remove {N : Nat} (h : QS own bq bm (.func (.func 59) #[] #[]) ky a N w) (hL : LessAll own ky w) (hla : a.length ≤ 1000000) (hN : N + 2 * a.length + 4 < maxLen) {v : Int} (hv : In64 v) :
    Calls Try.prog 38 #[.pointer (some ⟨bq, 0, none⟩), .int .i64 v] w fun e w' => ∃ a', e = .returned (.bool (decide (v ∈ a))) ∧ QS own bq bm (.func (.func 59) #[] #[]) ky a' (N + 2 * a.length + 3) w' ∧ Only own w w' ∧ (v ∈ a → (v :: a').Perm a) ∧ (v ∉ a → a' = a) := by
  have HHS := Lib.hid (q_has h hv)
  obtain ⟨D, n, h1, h2, h3, h4, h5⟩ := h
  by_cases hm : v ∈ a
  · rw [decide_eq_true hm] at HHS ⊢
    obtain ⟨j, hj⟩ := List.getElem?_of_mem hm
    have hat := h2.pl v j (fun q => q) hj
    obtain ⟨ar, cr, hf, -, -⟩ := h1.row
    have c2 := hf.cell 2
    simp only [List.getElem?_cons_zero, List.getElem?_cons_succ] at c2
    have hct := cut_l h1 hL.less hj hla h4 (by omega) h2 h3
    have HCT := Lib.hid hct; have HM := Lib.hid h1.mp; have HAT := Lib.hid hat; have H4 := Lib.hid h4
    clear hf hct h1 h2 h3 hL h4 hj hat
    go_enter Try.func38, Try.ntmps38
    go_wp2_with fail
    refine HHS.out.mono ?_
    rintro e w1 ⟨rfl, rfl⟩
    go_wp2_with (at_lookup; refine wpList_lookup_own_int _ rfl _ _ 97 rfl TI TI .i64 law Try.underlying97 Try.underlying3 (zeroE _) bm n D rfl HM.out _ (kl v) rfl (hkey hv) ?_; intro c hat hwc; obtain rfl : c = (j : Int) := (by have h := hat.symm.trans HAT.out; simpa using h))
    refine HCT.out.mono ?_
    rintro e w2 ⟨a', D', n', ⟨r, rfl⟩, q1, q2, q3, q4, q5, q6⟩
    have Q1 := Lib.hid q1; have Q2 := Lib.hid q2; have Q3 := Lib.hid q3; have Q4 := Lib.hid q4; have Q6 := Lib.hid q6
    clear q1 q2 q3 q4 q6
    go_wp2
    go_ret
    exact ⟨a', rfl, ⟨D', n', Q1.out, Q4.out, Q6.out, (List.nodup_cons.1 (Q3.out.nodup_iff.2 H4.out)).2, by omega⟩, Q2.out, fun _ => Q3.out, fun q => absurd hm q⟩
  · rw [decide_eq_false hm] at HHS ⊢
    have H1 := Lib.hid h1; have H2 := Lib.hid h2; have H3 := Lib.hid h3; have H4 := Lib.hid h4
    clear h1 h2 h3 h4 hL
    go_enter Try.func38, Try.ntmps38
    go_wp2_with fail
    refine HHS.out.mono ?_
    rintro e w1 ⟨rfl, rfl⟩
    go_wp2
    go_ret
    exact ⟨a, rfl, ⟨D, n, H1.out, H2.out, H3.out, H4.out, by omega⟩, Only.refl _ _, fun q => absurd q hm, fun _ => rfl⟩
theorem ints_snoc (a : List Int) (v : Int) : ints a ++ [.int .i64 v] = ints (a ++ [v]) := by simp
set_option maxRecDepth 100000 in
set_option maxHeartbeats 2000000 in
/-- PUSH. -/
theorem q_push {N : Nat} (h : QS own bq bm (.func (.func 59) #[] #[]) ky a N w) (hL : LessAll own ky w) (hla : a.length ≤ 100000) (hN : N + 2 * a.length + 8 < maxLen) {v : Int} (hv : In64 v) :
    Calls Try.prog 40 #[.pointer (some ⟨bq, 0, none⟩), .int .i64 v] w fun e w' => ∃ a', e = .returned (.bool (decide (v ∉ a))) ∧ QS (ownNew own w w') bq bm (.func (.func 59) #[] #[]) ky a' (N + 2 * a.length + 3) w' ∧ Only own w w' ∧ (v ∉ a → a'.Perm (v :: a)) ∧ (v ∈ a → a' = a) := by
  have HHS := Lib.hid (q_has h hv)
  obtain ⟨D, n, h1, h2, h3, h4, h5⟩ := h
  by_cases hm : v ∈ a
  · have e0 : decide (v ∉ a) = false := decide_eq_false (fun q => q hm)
    rw [e0]
    rw [decide_eq_true hm] at HHS
    have H1 := Lib.hid h1; have H2 := Lib.hid h2; have H3 := Lib.hid h3; have H4 := Lib.hid h4
    clear h1 h2 h3 h4 hL
    go_enter Try.func40, Try.ntmps40
    go_wp2_with fail
    refine HHS.out.mono ?_
    rintro e w1 ⟨rfl, rfl⟩
    go_wp2
    go_ret
    exact ⟨a, rfl, ⟨D, n, DQ.widen H1.out (fun k hk => .inl hk) (ownNew_lt H1.out.lt (Nat.le_refl _)), H2.out, H3.out, H4.out, by omega⟩, Only.refl _ _, fun q => absurd hm q, fun _ => rfl⟩
  · have e0 : decide (v ∉ a) = true := decide_eq_true hm
    rw [e0]
    rw [decide_eq_false hm] at HHS
    obtain ⟨i0, hi, hz0, hz1, hz2⟩ := info_parts infoInt
    obtain ⟨ar, cr, hf, hrow, hor⟩ := h1.row
    have c1 := hf.cell 1
    simp only [List.getElem?_cons_zero, List.getElem?_cons_succ] at c1
    have lb := hf.lt
    have fz := hf.frozen 1
    have hB1 : Below w.heap.size w (w.alloc (.cells #[.int .i64 v] TI)) := (Below.refl _ _).alloc (Nat.le_refl _) _
    have HRW := Lib.hid (hrow.alloc (.cells #[.int .i64 v] TI))
    have HNW := Lib.hid (Row.of_flds (m := 1) (size := 1) (Flds.new w TI [.int .i64 v]) rfl 1)
    have h63 : a.length + 1 ≤ maxLen := by unfold maxLen; omega
    have h64 : (a.length + 1) * 8 ≤ 140737488355328 := by omega
    have HONE : Hid (∀ u ∈ [Value.int .i64 v], u.oneCell' = true) := Lib.hid (by simp [Value.oneCell'])
    have H1 := Lib.hid h1; have H2 := Lib.hid h2; have H3 := Lib.hid h3; have H4 := Lib.hid h4; have HL := Lib.hid hL; have HF := Lib.hid hf; have HOR := Lib.hid hor
    clear h1 h2 h3 h4 hL hf hrow hor
    go_enter Try.func40, Try.ntmps40
    go_wp2_with fail
    refine HHS.out.mono ?_
    rintro e w1 ⟨rfl, hw1⟩
    obtain rfl := hw1.symm
    go_wp2_with (at_builtin; refine wpList_append_row _ rfl (.tmp 16) (.tmp 18) 26 (by rfl) 0 TI i0 (.int .i64 0) 1 8 Try.underlying26 hi hz0 hz1 hz2 rfl (by decide) (.slice ar a.length cr) a.length (ints a) (by rfl) HRW.out (.slice (some ⟨w.heap.size, 0, none⟩) 1 1) 1 [.int .i64 v] (by rfl) HNW.out HONE.out h63 h64 (Nat.zero_le _) ?_)
    intro a' cr' w2 hap
    have hbm : ∀ y, ar = some y → y.block ≠ bq ∧ y.block ≠ bm := fun y hy => by
      subst hy
      have h0 := H1.out
      obtain ⟨ar0, cr0, f0, r0, o0⟩ := h0.row
      have e1 : Value.slice ar0 a.length cr0 = .slice (some y) a.length cr := by
        have := (f0.cell 1).symm.trans c1
        simpa using this
      simp only [Value.slice.injEq] at e1
      obtain ⟨rfl, -, rfl⟩ := e1
      rcases r0.2 with ⟨e, -⟩ | ⟨g, cap, cur, e, -, hg, -⟩
      · cases e
      · simp only [Value.slice.injEq, Option.some.injEq] at e
        obtain ⟨rfl, -, rfl⟩ := e
        refine ⟨fun e => ?_, fun e => map_ne h0.mp hg e.symm⟩
        dsimp only at e
        subst e
        have f1 : w.heap[g]? = some (.cells _ TQ (0, 0)) := f0
        rw [hg] at f1
        simp only [Option.some.injEq, Obj.cells.injEq] at f1
        exact absurd f1.2.1 (by decide)
    have hob : ∀ k, (Value.slice ar a.length cr).ownBlock = some k → k ≠ bq ∧ k ≠ bm ∧ own k := fun k hk => by
      cases har : ar with
      | none => rw [har] at hk; simp [Value.ownBlock] at hk
      | some y =>
        rw [har] at hk
        have : y.block = k := by simpa [Value.ownBlock] using hk
        subst this
        exact ⟨(hbm y har).1, (hbm y har).2, HOR.out y har⟩
    have hf2 : Flds w2 bq TQ [(.func (.func 59) #[] #[]), .slice ar a.length cr, .map (some bm)] := (HF.out.alloc _).grown hap.grown (fun e => (hob bq e.symm).1 rfl)
    have hm2 : w2.ownsMap Try.prog TI (plainElem Try.prog TI) bm n D := (H1.out.mp.alloc _).kept hap.grown (fun e => (hob bm e.symm).2.1 rfl)
    have hgr2 := hap.grown
    have hz2' : w.heap.size < w2.heap.size := by have := hgr2.size; rw [World.size_alloc] at this; omega
    have hr2 := hap.own
    rw [ints_snoc] at hr2
    have hln : (a ++ [v]).length = a.length + 1 := by simp
    have hlies : ∀ y, a' = some y → ownNew own w w2 y.block := fun y hy => by
      have hy2 : (Value.slice a' (a.length + 1) cr').ownBlock = some y.block := by rw [hy]; rfl
      rcases hap.lies with q | q | q
      · rw [hy2] at q; cases q
      · rw [hy2] at q; exact .inl (hob _ q.symm).2.2
      · rw [hy2] at q
        have := Option.some.inj q
        rw [World.size_alloc] at this
        exact .inr ⟨by omega, (hr2.lt _ hy2).2⟩
    have hab : ∀ k, (Value.slice a' (a.length + 1) cr').ownBlock = some k → k ≠ bq := fun k hk e => by
      subst e
      exact owns_ne_obj hr2 hf2 (by decide) hk
    have c2 := hf2.cell 1
    have fz2 := hf2.frozen 1
    have lb2 := hf2.lt
    simp only [List.getElem?_cons_zero, List.getElem?_cons_succ] at c2
    have ho2 : Only own w w2 := ((Only.refl own w).alloc _).grown hgr2 (fun k hk _ => (hob k hk).2.2)
    have ho3 : Only own w (w2.setCell ⟨bq, 1, none⟩ (.slice a' (a.length + 1) cr')) := ho2.setCell ⟨bq, 1, none⟩ _ (fun _ => H1.out.oq)
    have hsz3 : (w2.setCell ⟨bq, 1, none⟩ (.slice a' (a.length + 1) cr')).heap.size = w2.heap.size := by simp [World.setCell]
    have hq3 : DQ (ownNew own w w2) bq bm (.func (.func 59) #[] #[]) (a ++ [v]) D n (w2.setCell ⟨bq, 1, none⟩ (.slice a' (a.length + 1) cr')) :=
      ⟨⟨a', cr', by rw [hln]; exact hf2.set 1 _, by rw [hln]; exact owns_setCell hr2 ⟨bq, 1, none⟩ _ (fun e => hab _ e rfl), hlies⟩, hm2.setCell (a := ⟨bq, 1, none⟩) (fun e => H1.out.ne e.symm) _, .inl H1.out.oq, .inl H1.out.om, fun k hk => by rw [hsz3]; exact ownNew_lt H1.out.lt (by omega) k hk, fun u hu => by
        rcases List.mem_append.1 hu with hu | hu
        · exact H1.out.rg u hu
        · rw [List.mem_singleton] at hu; subst hu; exact hv⟩
    have c3 := (hf2.set 1 (.slice a' (a.length + 1) cr')).cell 1
    simp only [List.getElem?_cons_zero, List.getElem?_cons_succ, List.set_cons_succ, List.set_cons_zero] at c3
    have hvi : (a ++ [v])[a.length]? = some v := by simp
    have hpm : (a ++ [v]).Perm (v :: a) := List.perm_append_comm
    have hnd : (a ++ [v]).Nodup := hpm.nodup_iff.2 (List.nodup_cons.2 ⟨hm, H4.out⟩)
    have hrs := rise_l (ky := ky) hq3 (HL.out _ _ (fun k hk => hk.elim .inl (fun q => .inr q.1)) ho3) hvi (by rw [hln]; omega) hnd (by rw [hln]; omega) (H2.out.snoc) (snoc_up H3.out v).toGap
    have HRS := Lib.hid hrs; have HO3 := Lib.hid ho3; have HPM := Lib.hid hpm; have HND := Lib.hid hnd
    have w1 : IntKind.i64.wrap ((a.length : Int) + 1 - 1) = (a.length : Int) := (IntWalk.i64_in _ (by omega)).trans (by omega)
    have w2' : (a.length : Int) + 1 - 1 = (a.length : Int) := by omega
    have hsz := hz2'
    clear hap hbm hob hf2 hm2 hgr2 hr2 hlies hab ho2 ho3 hq3 hrs hpm hnd HF HOR HRW HNW HONE hz2'
    go_wp2_with fail
    refine HRS.out.mono ?_
    rintro e4 w4 ⟨i', b', D4, n4, rfl, h4, ho4, hpm4, hps4, hn4, hcase⟩
    have H4' := Lib.hid h4; have HO4 := Lib.hid ho4; have HPM4 := Lib.hid hpm4; have HPS4 := Lib.hid hps4; have HC := Lib.hid hcase
    have hz4 := ho4.size
    rw [hsz3] at hz4
    clear h4 ho4 hpm4 hps4 hcase HRS
    go_wp2
    go_ret
    refine ⟨b', rfl, ⟨D4, n4, DQ.widen H4'.out (fun k hk => hk.elim .inl (fun q => .inr ⟨q.1, by omega⟩)) (ownNew_lt H1.out.lt (by omega)), HPS4.out, ?_, HPM4.out.nodup_iff.2 HND.out, by rw [hln] at hn4; omega⟩, HO3.out.trans HO4.out (fun k hk q => q.elim id (fun q => by omega)), fun _ => HPM4.out.trans HPM.out, fun q => absurd q hm⟩
    rcases HC.out with ⟨-, e5, hdn⟩ | ⟨-, hhp⟩
    · rw [e5]; exact up_end (snoc_up H3.out v) hdn.up
    · exact hhp
theorem q_len_nil (w : World) : Calls Try.prog 41 #[.pointer none] w fun e w' => e = .returned (.int .i64 0) ∧ w' = w := len_nil w
theorem pop_nil (w : World) : Calls Try.prog 37 #[.pointer none] w fun e w' => e = .returned (.tuple #[.int .i64 0, .bool false]) ∧ w' = w := by
  have H := Lib.hid (len_nil w)
  go_enter Try.func37, Try.ntmps37
  go_wp2_with fail
  refine H.out.mono ?_
  rintro e w1 ⟨rfl, rfl⟩
  go_wp2
  go_ret2
  exact ⟨rfl, rfl⟩
theorem remove_nil (v : Int) (w : World) : Calls Try.prog 38 #[.pointer none, .int .i64 v] w fun e w' => e = .returned (.bool false) ∧ w' = w := by
  have H := Lib.hid (has_nil v w)
  go_enter Try.func38, Try.ntmps38
  go_wp2_with fail
  refine H.out.mono ?_
  rintro e w1 ⟨rfl, rfl⟩
  go_wp2
  go_ret
  exact ⟨rfl, rfl⟩
theorem push_nil (v : Int) (w : World) : Calls Try.prog 40 #[.pointer none, .int .i64 v] w fun e w' => e = .returned (.bool false) ∧ w' = w := by
  go_enter Try.func40, Try.ntmps40
  go_wp2
  go_ret
  exact ⟨rfl, rfl⟩
set_option maxRecDepth 100000 in
set_option maxHeartbeats 1000000 in
/-- NEW. -/
theorem q_new (w : World) : Calls Try.prog 36 #[.nilFunc] w fun e w' => e = .returned (.pointer (some ⟨w.heap.size + 1, 0, none⟩)) ∧ QS (fun k => k = w.heap.size ∨ k = w.heap.size + 1) (w.heap.size + 1) w.heap.size (.func (.func 59) #[] #[]) ky [] 0 w' ∧ Below w.heap.size w w' ∧ w'.heap.size = w.heap.size + 2 := by
  have hmm := @run_makeMap Try.prog
  have hbo : ∀ w, Sem.run Try.prog (binOp .eql 39 .nilFunc .nilFunc) w = .ok (.bool true) w := fun w => rfl
  go_enter Try.func36, Try.ntmps36
  go_wp2
  have hf := Flds.new (w.alloc (.map #[] 0)) TQ [(.func (.func 59) #[] #[]), .slice none 0 0, .map (some w.heap.size)]
  rw [World.size_alloc] at hf
  have hm : ((w.alloc (.map #[] 0)).alloc (.cells #[(.func (.func 59) #[] #[]), .slice none 0 0, .map (some w.heap.size)] TQ)).ownsMap Try.prog TI (plainElem Try.prog TI) w.heap.size 0 (.map [] : Dm) := (World.ownsMap_made w Try.prog TI _).alloc _
  have hb : Below w.heap.size w ((w.alloc (.map #[] 0)).alloc (.cells #[(.func (.func 59) #[] #[]), .slice none 0 0, .map (some w.heap.size)] TQ)) := ((Below.refl _ _).alloc (Nat.le_refl _) _).alloc (by simp) _
  have hs : ((w.alloc (.map #[] 0)).alloc (.cells #[(.func (.func 59) #[] #[]), .slice none 0 0, .map (some w.heap.size)] TQ)).heap.size = w.heap.size + 2 := by simp
  have HF := Lib.hid hf; have HM := Lib.hid hm; have HB := Lib.hid hb
  clear hf hm hb hmm hbo
  go_ret
  refine ⟨rfl, ⟨.map [], 0, ⟨⟨none, 0, HF.out, owns_nil _ 0 TI 1, fun x e => by cases e⟩, HM.out, .inr rfl, .inl rfl, fun k hk => by rw [hs]; rcases hk with e | e <;> omega, fun v hv => by cases hv⟩, ⟨fun v _ => ⟨fun q => (by cases q), fun q => (by cases q)⟩, fun v j _ q => by simp at q⟩, fun k _ q => by simp at q, List.nodup_nil, Nat.le_refl _⟩, HB.out, hs⟩
end Go.Proofs.Ytbaepjjanjhliaa.drt.N
