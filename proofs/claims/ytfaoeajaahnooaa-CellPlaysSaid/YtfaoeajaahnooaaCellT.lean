/- The law CellPlays: its first loop; walked. -/
import Derived.Test.YtfaoeajaahnooaaCellU
import Derived.Test.YtfaoeajaahnooaaOpenCell
import Derived.StillTailTactics
import Derived.Deep.CutBlock
import Derived.BigRegion
namespace Go.Proofs.Ytfaoeajaahnooaa.cel
set_option linter.unusedVariables false
open Go.RowKit Go.WideShapes Go.MapKept
attribute [local go_sem] Oper.semAt_some
attribute [local go_sem high] run_min_keep
def Lp (w : World) (g4 bs bt bw k : Nat) (W : World) : Prop := ∃ S Dt pr es a c, Mp w g4 bs bt bw (3 * k) S Dt pr es a c W ∧ EsOk S es ∧ es.length ≤ k ∧ (0 ≤ S.n ∧ S.n ≤ k)
theorem acs_at0 {w : World} {b off cap n : Nat} {xs : List Ac} {k : Nat} {x : Ac} (hv : Row w (.slice (some ⟨b, off, none⟩) n cap) 4 n (aCells xs)) (hk : k < n) (hx : xs[k]? = some x) (wq : World) (hb : Below w.heap.size w wq) :
    wq.cell? ⟨b, off + k * 4, none⟩ = some (.int .u8 x.k) ∧ wq.cell? ⟨b, off + k * 4 + 1, none⟩ = some (.string x.s) ∧ wq.cell? ⟨b, off + k * 4 + 2, none⟩ = some (.string x.t) ∧ wq.cell? ⟨b, off + k * 4 + 3, none⟩ = some (.int .i64 x.i) ∧ b < wq.heap.size := by
  obtain ⟨b', off', cap', ea, hcell⟩ := (hv.later hb).pos (by omega)
  simp only [Value.slice.injEq, Option.some.injEq, Addr.mk.injEq] at ea
  obtain ⟨⟨rfl, rfl, -⟩, -, rfl⟩ := ea
  obtain ⟨c0, c1, c2, c3⟩ := aCells_at xs k _ hx
  have g0 := (hcell (k * 4) (by omega)).trans c0
  have g1 := (hcell (k * 4 + 1) (by omega)).trans c1
  have g2 := (hcell (k * 4 + 2) (by omega)).trans c2
  have g3 := (hcell (k * 4 + 3) (by omega)).trans c3
  rw [← Nat.add_assoc] at g1 g2 g3
  exact ⟨g0, g1, g2, g3, World.block_lt_of_cell? wq _ g0⟩
theorem infoO : (Try.prog.info? 31).map (fun i => (i.zero, i.size, i.bytes)) = some (some (.agg #[.string ByteArray.empty, .string ByteArray.empty, .slice none 0 0]), 3, 56) := by kernel_rfl
theorem one_eCells (es : List En) (h : ∀ e ∈ es, e.v.oneCell' = true) : ∀ u ∈ eCells es, u.oneCell' = true := by
  intro u hu
  obtain ⟨e, he, hu⟩ := List.mem_flatMap.1 hu
  simp only [List.mem_cons, List.not_mem_nil, or_false] at hu
  rcases hu with rfl | rfl | rfl
  · rfl
  · rfl
  · exact h e he
theorem owns_one {W : World} {B : Nat} {e : TypeId} {sz n : Nat} {v : Value} {xs : List Value} (h : W.ownsRow B e sz v n xs) : v.oneCell' = true := by
  obtain ⟨a, c, rfl⟩ := owns_shape h; rfl
theorem unwatch_n {S : CS} {s : ByteArray} {x : Int} {k : Nat} (h : 0 ≤ S.n ∧ S.n ≤ k) (hl : ((S.wh s).length : Int) ≤ S.n) : 0 ≤ (@ite _ (x ∈ S.wh s) (Classical.propDecidable _) (S.watched s (delI (S.wh s) x) (S.n - 1)) S).n ∧ (@ite _ (x ∈ S.wh s) (Classical.propDecidable _) (S.watched s (delI (S.wh s) x) (S.n - 1)) S).n ≤ ((k + 1 : Nat) : Int) := by
  by_cases hm : x ∈ S.wh s
  · rw [if_pos hm]
    have := List.length_pos_of_mem hm
    show 0 ≤ S.n - 1 ∧ S.n - 1 ≤ _
    omega
  · rw [if_neg hm]; omega
/-- a text cut to five letters -/
theorem cut_facts {s nm : ByteArray} {M : Int} (hM : min (s.size : Int) 5 = M) (hn : s.extract 0 M.toNat = nm) : 0 ≤ M ∧ (nm.size : Int) = M ∧ min (nm.size : Int) 5 = M ∧ M ≤ s.size ∧ M ≤ nm.size ∧ s.extract 0 M.toNat = nm ∧ nm.extract 0 M.toNat = nm := by
  have h1 : (nm.size : Int) = M := by rw [← hn, ByteArray.size_extract]; omega
  refine ⟨by omega, h1, by omega, by omega, by omega, hn, ?_⟩
  rw [show M.toNat = nm.size by omega, ByteArray.extract_zero_size]
/-- two texts that are cut, one after the other, in any order -/
structure TwoF (wr : World) (g6 : Nat) (xk xi : Int) (s1 n1 s2 n2 : ByteArray) (W : World) : Prop where
  go : ∃ a b, (a = s1 ∨ a = n1) ∧ (b = s2 ∨ b = n2) ∧ Flds W g6 TAc [.int .u8 xk, .string a, .string b, .int .i64 xi]
  bel : Below wr.heap.size wr W
section
variable {wr W W' : World} {g6 : Nat} {xk xi : Int} {s1 n1 s2 n2 : ByteArray}
theorem TwoF.start (h : Flds W g6 TAc [.int .u8 xk, .string s1, .string s2, .int .i64 xi]) (hb : Below wr.heap.size wr W) : TwoF wr g6 xk xi s1 n1 s2 n2 W.drew := ⟨⟨s1, s2, .inl rfl, .inl rfl, h⟩, hb.drew⟩
theorem TwoF.cells (h : TwoF wr g6 xk xi s1 n1 s2 n2 W) : ∃ a b, W.cell? ⟨g6, 1, none⟩ = some (.string a) ∧ W.cell? ⟨g6, 2, none⟩ = some (.string b) ∧ g6 < W.heap.size ∧ (a = s1 ∨ a = n1) ∧ (b = s2 ∨ b = n2) := by
  obtain ⟨⟨a, b, ha, hb, hf⟩, -⟩ := h
  exact ⟨a, b, hf.cell 1, hf.cell 2, hf.lt, ha, hb⟩
theorem TwoF.froz (h : TwoF wr g6 xk xi s1 n1 s2 n2 W) (i : Nat) : W.frozen? ⟨g6, i, none⟩ = false := by
  obtain ⟨⟨a, b, ha, hb, hf⟩, -⟩ := h
  exact hf.frozen i
theorem TwoF.set1 (h : TwoF wr g6 xk xi s1 n1 s2 n2 W) : (W.setCell ⟨g6, 1, none⟩ (.string n1)).cell? ⟨g6, 1, none⟩ = some (.string n1) := by
  obtain ⟨⟨a, b, ha, hb, hf⟩, -⟩ := h
  exact (hf.set 1 (.string n1)).cell 1
theorem TwoF.set2 (h : TwoF wr g6 xk xi s1 n1 s2 n2 W) : (W.setCell ⟨g6, 2, none⟩ (.string n2)).cell? ⟨g6, 2, none⟩ = some (.string n2) := by
  obtain ⟨⟨a, b, ha, hb, hf⟩, -⟩ := h
  exact (hf.set 2 (.string n2)).cell 2
theorem TwoF.st1 {u : Value} (h : W.cell? ⟨g6, 1, none⟩ = some u) {x : Value} (ht : W' = W.setCell ⟨g6, 2, none⟩ x) : W'.cell? ⟨g6, 1, none⟩ = some u := by
  rw [ht]; exact (World.cell?_setCell_other _ _ _ _ (by simp)).trans h
theorem TwoF.st2 {u : Value} (h : W.cell? ⟨g6, 2, none⟩ = some u) {x : Value} (ht : W' = W.setCell ⟨g6, 1, none⟩ x) : W'.cell? ⟨g6, 2, none⟩ = some u := by
  rw [ht]; exact (World.cell?_setCell_other _ _ _ _ (by simp)).trans h
theorem TwoF.fin (h : TwoF wr g6 xk xi s1 n1 s2 n2 W) (h1 : W.cell? ⟨g6, 1, none⟩ = some (.string n1)) (h2 : W.cell? ⟨g6, 2, none⟩ = some (.string n2)) : Flds W g6 TAc [.int .u8 xk, .string n1, .string n2, .int .i64 xi] := by
  obtain ⟨⟨a, b, ha, hb, hf⟩, -⟩ := h
  have e1 := (hf.cell 1).symm.trans h1
  have e2 := (hf.cell 2).symm.trans h2
  simp at e1 e2
  subst e1; subst e2
  exact hf
theorem TwoF.k1 (hz : g6 = wr.heap.size) (h : TwoF wr g6 xk xi s1 n1 s2 n2 W) (ht : W' = W.setCell ⟨g6, 1, none⟩ (.string n1)) : TwoF wr g6 xk xi s1 n1 s2 n2 W' := by
  obtain ⟨⟨a, b, ha, hb, hf⟩, hbl⟩ := h
  rw [ht]
  exact ⟨⟨n1, b, .inr rfl, hb, hf.set 1 (.string n1)⟩, hbl.setCell (by show wr.heap.size ≤ g6; omega) _⟩
theorem TwoF.k2 (hz : g6 = wr.heap.size) (h : TwoF wr g6 xk xi s1 n1 s2 n2 W) (ht : W' = W.setCell ⟨g6, 2, none⟩ (.string n2)) : TwoF wr g6 xk xi s1 n1 s2 n2 W' := by
  obtain ⟨⟨a, b, ha, hb, hf⟩, hbl⟩ := h
  rw [ht]
  exact ⟨⟨a, n2, ha, .inr rfl, hf.set 2 (.string n2)⟩, hbl.setCell (by show wr.heap.size ≤ g6; omega) _⟩
end
set_option maxRecDepth 100000 in
set_option maxHeartbeats 4000000 in
theorem plays_walk (v : Value) (xs : List Ac) (hl : xs.length ≤ 9223372036854775807) (hpb : ∀ x ∈ xs, AB x) (w : World) (hv : Row w v 4 xs.length (aCells xs)) :
    Calls Try.prog 3 #[v] w fun e w' => e = .returned (.bool true) ∧ Below w.heap.size w w' := by
  have HV := Lib.hid hv
  have HPB := Lib.hid hpb
  obtain ⟨a, cap, rfl, -⟩ := hv
  obtain ⟨n, hn⟩ : ∃ n, xs.length = n := ⟨_, rfl⟩
  rw [hn] at hl HV ⊢
  have HNN := Lib.hid hn
  have hn0 : (0 : Int) ≤ (n : Int) := by omega
  have hn1 : (n : Int) ≤ 9223372036854775807 := by omega
  clear hpb hn
  refine callsIn_wide.1 (callsIn_of_wp_marks (n := 3) Try.func3 rfl trivial (wpIn_wide.2 ?_) rfl)
  simp only [Try.ntmps3, List.size_toArray, List.length_cons, List.length_nil, Nat.reduceAdd, Nat.reduceSub, Array.replicate_succ, Array.replicate_zero, List.push_toArray, List.append_toArray, List.nil_append, List.cons_append]
  go_upto_region 3 with (go_at_call 5; refine (speaks_any _).mono ?_; rintro e w1 ⟨rfl, b1⟩; have HB1 := Lib.hid b1; clear b1)
  go_upto_region 5 with (go_at_call 6; refine (new_any _).mono ?_; rintro e w2 ⟨bs, bt, bw, rfl, h2, b2⟩; have HC2 := Lib.hid h2; have HB2 := Lib.hid b2; clear h2 b2)
  have HLP : Hid (Lp w w2.heap.size bs bt bw 0 (w2.alloc (.cells #[.slice none 0 0] TOs))) := Lib.hid (by
    have z1 : w.heap.size + 1 ≤ w1.heap.size := by have := HB1.out.size; rw [World.size_alloc] at this; exact this
    have z2 := HB2.out.size
    have f0 := Flds.new w TB [.bool false]
    have f2 := (f0.later HB1.out).later HB2.out
    have b0 : Below w.heap.size w w2 := (((Below.refl w.heap.size w).alloc (Nat.le_refl _) (.cells #[.bool false] TB)).trans (HB1.out.mono (by rw [World.size_alloc]; omega))).trans (HB2.out.mono (by omega))
    refine ⟨CS.no, .map [], fun j => j ≤ w.heap.size ∨ j = w2.heap.size, [], none, 0, ⟨⟨_, 0, _, _, HC2.out.later (below_alloc1' w2 _), Nat.le_refl _, fun j hj hp => (by omega), fun j hj => (by rw [World.size_alloc]; omega)⟩, f2.alloc _, Flds.new w2 TOs [.slice none 0 0], fun j hj => hj, World.ownsRow_nil _ _ _ _, fun b hb => (by cases hb), (by simp), b0.alloc (by omega) _, by omega⟩, EsOk.no, Nat.le_refl _, ⟨Int.le_refl _, Int.le_refl _⟩⟩)
  have HB0 : Hid (w.heap.size < w2.heap.size) := Lib.hid (by
    obtain ⟨_, _, _, _, _, _, h, -⟩ := HLP.out
    exact h.lt4)
  have HZ0 : Hid (w2.heap.size < (w2.alloc (.cells #[.slice none 0 0] TOs)).heap.size) := Lib.hid (by rw [World.size_alloc]; omega)
  clear HC2 HB2 HB1
  generalize w2.alloc (.cells #[.slice none 0 0] TOs) = W0 at *
  generalize w2.heap.size = g4 at *
  go_upto_block 0 with fail
  go_cut [5] from 6 to 199 (fun i wx => Hid (∃ k : Nat, k ≤ 60 ∧ Lp w g4 bs bt bw k wx))
  case rest =>
   generalize wc = wa at *
   obtain ⟨k, hk60, S, Dt, pr, es, am, cm, hM, hE, hes, hSn⟩ := hcut.out
   obtain ⟨N, hN⟩ : ∃ N, es.length = N := ⟨_, rfl⟩
   have HNE := Lib.hid hN
   have HE := Lib.hid hE
   have HSN := Lib.hid hSn
   have hN60 : N ≤ 60 := by omega
   have hNi : (N : Int) ≤ 60 := by omega
   have hNn : (0 : Int) ≤ (N : Int) := by omega
   obtain ⟨g14, hg14⟩ : ∃ g14, wa.heap.size = g14 := ⟨_, rfl⟩
   have HZ : Hid (w.heap.size < g14 ∧ g4 < g14 ∧ (∀ b, (Value.slice am es.length cm).ownBlock = some b → b < g14) ∧ ∀ e ∈ es, ∀ b, e.v.ownBlock = some b → b < g14) := Lib.hid (by
     rw [← hg14]
     exact ⟨hM.f2.lt, hM.f4.lt, fun b hb => (hM.row.lt b hb).2, fun e he b hb => ((hM.ws e he).1.lt b hb).2⟩)
   have hf14 := Flds.new wa TI [.int .i64 0]
   have hf16 := Flds.new (wa.alloc (.cells #[.int .i64 0] TI)) TI [.int .i64 0]
   obtain ⟨WB, hWB⟩ : ∃ WB, (wa.alloc (.cells #[.int .i64 0] TI)).alloc (.cells #[.int .i64 0] TI) = WB := ⟨_, rfl⟩
   have hB : Below wa.heap.size wa WB := by rw [← hWB]; exact (below_alloc1' wa _).trans ((below_alloc1' (wa.alloc _) _).mono (by rw [World.size_alloc]; omega))
   have hzB : WB.heap.size = g14 + 2 := by rw [← hWB, World.size_alloc, World.size_alloc, hg14]
   obtain ⟨pr2, hpr2⟩ : ∃ pr2, (fun j => pr j ∨ (wa.heap.size ≤ j ∧ j < WB.heap.size)) = pr2 := ⟨_, rfl⟩
   have hm2 := hM.more hB
   rw [hpr2] at hm2
   have HMB := Lib.hid hm2
   have HP : Hid (pr2 g14 ∧ pr2 (g14 + 1)) := Lib.hid (by rw [← hpr2]; exact ⟨.inr ⟨by omega, by omega⟩, .inr ⟨by omega, by omega⟩⟩)
   rw [hg14] at hf14
   rw [World.size_alloc, hg14] at hf16
   have HF14 : Hid (Flds WB g14 TI [.int .i64 0]) := Lib.hid (by rw [← hWB]; exact hf14.alloc (.cells #[.int .i64 0] TI))
   have HF16 : Hid (Flds WB (g14 + 1) TI [.int .i64 0]) := Lib.hid (by rw [← hWB]; exact hf16)
   have HG := Lib.hid hg14
   have HWB := Lib.hid hWB
   clear hcut hM hE hes hSn hm2 hf14 hf16 hN HLP HZ0 hpr2 hzB hB hWB hg14
   go_upto_region 36 with fail
   rw [HWB.out, HG.out]
   clear HWB
   obtain ⟨g16, hg16⟩ : ∃ g16, g14 + 1 = g16 := ⟨_, rfl⟩
   rw [hg16] at HF16 HP ⊢
   have HG16 := Lib.hid hg16
   clear hg16
   go_upto_block 5 with fail
   go_cut [15, 17] from 200 to 221 (fun v15 _ wx => Hid (v15 = .int .i64 S.n ∧ Mp w g4 bs bt bw (3 * k) S Dt pr2 es am cm wx ∧ Flds wx g14 TI [.int .i64 (nz es : Nat)] ∧ Flds wx g16 TI [.int .i64 0]))
   case first =>
     as_aux_lemma =>
     go_wp2_with fail
     go_loopw [15, 17] (fun v15 i wr => ∃ j : Nat, i = .int .i64 (j : Int) ∧ j ≤ N ∧ v15 = .int .i64 (tot S.wh ((es.take j).map (·.name))) ∧ Hid (Mp w g4 bs bt bw (3 * k) S Dt pr2 es am cm wr ∧ Flds wr g14 TI [.int .i64 (nz (es.take j) : Nat)] ∧ Flds wr g16 TI [.int .i64 0])) (fun _ i _ => N - (intOf i).toNat)
     case atStart => exact ⟨0, rfl, Nat.zero_le _, rfl, Lib.hid ⟨HMB.out, HF14.out, HF16.out⟩⟩
     case round =>
       obtain ⟨j, rfl, hj, rfl, HR⟩ := hrel
       have j0 : (0 : Int) ≤ (j : Int) := by omega
       obtain ⟨hM, h14, h16⟩ := HR.out
       have q4 := hM.f4.cell 0
       have l4 := hM.f4.lt
       have hrow := hM.row
       rw [HNE.out] at q4 hrow
       simp only [List.getElem?_cons_zero] at q4
       by_cases hjn : j < N
       · have dj : (j : Int) < (N : Int) := by omega
         have hjl : j < es.length := by have := HNE.out; omega
         have hu := List.getElem?_eq_getElem hjl
         generalize es[j] = e at hu
         obtain ⟨gm, rfl, hg1, hg2, hc, -⟩ := owns_cellAt hrow (by omega)
         have c1 := (hc (j * 3 + 1) (by omega)).trans (eCells_at es j e hu).2.1
         have c2 := (hc (j * 3 + 2) (by omega)).trans (eCells_at es j e hu).2.2
         have hws := hM.ws e (List.mem_of_getElem? hu)
         obtain ⟨av, cv, hev⟩ := owns_shape hws.1
         rw [hev] at c2
         have q14 := h14.cell 0
         have p14 := h14.frozen 0
         have l14 := h14.lt
         simp only [List.getElem?_cons_zero] at q14
         have HST := Lib.hid (tot_step S.wh hu)
         have HNZ := Lib.hid (nz_step hu)
         have hek := HE.out.ok e (List.mem_of_getElem? hu)
         obtain ⟨T, hT⟩ : ∃ T, tot S.wh ((es.take j).map (·.name)) = T := ⟨_, rfl⟩
         have hTb : T + (e.l.length : Int) ≤ 60 := by
           have h1 := tot_take_le S.wh (es.map (·.name)) (j + 1)
           rw [← List.map_take] at h1
           have h2 := HE.out.inv.n
           have h3 := HST.out
           rw [← hek.2.2, hT] at h3
           have h4 := HSN.out
           omega
         have hT0 : 0 ≤ T := by rw [← hT]; exact tot_nonneg _ _
         have hl0 : (0 : Int) ≤ (e.l.length : Int) := by omega
         obtain ⟨Z, hZ⟩ : ∃ Z, nz (es.take j) = Z := ⟨_, rfl⟩
         have hZb : Z ≤ 60 := by rw [← hZ]; have := nz_le (es.take j); rw [List.length_take] at this; omega
         rw [hZ] at q14 h14
         have z0 : (0 : Int) ≤ (Z : Int) := by omega
         have z1 : (Z : Int) ≤ 60 := by omega
         have HTS : Hid (tot S.wh ((es.take (j + 1)).map (·.name)) = T + (e.l.length : Int)) := Lib.hid (by rw [HST.out, hT, ← hek.2.2])
         have HZN : Hid (nz (es.take (j + 1)) = Z + (if hasT e = true then 1 else 0)) := Lib.hid (by rw [HNZ.out, hZ])
         rw [hT]
         have HM := Lib.hid hM; have H14 := Lib.hid h14; have H16 := Lib.hid h16
         clear hM h14 h16 hrow hc hu hws hev hT hZ hek hg1 hjl
         by_cases hte : e.text = ByteArray.empty
         · have hb : e.text.toList.isEmpty = true := by rw [hte, Lib.toList_data]; rfl
           have HTN := Lib.hid (hasT_no hte)
           clear hte
           go_wp2_with fail
           go_roundw
           case rel => exact ⟨j + 1, by go_num, by omega, by rw [HTS.out], Lib.hid ⟨HM.out, by rw [HZN.out, HTN.out]; exact H14.out, H16.out⟩⟩
           case measure => simp [intOf]; omega
         · have hb : e.text.toList.isEmpty = false := em_no hte
           have HTN := Lib.hid (hasT_yes hte)
           clear hte
           go_wp2_with fail
           go_roundw
           case rel => exact ⟨j + 1, by go_num, by omega, by rw [HTS.out], Lib.hid ⟨HM.out.aside (r := g14) (grown_setCell _ ⟨g14, 0, none⟩ _) HP.out.1 HZ.out.1 (by have := HZ.out.2.1; omega) (fun h => by have := HZ.out.2.2.1 _ h; omega) (fun e he h => by have := HZ.out.2.2.2 e he _ h; omega), by rw [HZN.out, HTN.out]; exact H14.out.set 0 _, H16.out.other _ _ (by show g16 ≠ g14; have := HG16.out; omega)⟩⟩
           case measure => simp [intOf]; omega
       · have dj : ¬ (j : Int) < (N : Int) := by omega
         have hjN : j = N := by omega
         have HT : Hid (es.take j = es) := Lib.hid (List.take_of_length_le (by have := HNE.out; omega))
         rw [HT.out] at h14 ⊢
         have HTN : Hid (tot S.wh (es.map (·.name)) = S.n) := Lib.hid HE.out.inv.n.symm
         rw [HTN.out]
         have HM := Lib.hid hM; have H14 := Lib.hid h14; have H16 := Lib.hid h16
         clear hM h14 h16 hrow
         go_wp2_with fail
         go_meet
         exact Lib.hid ⟨rfl, HM.out, H14.out, H16.out⟩
   case rest =>
     generalize wc = WC at *
     obtain ⟨rfl, hM, h14, h16⟩ := hcut.out
     obtain ⟨own, m, Dw, bk, hC, hm, ho, hpl⟩ := hM.cx
     obtain ⟨g0, hg0⟩ : ∃ g0, WC.heap.size = g0 := ⟨_, rfl⟩
     obtain ⟨WD, hWD⟩ : ∃ WD, WC.alloc (.cells #[.pointer (some ⟨bs, 0, none⟩)] 24) = WD := ⟨_, rfl⟩
     have hbD : Below WC.heap.size WC WD := by rw [← hWD]; exact below_alloc1' _ _
     have hfD : Flds WD g0 24 [.pointer (some ⟨bs, 0, none⟩)] := by rw [← hWD, ← hg0]; exact Flds.new WC _ _
     have hzD : WD.heap.size = g0 + 1 := by rw [← hWD, World.size_alloc, hg0]
     have hCs := hC.shrink
     rw [hg0] at hCs
     have HLT : Hid (g14 < g0 ∧ g16 < g0 ∧ w.heap.size < g0 ∧ g4 < g0 ∧ (∀ b, (Value.slice am es.length cm).ownBlock = some b → b < g0) ∧ g14 ≠ g16) := Lib.hid (by rw [← hg0]; exact ⟨h14.lt, h16.lt, hM.f2.lt, hM.f4.lt, fun b hb => (hM.row.lt b hb).2, by have := HG16.out; omega⟩)
     have HS14 : Hid (w.heap.size < g14 ∧ g14 ≠ g4 ∧ (∀ b, (Value.slice am es.length cm).ownBlock = some b → b ≠ g14) ∧ ¬ (fun j => own j ∧ j < g0) g14) := Lib.hid ⟨HZ.out.1, by have := HZ.out.2.1; omega, fun b hb => by have := HZ.out.2.2.1 b hb; omega, fun h => ho _ h.1 HP.out.1⟩
     have HS16 : Hid (w.heap.size < g16 ∧ g16 ≠ g4 ∧ (∀ b, (Value.slice am es.length cm).ownBlock = some b → b ≠ g16) ∧ ¬ (fun j => own j ∧ j < g0) g16) := Lib.hid ⟨by have := HZ.out.1; have := HG16.out; omega, by have := HZ.out.2.1; have := HG16.out; omega, fun b hb => by have := HZ.out.2.2.1 b hb; have := HG16.out; omega, fun h => ho _ h.1 HP.out.2⟩
     have HRQ : Hid (Rq w g4 g14 g16 bs m (fun j => own j ∧ j < g0) S bt bw Dt Dw bk es am cm 0 0 WD) := Lib.hid ⟨Nat.zero_le _, rfl, h16.later hbD, by simpa using h14.later hbD, hM.f2.later hbD, hM.f4.later hbD, owns_below hM.row hbD, hCs.later hbD, hM.bel.trans (hbD.mono hM.bel.size)⟩
     have HTE := Lib.hid (hC.told_es HE.out)
     obtain ⟨ks, hks⟩ : ∃ ks, (strKeys Dt).mergeSort leB = ks := ⟨_, rfl⟩
     rw [hks] at HTE
     have HKS := Lib.hid hks
     have HKN : Hid (ks.length = nz es) := Lib.hid (by rw [HTE.out, List.length_map]; rfl)
     have HNZ : Hid (nz es ≤ 60) := Lib.hid (by have := nz_le es; have := HNE.out; omega)
     have HMM := Lib.hid hm
     have HZD := Lib.hid hzD
     have q3 := hfD.cell 0
     simp only [List.getElem?_cons_zero] at q3
     have HWD := Lib.hid hWD
     have HG0 := Lib.hid hg0
     clear hcut hM h14 h16 hC hm ho hpl hbD hfD hzD hCs hks hWD hg0
     go_wp2_with (go_at_call 15; refine (all_any (some ⟨bs, 0, none⟩) WC).mono ?_; rintro e wz ⟨rfl, rfl⟩; (rw [HWD.out, HG0.out]))
     refine (wpIn_wide (n := 3)).1 ?_
     refine' range_arg rfl (by decide) (gf := 21) (lb := #[.pointer (some ⟨g0, 0, none⟩)]) rfl trivial (enters_of Try.func21 (by kernel_rfl) rfl)
       (all_seq _ (by decide) g0 HRQ.out.cel (by have := HMM.out; omega) ks HKS.out.symm (fun j => j = g14 ∨ j = g16) (fun j hj => by
         have h1 := HLT.out.1; have h2 := HLT.out.2.1
         rw [HZD.out]
         rcases hj with rfl | rfl
         · exact ⟨by omega, HS14.out.2.2.2, by omega⟩
         · exact ⟨by omega, HS16.out.2.2.2, by omega⟩) q3)
       (fun k W xs l o1 o2 hl h1 h2 _ hA => hA) (fun {A B C} h h' => OnlyX.trans h h') (fun W l o1 o2 hl h1 h2 _ => OnlyX.put W l o1 o2 hl h1 h2) (fun k W xs hA => hA.size)
       (fun kk W => ∃ q, Rq w g4 g14 g16 bs m (fun j => own j ∧ j < g0) S bt bw Dt Dw bk es am cm q kk W) (fun _ _ _ => False) (Rq.own' (by rw [HZD.out]; have := HLT.out.2.1; omega) (by rw [HZD.out]; have := HLT.out.1; omega) (by rw [HZD.out]; have := HLT.out.2.2.1; omega) (by rw [HZD.out]; have := HLT.out.2.2.2.1; omega) (fun b hb => by rw [HZD.out]; have := HLT.out.2.2.2.2.1 b hb; omega) (fun j hj => by rw [HZD.out]; have := hj.2; omega)) (fun _ _ _ _ _ hs _ _ => hs)
       ⟨0, HRQ.out⟩ _ ?assign ?body ?done ?stop
     case stop =>
       rintro D c k W _ _ h _
       exact h.elim
     case assign =>
       rintro l k W xs K hk hI hA hK
       have hx : xs = #[xs.getD 0 undef, xs.getD 1 undef] := by
         obtain ⟨x, -, rfl⟩ := hA
         rfl
       rw [hx]
       clear hk hI hA hx
       gi_wp2
       exact hK
     case body =>
       as_aux_lemma =>
       rintro l kk W xs hk ⟨q0, hI⟩ ⟨x, hx, rfl⟩
       rw [show (#[encStr x, Value.string (S.tx ⟨x.toArray⟩)] : Array Value)[0]?.getD undef = .string ⟨x.toArray⟩ from rfl, show (#[encStr x, Value.string (S.tx ⟨x.toArray⟩)] : Array Value)[1]?.getD undef = .string (S.tx ⟨x.toArray⟩) from rfl]
       obtain ⟨e0, he0, hxn⟩ : ∃ e0, (es.filter hasT)[kk]? = some e0 ∧ (⟨x.toArray⟩ : ByteArray) = e0.name := by
         rw [HTE.out, List.getElem?_map] at hx
         cases hf : (es.filter hasT)[kk]? with
         | none => rw [hf] at hx; cases hx
         | some e0 =>
           rw [hf] at hx
           simp only [Option.map_some, Option.some.injEq] at hx
           exact ⟨e0, rfl, by rw [← hx]⟩
       have hmem := (List.mem_filter.1 (List.mem_of_getElem? he0)).1
       have htx := (HE.out.ok e0 hmem).2.1
       rw [hxn, ← htx]
       have HE0 := Lib.hid he0
       have hkz : kk < nz es := by rw [← HKN.out]; exact hk
       have HI := Lib.hid hI
       have hk60 : kk ≤ 60 := by have := HNZ.out; omega
       clear hx hxn hmem htx hI he0 hk
       gi_wp2
       gi_loopw [226] (fun _ wr => ∃ q, Hid (Rq w g4 g14 g16 bs m (fun j => own j ∧ j < g0) S bt bw Dt Dw bk es am cm q kk wr) ∧ Hid (KeepsFrom WD.heap.size W wr) ∧ Hid (OnlyX WD.heap.size (fun j => j = g14 ∨ j = g16) W wr)) (fun _ wr => es.length - qOf g16 wr)
       case atStart => exact ⟨q0, HI, Lib.hid (KeepsFrom.refl _ _), Lib.hid (OnlyX.refl _ _ _)⟩
       case round =>
         obtain ⟨q, HQ, HKF, HOX⟩ := hrel
         have hQ := HQ.out
         have qn0 : (0 : Int) ≤ (q : Int) := by omega
         have hat := hQ.at
         have q16 := hQ.f16.cell 0
         have p16 := hQ.f16.frozen 0
         have l16 := hQ.f16.lt
         have q14 := hQ.f14.cell 0
         have p14 := hQ.f14.frozen 0
         have l14 := hQ.f14.lt
         have q4 := hQ.f4.cell 0
         have l4 := hQ.f4.lt
         have hrow := hQ.row
         rw [HNE.out] at q4 hrow
         simp only [List.getElem?_cons_zero] at q16 q14 q4
         have hqN : q < N := by
           false_or_by_contra
           rename_i h
           have hql := hQ.qle
           have hnz := hQ.nzq
           rw [List.take_of_length_le (by have := HNE.out; omega)] at hnz
           omega
         have dq : (q : Int) < (N : Int) := by omega
         have hql : q < es.length := by have := HNE.out; omega
         have hu := List.getElem?_eq_getElem hql
         generalize es[q] = e at hu
         obtain ⟨gm, rfl, hg1, hg2, hc, -⟩ := owns_cellAt hrow (by omega)
         have c0 := (hc (q * 3) (by omega)).trans (eCells_at es q e hu).1
         have c1 := (hc (q * 3 + 1) (by omega)).trans (eCells_at es q e hu).2.1
         have HST := Lib.hid (nz_step hu)
         have HU := Lib.hid hu
         have HNQ := Lib.hid hQ.nzq
         clear hQ hc hu hrow hg1
         by_cases hte : e.text = ByteArray.empty
         · have hb : e.text.toList.isEmpty = true := by rw [hte, Lib.toList_data]; rfl
           have HTN := Lib.hid (hasT_no hte)
           have HAT := Lib.hid hat
           clear hte hat
           gi_wp2
           go_roundw
           case rel =>
             have e1 : ((q : Int) + 1) = ((q + 1 : Nat) : Int) := by omega
             rw [e1]
             exact ⟨q + 1, Lib.hid (HQ.out.to HLT.out.2.2.2.2.2 HS16.out (by omega) (by rw [HST.out, HTN.out, HNQ.out]; rfl)), Lib.hid (HKF.out.trans (keeps_set HQ.out.f16 _)), Lib.hid (HOX.out.trans (OnlyX.of_only (only_set (P := fun j => j = g14 ∨ j = g16) (.inr rfl) _)))⟩
           case measure =>
             have e1 : ((q : Int) + 1) = ((q + 1 : Nat) : Int) := by omega
             rw [e1, HAT.out, (HQ.out.to HLT.out.2.2.2.2.2 HS16.out (q' := q + 1) (by omega) (by rw [HST.out, HTN.out, HNQ.out]; rfl)).at]
             omega
         · have hb : e.text.toList.isEmpty = false := em_no hte
           have HTN := Lib.hid (hasT_yes hte)
           have hee : e = e0 := by
             have := nz_at HU.out HTN.out
             rw [HNQ.out, HE0.out] at this
             exact (Option.some.inj this).symm
           subst hee
           have b1 : (e.name.toList == e.name.toList) = true := by simp
           have b2 : (e.text.toList == e.text.toList) = true := by simp
           have dq2 : ¬ (N : Int) ≤ (q : Int) := by omega
           have hz0 : (0 : Int) ≤ (nz es : Int) := by omega
           have hz1 : (nz es : Int) ≤ 60 := by have := HNZ.out; omega
           have hk0 : (0 : Int) ≤ (kk : Int) := by omega
           obtain ⟨Z, hZ⟩ : ∃ Z, (nz es : Int) - (kk : Int) = Z := ⟨_, rfl⟩
           rw [hZ] at q14
           have z0 : 1 ≤ Z ∧ Z ≤ 60 := by omega
           obtain ⟨z1, z2⟩ := z0
           have HZZ := Lib.hid hZ
           have hne1 : g14 ≠ g16 := HLT.out.2.2.2.2.2
           have hne2 : g16 ≠ g14 := fun h => hne1 h.symm
           clear hte hat hZ
           gi_wp2
           have e1 : ((q : Int) + 1) = ((q + 1 : Nat) : Int) := by omega
           have e2 : Z - 1 = (nz es : Int) - ((kk + 1 : Nat) : Int) := by have := HZZ.out; omega
           rw [e1, e2]
           have hfin := HQ.out.told HLT.out.2.2.2.2.2 HS16.out HS14.out (by omega) (by rw [HST.out, HTN.out, HNQ.out]; rfl)
           refine ⟨(HKF.out.trans (keeps_set HQ.out.f16 _)).trans (keeps_set (HQ.out.f14.other _ _ hne1) _), (HOX.out.trans (OnlyX.of_only (only_set (P := fun j => j = g14 ∨ j = g16) (.inr rfl) _))).trans (OnlyX.of_only (only_set (P := fun j => j = g14 ∨ j = g16) (.inl rfl) _)), ⟨q + 1, hfin⟩⟩
     case done =>
       as_aux_lemma =>
       rintro D W hD ⟨qe, hI⟩ hK
       rw [HKN.out] at hI
       have HI := Lib.hid hI
       have HK := Lib.hid hK
       have HDD := Lib.hid hD
       have lW := hI.f2.lt
       obtain ⟨g5, hg5⟩ : ∃ g5, W.heap.size = g5 := ⟨_, rfl⟩
       obtain ⟨WE, hWE⟩ : ∃ WE, W.alloc (.cells #[.pointer none] 24) = WE := ⟨_, rfl⟩
       have hbE : Below W.heap.size W WE := by rw [← hWE]; exact below_alloc1' _ _
       have hfE : Flds WE g5 24 [.pointer none] := by rw [← hWE, ← hg5]; exact Flds.new W _ _
       have hzE : WE.heap.size = g5 + 1 := by rw [← hWE, World.size_alloc, hg5]
       have q5 := hfE.cell 0
       simp only [List.getElem?_cons_zero] at q5
       have HBE := Lib.hid hbE
       have HWE := Lib.hid hWE
       have HG5 := Lib.hid hg5
       have HZE := Lib.hid hzE
       clear hI hK hD hbE hfE hzE hWE hg5
       go_wp2_with (go_at_call 15; refine (all_any none W).mono ?_; rintro e wz ⟨rfl, rfl⟩; (rw [HWE.out, HG5.out]))
       refine (wpIn_wide (n := 3)).1 ?_
       refine' range_arg rfl (by decide) (gf := 21) (lb := #[.pointer (some ⟨g5, 0, none⟩)]) rfl trivial (enters_of Try.func21 (by kernel_rfl) rfl)
         (all_seq_nil _ (by decide) g5 WE q5 (fun _ _ _ => False) (fun _ _ => True))
         (fun k W xs l o1 o2 hl h1 h2 _ hA => hA) (fun {A B C} h h' => trivial) (fun W l o1 o2 hl h1 h2 _ => trivial) (fun k W xs h => h.elim)
         (fun _ W2 => Below WE.heap.size WE W2) (fun _ _ _ => False) (fun s A Z row h hg hr => h.grown hg h.size (fun j e => (hr j e).1)) (fun _ _ _ _ _ hs _ _ => hs)
         (Below.refl _ _) (fun _ _ => { tmps := #[], defers := [] }) (fun l k W xs K hk => absurd hk (by omega)) (fun l k W xs hk => absurd hk (by omega)) ?done2 (fun D c k W _ _ h _ => h.elim)
       case done2 =>
         as_aux_lemma =>
         rintro D2 W2 hD2 hb2 hK2
         have hBW : Below W.heap.size W W2 := HBE.out.trans (hb2.mono HBE.out.size)
         have h14 := HI.out.f14.later hBW
         have h2 := HI.out.f2.later hBW
         rw [show (nz es : Int) - ((nz es : Nat) : Int) = 0 by omega] at h14
         have HWT := Lib.hid (watches_any (HI.out.cel.later hBW))
         have HBL : Hid (Below w.heap.size w W2) := Lib.hid (HI.out.bel.trans (hBW.mono HI.out.bel.size))
         have hDW : D < W.heap.size := (Array.getElem?_eq_some_iff.1 HK.out).1
         have hK1 : W2.heap[D]? = some (.deferred (some [])) := (hBW.block D hDW).trans HK.out
         have HKK : Hid (D ≠ D2 ∧ W2.heap[D]? = some (.deferred (some [])) ∧ W2.heap[D2]? = some (.deferred (some [])) ∧ w.heap.size < D ∧ w.heap.size < D2 ∧ g14 < W2.heap.size) := Lib.hid ⟨by have := HZE.out; have := HG5.out; omega, hK1, hK2, by have := HDD.out; have := HZD.out; have := HLT.out.2.2.1; omega, by have := HZE.out; have := HG5.out; omega, h14.lt⟩
         have q14 := h14.cell 0
         have l14 := h14.lt
         have q2 := h2.cell 0
         have p2 := h2.frozen 0
         have l2 := h2.lt
         have HF2 := Lib.hid h2
         simp only [List.getElem?_cons_zero] at q14 q2
         have bS : (S.n == S.n) = true := by simp
         clear h14 h2 hBW hK1 hb2 hD2 hK2 hDW
         go_wp2_with (first
           | (go_at_call 16; first | (with_reducible refine HWT.out.mono ?_; rintro e w' ⟨rfl, rfl⟩) | (with_reducible refine (watches_none _).mono ?_; rintro e w' ⟨rfl, rfl⟩))
           | (go_at_call 13; refine (get_none _ _).mono ?_; rintro e w' ⟨rfl, rfl⟩)
           | (go_at_call 11; refine (set_none _ _ _).mono ?_; rintro e w' ⟨rfl, rfl⟩)
           | (go_at_call 8; refine (watch_none _ _ _).mono ?_; rintro e w' ⟨rfl, rfl⟩)
           | (go_at_call 10; refine (unwatch_none _ _ _).mono ?_; rintro e w' ⟨rfl, rfl⟩)
           | (go_at_call 14; refine (watched_none _ _).mono ?_; rintro e w' ⟨rfl, rfl⟩)
           | (go_at_call 17; refine (len_none _).mono ?_; rintro e w' ⟨rfl, rfl⟩))
         have g1 := grown_setCell w' ⟨w.heap.size, 0, none⟩ (.bool true)
         obtain ⟨k0, k1, k2, k3, k4, k5⟩ := HKK.out
         have h7 : Flds (w'.setCell ⟨w.heap.size, 0, none⟩ (.bool true)) w.heap.size TB [.bool true] := HF2.out.set 0 _
         have hb7 : Below w.heap.size w (w'.setCell ⟨w.heap.size, 0, none⟩ (.bool true)) := HBL.out.setCell (Nat.le_refl _) _
         have hKA : (w'.setCell ⟨w.heap.size, 0, none⟩ (.bool true)).heap[D2]? = some (.deferred (some [])) := (g1.block D2 (Array.getElem?_eq_some_iff.1 k2).1 (fun e => by simp only [Option.some.injEq] at e; omega)).trans k2
         have hKB : (w'.setCell ⟨w.heap.size, 0, none⟩ (.bool true)).heap[D]? = some (.deferred (some [])) := (g1.block D (Array.getElem?_eq_some_iff.1 k1).1 (fun e => by simp only [Option.some.injEq] at e; omega)).trans k1
         clear q14 l14 q2 p2 l2 g1 k1 k2 k5 bS
         generalize w'.setCell ⟨w.heap.size, 0, none⟩ (.bool true) = W3 at *
         refine ⟨by simp, .inl ⟨_, _, rfl, run_takeDeferred hKA, ?_⟩⟩
         have hKC : (W3.putObj D2 (.deferred none)).heap[D]? = some (.deferred (some [])) := (World.putObj_heap_other k0).trans hKB
         refine ⟨by simp, .inl ⟨_, _, rfl, run_takeDeferred hKC, ?_⟩⟩
         have h8 : Flds ((W3.putObj D2 (.deferred none)).putObj D (.deferred none)) w.heap.size TB [.bool true] := (World.putObj_heap_other (by omega)).trans ((World.putObj_heap_other (by omega)).trans h7)
         have q8 := h8.cell 0
         have l8 := h8.lt
         simp only [List.getElem?_cons_zero] at q8
         have hb8 : Below w.heap.size w ((W3.putObj D2 (.deferred none)).putObj D (.deferred none)) :=
           (hb7.trans (belowK_b (w := w) (Nat.le_refl _) _ D2 _ _ (by omega) hKA rfl rfl)).trans (belowK_b (w := w) (Nat.le_refl _) _ D _ _ (by omega) hKC rfl rfl)
         generalize (W3.putObj D2 (.deferred none)).putObj D (.deferred none) = W4 at *
         refine ⟨.bool true, by simp [results, Try.results3, go_sem, q8], rfl, hb8⟩
  case first =>
   go_wp2_with fail
   go_loopw [5] (fun i wr => ∃ k : Nat, i = .int .i64 (k : Int) ∧ k ≤ n ∧ k ≤ 60 ∧ Hid (Lp w g4 bs bt bw k wr)) (fun i _ => n - (intOf i).toNat)
   case atStart => exact ⟨0, rfl, Nat.zero_le _, Nat.zero_le _, HLP⟩
   case round =>
     obtain ⟨k, rfl, hk, hk60, HK⟩ := hrel
     have hd0 : (0 : Int) ≤ (k : Int) := by omega
     by_cases h1 : k < n
     · have d1 : (k : Int) < (n : Int) := by omega
       by_cases h2 : k < 60
       · have d2 : (k : Int) < 60 := by omega
         obtain ⟨b, off, cap', ea, -⟩ := HV.out.pos (by omega)
         simp only [Value.slice.injEq] at ea
         obtain ⟨rfl, -, rfl⟩ := ea
         have hkx : k < xs.length := by have := HNN.out; omega
         have HAT := Lib.hid (acs_at0 HV.out h1 (List.getElem?_eq_getElem hkx))
         have hpx := HPB.out _ (List.getElem_mem hkx)
         generalize xs[k] = x at *
         obtain ⟨xk, xs0, xt, xi⟩ := x
         obtain ⟨⟨p0, p0'⟩, p1, p2, p3⟩ := hpx
         dsimp only at p0 p0' p1 p2 p3
         obtain ⟨S, Dt, pr, es, am, cm, hM, hE, hes, hSn⟩ := HK.out
         obtain ⟨g0, g1, g2, g3, lb⟩ := HAT.out wr hM.bel
         try dsimp only at g0 g1 g2 g3
         have HM := Lib.hid hM; have HE := Lib.hid hE; have HES := Lib.hid hes; have HSN := Lib.hid hSn
         clear hM hE hes hSn
         go_upto_region 9 with fail
         obtain ⟨W1, hW1⟩ : ∃ W1, wr.alloc (.cells #[.int .u8 xk, .string xs0, .string xt, .int .i64 xi] TAc) = W1 := ⟨_, rfl⟩
         obtain ⟨g6, hg6⟩ : ∃ g6, wr.heap.size = g6 := ⟨_, rfl⟩
         have hF6 : Flds W1 g6 TAc [.int .u8 xk, .string xs0, .string xt, .int .i64 xi] := by rw [← hW1, ← hg6]; exact Flds.new wr TAc _
         have HB1 : Hid (Below wr.heap.size wr W1) := Lib.hid (by rw [← hW1]; exact below_alloc1' wr _)
         have HZ6 : Hid (w.heap.size < g6 ∧ g4 < g6 ∧ g6 = wr.heap.size) := Lib.hid ⟨by rw [← hg6]; exact HM.out.f2.lt, by rw [← hg6]; exact HM.out.f4.lt, hg6.symm⟩
         rw [hW1, hg6]
         clear hW1 hg6 g0 g1 g2 g3 lb
         have HF6 := Lib.hid hF6
         go_cut [] from 38 to 53 (fun wx => Hid (∃ nm tx : ByteArray, nm.size ≤ 5 ∧ tx.size ≤ 5 ∧ Flds wx g6 TAc [.int .u8 xk, .string nm, .string tx, .int .i64 xi] ∧ Below wr.heap.size wr wx))
         case first =>
           as_aux_lemma =>
           obtain ⟨M1, hM1⟩ : ∃ M1, min (xs0.size : Int) 5 = M1 := ⟨_, rfl⟩
           obtain ⟨M2, hM2⟩ : ∃ M2, min (xt.size : Int) 5 = M2 := ⟨_, rfl⟩
           have HM1 := Lib.hid hM1
           have HM2 := Lib.hid hM2
           obtain ⟨nm, hnm⟩ : ∃ nm, xs0.extract 0 M1.toNat = nm := ⟨_, rfl⟩
           obtain ⟨tx, htx⟩ : ∃ tx, xt.extract 0 M2.toNat = tx := ⟨_, rfl⟩
           have HN1 := Lib.hid (cut_facts hM1 hnm)
           have HN2 := Lib.hid (cut_facts hM2 htx)
           clear hF6 hM1 hM2 hnm htx
           have m10 : 0 ≤ M1 := HN1.out.1
           have m20 : 0 ≤ M2 := HN2.out.1
           apply ag.region_ag  (fun W1' => TwoF wr g6 xk xi xs0 nm xt tx W1') (fun _ _ _ _ => True) (ag.Spec.val _ :: ag.Spec.sat (fun v _ => v = .string xs0 ∨ v = .string nm) (fun _ W W' => W' = W) :: ag.Spec.val _ :: ag.Spec.sat (fun v _ => v = .string xs0 ∨ v = .string nm) (fun _ W W' => W' = W) :: ag.Spec.sat (fun v _ => v = .int .i64 xs0.size ∨ v = .int .i64 nm.size) (fun _ W W' => W' = W) :: ag.Spec.val (.int .i64 M1) :: ag.Spec.val (.string nm) :: ag.Spec.val _ :: ag.Spec.sat (fun v _ => v = .string xt ∨ v = .string tx) (fun _ W W' => W' = W) :: ag.Spec.val _ :: ag.Spec.sat (fun v _ => v = .string xt ∨ v = .string tx) (fun _ W W' => W' = W) :: ag.Spec.sat (fun v _ => v = .int .i64 xt.size ∨ v = .int .i64 tx.size) (fun _ W W' => W' = W) :: ag.Spec.val (.int .i64 M2) :: ag.Spec.val (.string tx) :: ag.Spec.val _ :: ag.Spec.sat (fun _ W => W.cell? ⟨g6, 1, none⟩ = some (.string nm)) (fun _ W W' => W' = W.setCell ⟨g6, 1, none⟩ (.string nm)) :: ag.Spec.val _ :: ag.Spec.sat (fun _ W => W.cell? ⟨g6, 2, none⟩ = some (.string tx)) (fun _ W W' => W' = W.setCell ⟨g6, 2, none⟩ (.string tx)) :: [])
           case hm => kernel_rfl
           case hB => kernel_rfl
           case hlen => rfl
           case hS => exact TwoF.start HF6.out HB1.out
           case hst =>
             simp only [ag.Stab, ag.Row2, ag.Ok2, and_true]
             repeat' apply And.intro
             all_goals first
               | exact fun h => absurd rfl h
               | (exact fun _ _ f v W W' _ hv _ ht => hv)
               | (exact fun _ _ f v W W' _ hv _ ht => by rw [ht]; exact hv)
               | (exact fun _ _ f v W W' _ hv _ ht => TwoF.st1 hv ht)
               | (exact fun _ _ f v W W' _ hv _ ht => TwoF.st2 hv ht)
               | trivial
               | exact fun _ h => absurd (h.symm.trans (show _ = true by kernel_rfl)) (by decide)
           case hk =>
             simp only [ag.Keeps, and_true]
             repeat' apply And.intro
             all_goals first
               | (exact fun f W W' hS _ ht => by rw [ht]; exact hS)
               | (exact fun f W W' hS _ ht => TwoF.k1 HZ6.out.2.2 hS ht)
               | (exact fun f W W' hS _ ht => TwoF.k2 HZ6.out.2.2 hS ht)
               | trivial
           apply ag.walk_val
           · rfl
           · intro W1 hS hE
             clear hS hE
             all_goals unfold ag.does
             all_goals go_simp
             all_goals first | done | exact ⟨rfl, rfl⟩ | rfl | (exact ⟨by go_num, rfl⟩) | (simp; done) | trace_state
           simp only [Act.put, List.setIfInBounds_toArray, List.set_cons_zero, List.set_cons_succ]
           refine ag.walk_sat (by rfl) (fun W1 hS hE => ?_) (fun y1 => ?_)
           · obtain ⟨s1, s2, q1, q2, l6, e1, e2⟩ := hS.cells
             clear hS hE
             all_goals unfold ag.does
             all_goals go_simp
             all_goals first | done | (exact ⟨by rcases e1 with rfl | rfl <;> simp, rfl, ag.News.none (fun _ _ => trivial) _ _⟩)
           simp only [Act.put, List.setIfInBounds_toArray, List.set_cons_zero, List.set_cons_succ]
           apply ag.walk_val
           · rfl
           · intro W1 hS hE
             clear hS hE
             all_goals unfold ag.does
             all_goals go_simp
             all_goals first | done | exact ⟨rfl, rfl⟩ | rfl | (exact ⟨by go_num, rfl⟩) | (simp; done) | trace_state
           simp only [Act.put, List.setIfInBounds_toArray, List.set_cons_zero, List.set_cons_succ]
           refine ag.walk_sat (by rfl) (fun W1 hS hE => ?_) (fun y3 => ?_)
           · obtain ⟨s1, s2, q1, q2, l6, e1, e2⟩ := hS.cells
             clear hS hE
             all_goals unfold ag.does
             all_goals go_simp
             all_goals first | done | (exact ⟨by rcases e1 with rfl | rfl <;> simp, rfl, ag.News.none (fun _ _ => trivial) _ _⟩)
           simp only [Act.put, List.setIfInBounds_toArray, List.set_cons_zero, List.set_cons_succ]
           refine ag.walk_sat (by rfl) (fun W1 hS hE => ?_) (fun y4 => ?_)
           · have e3 := hE.of 3 (by kernel_rfl)
             simp only [ag.lookE, if_true, Nat.reduceEqDiff, if_false] at e3
             clear hS hE
             rcases e3 with rfl | rfl
             all_goals unfold ag.does
             all_goals go_simp
             all_goals first | done | (exact ⟨by simp, rfl, ag.News.none (fun _ _ => trivial) _ _⟩)
           simp only [Act.put, List.setIfInBounds_toArray, List.set_cons_zero, List.set_cons_succ]
           apply ag.walk_val
           · rfl
           · intro W1 hS hE
             have e4 := hE.of 4 (by kernel_rfl)
             simp only [ag.lookE, if_true, Nat.reduceEqDiff, if_false] at e4
             have r1 := HM1.out
             have r2 := HN1.out.2.2.1
             rcases e4 with rfl | rfl
             clear hS hE
             all_goals unfold ag.does
             all_goals go_simp
             all_goals first | done | exact ⟨rfl, rfl⟩ | rfl | (exact ⟨by go_num, rfl⟩) | (simp; done) | trace_state
           simp only [Act.put, List.setIfInBounds_toArray, List.set_cons_zero, List.set_cons_succ]
           apply ag.walk_val
           · rfl
           · intro W1 hS hE
             have e1 := hE.of 1 (by kernel_rfl)
             simp only [ag.lookE, if_true, Nat.reduceEqDiff, if_false] at e1
             obtain ⟨z0, z1, z2, z3, z4, z5, z6⟩ := HN1.out
             rcases e1 with rfl | rfl
             clear hS hE
             all_goals unfold ag.does
             all_goals go_simp
             all_goals first | done | exact ⟨rfl, rfl⟩ | rfl | (exact ⟨by go_num, rfl⟩) | (simp; done) | trace_state
           simp only [Act.put, List.setIfInBounds_toArray, List.set_cons_zero, List.set_cons_succ]
           apply ag.walk_val
           · rfl
           · intro W1 hS hE
             clear hS hE
             all_goals unfold ag.does
             all_goals go_simp
             all_goals first | done | exact ⟨rfl, rfl⟩ | rfl | (exact ⟨by go_num, rfl⟩) | (simp; done) | trace_state
           simp only [Act.put, List.setIfInBounds_toArray, List.set_cons_zero, List.set_cons_succ]
           refine ag.walk_sat (by rfl) (fun W1 hS hE => ?_) (fun y8 => ?_)
           · obtain ⟨s1, s2, q1, q2, l6, e1, e2⟩ := hS.cells
             clear hS hE
             all_goals unfold ag.does
             all_goals go_simp
             all_goals first | done | (exact ⟨by rcases e2 with rfl | rfl <;> simp, rfl, ag.News.none (fun _ _ => trivial) _ _⟩)
           simp only [Act.put, List.setIfInBounds_toArray, List.set_cons_zero, List.set_cons_succ]
           apply ag.walk_val
           · rfl
           · intro W1 hS hE
             clear hS hE
             all_goals unfold ag.does
             all_goals go_simp
             all_goals first | done | exact ⟨rfl, rfl⟩ | rfl | (exact ⟨by go_num, rfl⟩) | (simp; done) | trace_state
           simp only [Act.put, List.setIfInBounds_toArray, List.set_cons_zero, List.set_cons_succ]
           refine ag.walk_sat (by rfl) (fun W1 hS hE => ?_) (fun y10 => ?_)
           · obtain ⟨s1, s2, q1, q2, l6, e1, e2⟩ := hS.cells
             clear hS hE
             all_goals unfold ag.does
             all_goals go_simp
             all_goals first | done | (exact ⟨by rcases e2 with rfl | rfl <;> simp, rfl, ag.News.none (fun _ _ => trivial) _ _⟩)
           simp only [Act.put, List.setIfInBounds_toArray, List.set_cons_zero, List.set_cons_succ]
           refine ag.walk_sat (by rfl) (fun W1 hS hE => ?_) (fun y11 => ?_)
           · have e3 := hE.of 10 (by kernel_rfl)
             simp only [ag.lookE, if_true, Nat.reduceEqDiff, if_false] at e3
             clear hS hE
             rcases e3 with rfl | rfl
             all_goals unfold ag.does
             all_goals go_simp
             all_goals first | done | (exact ⟨by simp, rfl, ag.News.none (fun _ _ => trivial) _ _⟩)
           simp only [Act.put, List.setIfInBounds_toArray, List.set_cons_zero, List.set_cons_succ]
           apply ag.walk_val
           · rfl
           · intro W1 hS hE
             have e4 := hE.of 11 (by kernel_rfl)
             simp only [ag.lookE, if_true, Nat.reduceEqDiff, if_false] at e4
             have r1 := HM2.out
             have r2 := HN2.out.2.2.1
             rcases e4 with rfl | rfl
             clear hS hE
             all_goals unfold ag.does
             all_goals go_simp
             all_goals first | done | exact ⟨rfl, rfl⟩ | rfl | (exact ⟨by go_num, rfl⟩) | (simp; done) | trace_state
           simp only [Act.put, List.setIfInBounds_toArray, List.set_cons_zero, List.set_cons_succ]
           apply ag.walk_val
           · rfl
           · intro W1 hS hE
             have e1 := hE.of 8 (by kernel_rfl)
             simp only [ag.lookE, if_true, Nat.reduceEqDiff, if_false] at e1
             obtain ⟨z0, z1, z2, z3, z4, z5, z6⟩ := HN2.out
             rcases e1 with rfl | rfl
             clear hS hE
             all_goals unfold ag.does
             all_goals go_simp
             all_goals first | done | exact ⟨rfl, rfl⟩ | rfl | (exact ⟨by go_num, rfl⟩) | (simp; done) | trace_state
           simp only [Act.put, List.setIfInBounds_toArray, List.set_cons_zero, List.set_cons_succ]
           apply ag.walk_val
           · rfl
           · intro W1 hS hE
             clear hS hE
             all_goals unfold ag.does
             all_goals go_simp
             all_goals first | done | exact ⟨rfl, rfl⟩ | rfl | (exact ⟨by go_num, rfl⟩) | (simp; done) | trace_state
           simp only [Act.put, List.setIfInBounds_toArray, List.set_cons_zero, List.set_cons_succ]
           refine ag.walk_sat (by rfl) (fun W1 hS hE => ?_) (fun y15 => ?_)
           · have hSS := Lib.hid hS
             obtain ⟨s1, s2, q1, q2, l6, e1, e2⟩ := hS.cells
             have p1 := hS.froz 1
             clear hS hE
             all_goals unfold ag.does
             all_goals go_simp
             all_goals first | done | (exact ⟨hSS.out.set1, rfl, ag.News.none (fun _ _ => trivial) _ _⟩)
           simp only [Act.put, List.setIfInBounds_toArray, List.set_cons_zero, List.set_cons_succ]
           apply ag.walk_val
           · rfl
           · intro W1 hS hE
             clear hS hE
             all_goals unfold ag.does
             all_goals go_simp
             all_goals first | done | exact ⟨rfl, rfl⟩ | rfl | (exact ⟨by go_num, rfl⟩) | (simp; done) | trace_state
           simp only [Act.put, List.setIfInBounds_toArray, List.set_cons_zero, List.set_cons_succ]
           refine ag.walk_sat (by rfl) (fun W1 hS hE => ?_) (fun y17 => ?_)
           · have hSS := Lib.hid hS
             obtain ⟨s1, s2, q1, q2, l6, e1, e2⟩ := hS.cells
             have p1 := hS.froz 2
             clear hS hE
             all_goals unfold ag.does
             all_goals go_simp
             all_goals first | done | (exact ⟨hSS.out.set2, rfl, ag.News.none (fun _ _ => trivial) _ _⟩)
           simp only [Act.put, List.setIfInBounds_toArray, List.set_cons_zero, List.set_cons_succ]
           refine ag.walk_nil (fun w9 hS hF hP => ?_)
           clear hP
           have h15 := hF.of 15
           have h17 := hF.of 17
           simp only [ag.lookE, Nat.reduceAdd, Nat.reduceEqDiff, if_false, if_true] at h15 h17
           have HFI := Lib.hid (hS.fin h15 h17)
           have HBE := Lib.hid hS.bel
           clear hF hS h15 h17
           go_wp2_with fail
           go_meet
           exact Lib.hid ⟨nm, tx, by have h1 := HN1.out.2.1; have h2 := HN1.out.2.2.1; omega, by have h1 := HN2.out.2.1; have h2 := HN2.out.2.2.1; omega, HFI.out, HBE.out⟩
         case rest =>
           generalize wc = wa at *
           obtain ⟨nm, tx, hnm, htx, hf6, hba⟩ := hcut.out
           have HF := Lib.hid hf6
           obtain ⟨pr1, hpr1⟩ : ∃ pr1, (fun j => pr j ∨ (wr.heap.size ≤ j ∧ j < wa.heap.size)) = pr1 := ⟨_, rfl⟩
           have hm2 := HM.out.more hba
           rw [hpr1] at hm2
           have HM2 := Lib.hid hm2
           have HP6 : Hid (pr1 g6) := Lib.hid (by rw [← hpr1]; exact .inr ⟨by have := HZ6.out.2.2; omega, hf6.lt⟩)
           clear hm2 hpr1
           have HZA : Hid (g6 < wa.heap.size ∧ wr.heap.size ≤ wa.heap.size) := Lib.hid ⟨hf6.lt, hba.size⟩
           have HSZ : Hid (nm.size ≤ 5 ∧ tx.size ≤ 5) := Lib.hid ⟨hnm, htx⟩
           clear hcut hnm htx hf6 hba HM HF6 HB1 HAT
           generalize xs0 = xs0' at *
           go_upto_block 2 with fail
           go_cut [7] from 54 to 67 (fun i wx => Hid (∃ p : Nat, i = .int .i64 (p : Int) ∧ p ≤ es.length ∧ (∀ e ∈ es.take p, lt e.name nm) ∧ (∀ e, es[p]? = some e → ¬ lt e.name nm) ∧ Below wa.heap.size wa wx))
           case rest =>
             obtain ⟨p, rfl, hp, hlt, hge, hbx⟩ := hcut.out
             generalize wc = wb at *
             have HM3 := Lib.hid (HM2.out.later hbx)
             have HF3 := Lib.hid (HF.out.later hbx)
             have HLT := Lib.hid hlt
             have HGE := Lib.hid hge
             have e0 : (0 : Int) ≤ (p : Int) := by omega
             clear hcut hlt hge hbx HM2 HF
             go_upto_region 13 with fail
             go_cut [83] from 70 to 82 (fun v wx => Hid (∃ B : Bool, v = .bool B ∧ (B = false → ∃ e, es[p]? = some e ∧ e.name = nm) ∧ (B = true → ∀ e, es[p]? = some e → ¬ lt e.name nm ∧ e.name ≠ nm) ∧ Below wb.heap.size wb wx))
             case rest =>
               obtain ⟨B, rfl, hB0, hB1, hbq⟩ := hcut.out
               generalize wc = wq at *
               have HM4 := Lib.hid (HM3.out.later hbq)
               have HF4 := Lib.hid (HF3.out.later hbq)
               have HB0' := Lib.hid hB0
               have HB1' := Lib.hid hB1
               clear hcut hB0 hB1 hbq HM3 HF3
               go_upto_if 83 with fail
               go_cut [] from 84 to 97 (fun wx => Hid (∃ (es' : List En) (a' : Option Addr) (c' : Nat) (e : En) (pr2 : Nat → Prop), Mp w g4 bs bt bw (3 * k) S Dt pr2 es' a' c' wx ∧ EsOk S es' ∧ es'[p]? = some e ∧ e.name = nm ∧ es'.length ≤ k + 1 ∧ pr2 g6 ∧ Flds wx g6 TAc [.int .u8 xk, .string nm, .string tx, .int .i64 xi]))
               case rest =>
                 obtain ⟨es2, a2, c2, e, pr2, hM5, hE5, hep, hen, hl5, hp6, hf5⟩ := hcut.out
                 generalize wc = W5 at *
                 have hpl : p < es2.length := (List.getElem?_eq_some_iff.1 hep).1
                 obtain ⟨gm, rfl, hg1, hg2, hc, -⟩ := owns_cellAt hM5.row (by omega)
                 have c0 := (hc (p * 3) (by omega)).trans (eCells_at es2 p e hep).1
                 have c1 := (hc (p * 3 + 1) (by omega)).trans (eCells_at es2 p e hep).2.1
                 have c2' := (hc (p * 3 + 2) (by omega)).trans (eCells_at es2 p e hep).2.2
                 have hws := hM5.ws e (List.mem_of_getElem? hep)
                 obtain ⟨av, cv, hev⟩ := owns_shape hws.1
                 rw [hev] at c2' hws
                 have HWS := Lib.hid hws
                 have HEV := Lib.hid hev
                 have q4 := hM5.f4.cell 0
                 have l4 := hM5.f4.lt
                 have q6 := hf5.cell 0
                 have l6 := hf5.lt
                 have HM5 := Lib.hid hM5; have HE5 := Lib.hid hE5; have HEP := Lib.hid hep; have HEN := Lib.hid hen; have HL5 := Lib.hid hl5; have HP6' := Lib.hid hp6; have HF5 := Lib.hid hf5
                 obtain ⟨N5, hN5⟩ : ∃ N5, es2.length = N5 := ⟨_, rfl⟩
                 rw [hN5] at q4 hpl hc
                 have HN5 := Lib.hid hN5
                 have dp : (p : Int) < (N5 : Int) := by omega
                 have dn : (N5 : Int) ≤ 61 := by have := HL5.out; omega
                 simp only [List.getElem?_cons_zero, List.getElem?_cons_succ] at q4 q6
                 clear hws hev hM5 hE5 hep hen hl5 hp6 hf5 hc hcut hN5 HM4 HF4 HB0' HB1' HE HES HP6 hg1
                 go_upto_block 4 with fail
                 obtain ⟨W6, hW6⟩ : ∃ W6, W5.alloc (.cells #[.string e.name, .string e.text, .slice av e.l.length cv] TO) = W6 := ⟨_, rfl⟩
                 obtain ⟨g8, hg8⟩ : ∃ g8, W5.heap.size = g8 := ⟨_, rfl⟩
                 have hF8 : Flds W6 g8 TO [.string e.name, .string e.text, .slice av e.l.length cv] := by rw [← hW6, ← hg8]; exact Flds.new W5 TO _
                 have hb6 : Below W5.heap.size W5 W6 := by rw [← hW6]; exact below_alloc1' W5 _
                 have HZ8 : Hid (g6 < g8 ∧ g8 = W5.heap.size ∧ W6.heap.size = g8 + 1) := Lib.hid ⟨by rw [← hg8]; exact HF5.out.lt, hg8.symm, by rw [← hW6, World.size_alloc, hg8]⟩
                 obtain ⟨pr3, hpr3⟩ : ∃ pr3, (fun j => pr2 j ∨ (W5.heap.size ≤ j ∧ j < W6.heap.size)) = pr3 := ⟨_, rfl⟩
                 have hm6 := HM5.out.more hb6
                 rw [hpr3] at hm6
                 have HM6 := Lib.hid hm6
                 have HP3 : Hid (pr3 g6 ∧ pr3 g8 ∧ ∀ b, e.v.ownBlock = some b → pr3 b) := Lib.hid (by
                   rw [← hpr3]
                   refine ⟨.inl HP6'.out, .inr ⟨by omega, ?_⟩, fun b hb => .inl (HWS.out.2 b (by rw [← HEV.out]; exact hb))⟩
                   have := HZ8.out; omega)
                 have HF6 := Lib.hid (HF5.out.later hb6)
                 have HF8 := Lib.hid hF8
                 have HW6 := Lib.hid (owns_below HWS.out.1 hb6)
                 have HEK := Lib.hid (HE5.out.ok e (List.mem_of_getElem? HEP.out))
                 rw [hW6, hg8]
                 clear hW6 hg8 hF8 hb6 hm6 hpr3 q4 q6 l4 l6 c0 c1 c2' HWS HM5 HF5 HP6'
                 go_cut [9, 10, 11, 12, 13] from 102 to 178 (fun _ _ _ _ _ wx => Hid (Dn w g4 bs bt bw (3 * (k + 1)) (k + 1) es2 (some ⟨gm, 0, none⟩) c2 p g6 g8 nm tx xk xi wx))
                 case rest =>
                   as_aux_lemma =>
                   obtain ⟨⟨S', Dt', pr5, e', hM, hE, hen', h8, hv, p6, p8, hn⟩, h6⟩ := hcut.out
                   generalize wc = W9 at *
                   subst hen'
                   obtain ⟨av9, cv9, hev9⟩ := owns_shape hv.1
                   obtain ⟨gq, eg, hfz, hT⟩ := hM.turn (by have := HN5.out; omega : p < es2.length) e' hv
                   simp only [Option.some.injEq, Addr.mk.injEq, and_true] at eg
                   subst eg
                   have hgl : gm < W9.heap.size := (hM.row.lt gm rfl).2
                   obtain ⟨gy, ey, -, -, hcy, -⟩ := owns_cellAt hM.row (by have := HN5.out; omega)
                   simp only [Option.some.injEq, Addr.mk.injEq, and_true] at ey
                   subst ey
                   have hpl2 : p < es2.length := by have := HN5.out; omega
                   have c0 := (hcy (p * 3) (by omega)).trans (eCells_at es2 p e HEP.out).1
                   have c1 := (hcy (p * 3 + 1) (by omega)).trans (eCells_at es2 p e HEP.out).2.1
                   have c2' := (hcy (p * 3 + 2) (by omega)).trans (eCells_at es2 p e HEP.out).2.2
                   clear hcy
                   have q4 := hM.f4.cell 0
                   have l4 := hM.f4.lt
                   rw [HN5.out] at q4
                   have q80 := h8.cell 0
                   have q81 := h8.cell 1
                   have q82 := h8.cell 2
                   have l8 := h8.lt
                   rw [hev9] at q82 hT
                   simp only [List.getElem?_cons_zero, List.getElem?_cons_succ] at q4 q80 q81 q82
                   have f0 := hfz (p * 3)
                   have f1 := hfz (p * 3 + 1)
                   have f2 := hfz (p * 3 + 2)
                   have hz8 := HZ8.out
                   have hz6 := HZ6.out
                   have hg8 : gm ≠ g8 := by omega
                   have HT := Lib.hid hT
                   have HE9 := Lib.hid hE
                   have HV9 := Lib.hid hv
                   have HH8 : Hid (Flds (((W9.setCell ⟨gm, p * 3, none⟩ (.string e'.name)).setCell ⟨gm, p * 3 + 1, none⟩ (.string e'.text)).setCell ⟨gm, p * 3 + 2, none⟩ (.slice av9 e'.l.length cv9)) g8 TO [.string e'.name, .string e'.text, .slice av9 e'.l.length cv9]) := Lib.hid (by
                     rw [← hev9]
                     exact ((h8.other _ _ (fun h => hg8 h.symm)).other _ _ (fun h => hg8 h.symm)).other _ _ (fun h => hg8 h.symm))
                   have hgm6 : gm ≠ g6 := fun h => by
                     have ho := hM.row
                     obtain ⟨-, ⟨h0, -⟩ | ⟨_, _, _, h0, _, hb, _⟩⟩ := ho
                     · cases h0
                     · simp only [Value.slice.injEq, Option.some.injEq, Addr.mk.injEq, and_true, true_and] at h0
                       obtain ⟨rfl, -⟩ := h0
                       have h6' : W9.heap[g6]? = some (.cells _ TAc (0, 0)) := h6
                       rw [← h, hb] at h6'
                       simp only [Option.some.injEq, Obj.cells.injEq] at h6'
                       exact absurd h6'.2.1 (by decide)
                   have HH6 : Hid (Flds (((W9.setCell ⟨gm, p * 3, none⟩ (.string e'.name)).setCell ⟨gm, p * 3 + 1, none⟩ (.string e'.text)).setCell ⟨gm, p * 3 + 2, none⟩ (.slice av9 e'.l.length cv9)) g6 TAc [.int .u8 xk, .string e'.name, .string tx, .int .i64 xi]) := Lib.hid
                     (((h6.other _ _ (fun h => hgm6 h.symm)).other _ _ (fun h => hgm6 h.symm)).other _ _ (fun h => hgm6 h.symm))
                   have HEV9 := Lib.hid hev9
                   have HN9 := Lib.hid hn
                   clear hM hE h8 hv h6 hT hfz hev9 hcut hn hz8 hz6 hg8 hgm6
                   go_upto_region 33 with fail
                   generalize (((W9.setCell ⟨gm, p * 3, none⟩ (.string e'.name)).setCell ⟨gm, p * 3 + 1, none⟩ (.string e'.text)).setCell ⟨gm, p * 3 + 2, none⟩ (.slice av9 e'.l.length cv9)) = W10 at *
                   have HOK : Hid (e'.name.size ≤ 5 ∧ e'.text = S'.tx e'.name ∧ e'.l = S'.wh e'.name) := Lib.hid (HE9.out.ok e' (List.mem_of_getElem? (List.getElem?_set_self (by have := HN5.out; omega))))
                   have HLL : Hid (e'.l.length ≤ 61) := Lib.hid (by have h1 := HE9.out.inv.len e'.name; rw [← HOK.out.2.2] at h1; have := HN9.out; omega)
                   have HV10 : Hid (W10.ownsRow 0 TI 1 (.slice av9 e'.l.length cv9) e'.l.length (e'.l.map encZ)) := Lib.hid (by
                     have := (HT.out.ws e' (List.mem_of_getElem? (List.getElem?_set_self (by have := HN5.out; omega)))).1
                     rw [HEV9.out] at this
                     exact this)
                   have HGT := Lib.hid (fun (W : World) (hb : Below W10.heap.size W10 W) => (HT.out.cx.later hb).get e'.name (by have := HOK.out.1; unfold maxLen; omega))
                   have HWD := Lib.hid (fun (W : World) (hb : Below W10.heap.size W10 W) => (HT.out.cx.later hb).who (by omega) e'.name (by have := HOK.out.1; unfold maxLen; omega))
                   rw [← HOK.out.2.1] at HGT
                   rw [← HOK.out.2.2] at HWD
                   clear q4 l4 q80 q81 q82 l8 c0 c1 c2' hgl f0 f1 f2
                   apply ag.region_calm (ag.Spec.val _ :: ag.Spec.val _ :: ag.Spec.val _ :: ag.Spec.sat (fun v _ => v = .string e'.text) ag.grew :: ag.Spec.val _ :: ag.Spec.val _ :: ag.Spec.val (.bool false) :: ag.Spec.val _ :: ag.Spec.val _ :: ag.Spec.val _ :: ag.Spec.val _ :: ag.Spec.sat (fun v W => W.ownsRow 0 TI 1 v e'.l.length (e'.l.map encZ)) ag.grew :: ag.Spec.val _ :: ag.Spec.val _ :: ag.Spec.sat (fun v _ => v = .bool true) ag.grew :: ag.Spec.val (.bool false) :: ag.Spec.val _ :: [])
                   case hm => kernel_rfl
                   case hB => kernel_rfl
                   case hlen => rfl
                   case hc => exact ⟨⟨ag.lasts_eq _, rfl⟩, ⟨lasts_own _, rfl⟩, ⟨ag.lasts_eq _, rfl⟩, trivial⟩
                   apply ag.walk_val
                   · rfl
                   · intro W1 hS hE
                     clear hS hE
                     unfold ag.does
                     go_simp
                     first | done | exact ⟨rfl, rfl⟩ | rfl | (exact ⟨by go_num, rfl⟩) | (simp; done) | trace_state
                   simp only [Act.put, List.setIfInBounds_toArray, List.set_cons_zero, List.set_cons_succ]
                   apply ag.walk_val
                   · rfl
                   · intro W1 hS hE
                     clear hS hE
                     unfold ag.does
                     go_simp
                     first | done | exact ⟨rfl, rfl⟩ | rfl | (exact ⟨by go_num, rfl⟩) | (simp; done) | trace_state
                   simp only [Act.put, List.setIfInBounds_toArray, List.set_cons_zero, List.set_cons_succ]
                   apply ag.walk_val
                   · rfl
                   · intro W1 hS hE
                     have q6x := (HH6.out.later hS).cell 1
                     have l6x := (HH6.out.later hS).lt
                     (simp only [List.getElem?_cons_zero, List.getElem?_cons_succ] at q6x)
                     clear hS hE
                     unfold ag.does
                     go_simp
                     first | done | exact ⟨rfl, rfl⟩ | rfl | (exact ⟨by go_num, rfl⟩) | (simp; done) | trace_state
                   simp only [Act.put, List.setIfInBounds_toArray, List.set_cons_zero, List.set_cons_succ]
                   refine ag.walk_such (by rfl) (fun W1 hS hE => ?_) (fun y3 => ?_)
                   · have hg := HGT.out W1 hS
                     clear hE
                     unfold ag.does
                     go_simp
                     first | done | (exact hg.mono (fun e w' h => ⟨_, h.1, rfl, by rw [h.2]; exact Below.refl _ _⟩))
                   simp only [Act.put, List.setIfInBounds_toArray, List.set_cons_zero, List.set_cons_succ]
                   apply ag.walk_val
                   · rfl
                   · intro W1 hS hE
                     clear hS hE
                     unfold ag.does
                     go_simp
                     first | done | exact ⟨rfl, rfl⟩ | rfl | (exact ⟨by go_num, rfl⟩) | (simp; done) | trace_state
                   simp only [Act.put, List.setIfInBounds_toArray, List.set_cons_zero, List.set_cons_succ]
                   apply ag.walk_val
                   · rfl
                   · intro W1 hS hE
                     have q8x := (HH8.out.later hS).cell 1
                     have l8x := (HH8.out.later hS).lt
                     (simp only [List.getElem?_cons_zero, List.getElem?_cons_succ] at q8x)
                     clear hS hE
                     unfold ag.does
                     go_simp
                     first | done | exact ⟨rfl, rfl⟩ | rfl | (exact ⟨by go_num, rfl⟩) | (simp; done) | trace_state
                   simp only [Act.put, List.setIfInBounds_toArray, List.set_cons_zero, List.set_cons_succ]
                   apply ag.walk_val
                   · rfl
                   · intro W1 hS hE
                     have e3 : y3 = .string e'.text := hE.of 3 (by kernel_rfl)
                     subst e3
                     clear hS hE
                     unfold ag.does
                     go_simp
                     first | done | exact ⟨rfl, rfl⟩ | rfl | (exact ⟨by go_num, rfl⟩) | (simp; done) | trace_state
                   simp only [Act.put, List.setIfInBounds_toArray, List.set_cons_zero, List.set_cons_succ]
                   apply ag.walk_val
                   · rfl
                   · intro W1 hS hE
                     clear hS hE
                     unfold ag.does
                     go_simp
                     first | done | exact ⟨rfl, rfl⟩ | rfl | (exact ⟨by go_num, rfl⟩) | (simp; done) | trace_state
                   simp only [Act.put, List.setIfInBounds_toArray, List.set_cons_zero, List.set_cons_succ]
                   apply ag.walk_val
                   · rfl
                   · intro W1 hS hE
                     clear hS hE
                     unfold ag.does
                     go_simp
                     first | done | exact ⟨rfl, rfl⟩ | rfl | (exact ⟨by go_num, rfl⟩) | (simp; done) | trace_state
                   simp only [Act.put, List.setIfInBounds_toArray, List.set_cons_zero, List.set_cons_succ]
                   apply ag.walk_val
                   · rfl
                   · intro W1 hS hE
                     clear hS hE
                     unfold ag.does
                     go_simp
                     first | done | exact ⟨rfl, rfl⟩ | rfl | (exact ⟨by go_num, rfl⟩) | (simp; done) | trace_state
                   simp only [Act.put, List.setIfInBounds_toArray, List.set_cons_zero, List.set_cons_succ]
                   apply ag.walk_val
                   · rfl
                   · intro W1 hS hE
                     have q6x := (HH6.out.later hS).cell 1
                     have l6x := (HH6.out.later hS).lt
                     (simp only [List.getElem?_cons_zero, List.getElem?_cons_succ] at q6x)
                     clear hS hE
                     unfold ag.does
                     go_simp
                     first | done | exact ⟨rfl, rfl⟩ | rfl | (exact ⟨by go_num, rfl⟩) | (simp; done) | trace_state
                   simp only [Act.put, List.setIfInBounds_toArray, List.set_cons_zero, List.set_cons_succ]
                   refine ag.walk_such (by rfl) (fun W1 hS hE => ?_) (fun y11 => ?_)
                   · have hw := HWD.out W1 hS
                     clear hE
                     unfold ag.does
                     go_simp
                     first | done | (exact hw.mono (fun e w' h => by obtain ⟨v, he, hr, hb⟩ := h; exact ⟨v, he, owns_base hr (fun g hg => Nat.zero_le _), hb⟩))
                   simp only [Act.put, List.setIfInBounds_toArray, List.set_cons_zero, List.set_cons_succ]
                   apply ag.walk_val
                   · rfl
                   · intro W1 hS hE
                     clear hS hE
                     unfold ag.does
                     go_simp
                     first | done | exact ⟨rfl, rfl⟩ | rfl | (exact ⟨by go_num, rfl⟩) | (simp; done) | trace_state
                   simp only [Act.put, List.setIfInBounds_toArray, List.set_cons_zero, List.set_cons_succ]
                   apply ag.walk_val
                   · rfl
                   · intro W1 hS hE
                     have q8x := (HH8.out.later hS).cell 2
                     have l8x := (HH8.out.later hS).lt
                     (simp only [List.getElem?_cons_zero, List.getElem?_cons_succ] at q8x)
                     clear hS hE
                     unfold ag.does
                     go_simp
                     first | done | exact ⟨rfl, rfl⟩ | rfl | (exact ⟨by go_num, rfl⟩) | (simp; done) | trace_state
                   simp only [Act.put, List.setIfInBounds_toArray, List.set_cons_zero, List.set_cons_succ]
                   refine ag.walk_such (by rfl) (fun W1 hS hE => ?_) (fun y14 => ?_)
                   · have h11 : W1.ownsRow 0 TI 1 y11 e'.l.length (e'.l.map encZ) := hE.of 11 (by kernel_rfl)
                     have hv := owns_below HV10.out hS
                     clear hE
                     unfold ag.does
                     go_simp
                     first | done | (exact (same_any _ _ e'.l e'.l (by have := HLL.out; omega) (by have := HLL.out; omega) W1 h11 hv).mono (fun e w' h => ⟨_, by rw [h.1, decide_eq_true rfl], rfl, h.2⟩))
                   simp only [Act.put, List.setIfInBounds_toArray, List.set_cons_zero, List.set_cons_succ]
                   apply ag.walk_val
                   · rfl
                   · intro W1 hS hE
                     have e14 : y14 = .bool true := hE.of 14 (by kernel_rfl)
                     subst e14
                     clear hS hE
                     unfold ag.does
                     go_simp
                     first | done | exact ⟨rfl, rfl⟩ | rfl | (exact ⟨by go_num, rfl⟩) | (simp; done) | trace_state
                   simp only [Act.put, List.setIfInBounds_toArray, List.set_cons_zero, List.set_cons_succ]
                   apply ag.walk_val
                   · rfl
                   · intro W1 hS hE
                     clear hS hE
                     unfold ag.does
                     go_simp
                     first | done | exact ⟨rfl, rfl⟩ | rfl | (exact ⟨by go_num, rfl⟩) | (simp; done) | trace_state
                   simp only [Act.put, List.setIfInBounds_toArray, List.set_cons_zero, List.set_cons_succ]
                   refine ag.walk_nil (fun w11 hS hF hP => ?_)
                   clear hP
                   clear hF
                   have HS := Lib.hid hS
                   clear hS
                   go_wp2_with fail
                   go_roundw
                   case rel => exact ⟨k + 1, by go_num, by omega, by omega, Lib.hid ⟨S', Dt', pr5, es2.set p e', _, c2, HT.out.later HS.out, HE9.out, by rw [List.length_set]; exact HL5.out, HN9.out⟩⟩
                   case measure => simp [intOf]; omega
                 case first =>
                   have hen := HEN.out
                   subst hen
                   have q6 := HF6.out.cell 0
                   have q61 := HF6.out.cell 1
                   have q62 := HF6.out.cell 2
                   have q63 := HF6.out.cell 3
                   have l6 := HF6.out.lt
                   have q80 := HF8.out.cell 1
                   have q82 := HF8.out.cell 2
                   have l8 := HF8.out.lt
                   simp only [List.getElem?_cons_zero, List.getElem?_cons_succ] at q6 q61 q62 q63 q80 q82
                   obtain ⟨k1, k2, k3⟩ := HEK.out
                   have s0 := HSN.out.1
                   have s1 : S.n ≤ 60 := by have := HSN.out.2; omega
                   have hsz : e.name.size ≤ maxLen := by unfold maxLen; omega
                   have HLL : Hid (e.l.length ≤ 60) := Lib.hid (by have := HE5.out.inv.len e.name; rw [← k3] at this; omega)
                   obtain ⟨r, hr⟩ : ∃ r, xk % 6 = r := ⟨_, rfl⟩
                   have HR := Lib.hid hr
                   have HK3 := Lib.hid (And.intro k2 k3)
                   clear k2 k3
                   by_cases hr3 : r = 3 ∨ r = 4
                   · --{
                     have HIN := Lib.hid (insert_any (.slice av e.l.length cv) e.l (by have := HLL.out; omega) (by rw [HK3.out.2]; exact HE5.out.ris _) xi p3 (by rw [HK3.out.2]; exact HE5.out.rng _) W6 HW6.out)
                     obtain ⟨B, hB⟩ : ∃ B, decide (xi ∈ e.l) = B := ⟨_, rfl⟩
                     rw [hB] at HIN
                     have HBB := Lib.hid hB
                     clear hB
                     have hcase : ((r == 3) = true) ∨ ((r == 3) = false ∧ (r == 4) = true) := by rcases hr3 with rfl | rfl <;> simp
                     clear hr3
                     rcases hcase with h3 | ⟨h3, h4⟩
                     all_goals
                       as_aux_lemma =>
                       go_upto_region 24 with (go_at_call 7; refine HIN.out.mono ?_; rintro e' w7 ⟨v7, rfl, hb7, ho7⟩; obtain ⟨a7, c7, rfl⟩ := owns_shape ho7.1; have HB7 := Lib.hid hb7; have HO7 := Lib.hid ho7; clear hb7 ho7)
                       obtain ⟨pr4, hpr4⟩ : ∃ pr4, (fun j => pr3 j ∨ (W6.heap.size ≤ j ∧ j < w7.heap.size)) = pr4 := ⟨_, rfl⟩
                       have hm7 := HM6.out.more HB7.out
                       rw [hpr4] at hm7
                       have HM7 := Lib.hid hm7
                       have HP4 : Hid (pr4 g6 ∧ pr4 g8 ∧ ∀ b, (Value.slice a7 (insI e.l xi).length c7).ownBlock = some b → pr4 b) := Lib.hid (by
                         rw [← hpr4]
                         refine ⟨.inl HP3.out.1, .inl HP3.out.2.1, fun b hb => ?_⟩
                         rcases HO7.out.2 with h | h
                         · exact .inl (HP3.out.2.2 b (by rw [HEV.out, ← h]; exact hb))
                         · exact .inr ⟨h b hb, (HO7.out.1.lt b hb).2⟩)
                       clear hm7 hpr4
                       obtain ⟨S1, hS1⟩ : ∃ S1, S1 = @ite _ (xi ∈ S.wh e.name) (Classical.propDecidable _) S (S.watched e.name (insI (S.wh e.name) xi) (S.n + 1)) := ⟨_, rfl⟩
                       have HW := Lib.hid (HM7.out.cx.watch (by omega) e.name hsz xi p3 s0 (by omega) S1 hS1)
                       have hBS : decide (xi ∈ S.wh e.name) = B := by rw [← HK3.out.2]; exact HBB.out
                       rw [hBS] at HW
                       have HS1 := Lib.hid hS1
                       have HF6' := Lib.hid (HF6.out.later HB7.out)
                       have HF8' := Lib.hid (HF8.out.later HB7.out)
                       clear hS1 hBS q6 q61 q62 q63 l6 q80 q82 l8
                       have q61 := HF6'.out.cell 1
                       have q63 := HF6'.out.cell 3
                       have l6 := HF6'.out.lt
                       have l8 := HF8'.out.lt
                       simp only [List.getElem?_cons_zero, List.getElem?_cons_succ] at q61 q63
                       go_upto_region 26 with (go_at_call 8; refine HW.out.mono ?_; rintro e' w8 ⟨rfl, x8, o8⟩; have HX8 := Lib.hid x8; have HO8 := Lib.hid o8; clear x8 o8)
                       have HM8 := Lib.hid (HM7.out.acted HX8.out HO8.out)
                       have HF6'' := Lib.hid (HF6'.out.only HO8.out (fun hn => hn HP4.out.1))
                       have HF8'' := Lib.hid (HF8'.out.only HO8.out (fun hn => hn HP4.out.2.1))
                       have HV8 := Lib.hid (owns_only HO7.out.1 HO8.out (fun g hg hn => hn (HP4.out.2.2 g hg)))
                       clear q61 q63 l6 l8
                       have l8 := HF8''.out.lt
                       have p8 := HF8''.out.frozen 2
                       have q8 := HF8''.out.cell 2
                       simp only [List.getElem?_cons_zero, List.getElem?_cons_succ] at q8
                       go_wp2_with fail
                       go_meet
                       exact Lib.hid (Dn.of_who (HM8.out.mono (by omega)) HF8''.out HF6''.out HV8.out HP4.out.2.2 HP4.out.1 HP4.out.2.1 (by have := HZ8.out; omega) HZ6.out.2.1 HZ8.out.1 (by rw [HS1.out]; exact HE5.out.watch HEP.out xi p3 (.slice a7 (insI e.l xi).length c7)) (by rw [HS1.out]; have := HSN.out; split <;> (try simp only [CS.watched]) <;> omega))
                   · have h3 : (r == 3) = false := by simp; omega
                     have h4 : (r == 4) = false := by simp; omega
                     by_cases hr5 : r = 5
                     · have h5 : (r == 5) = true := by simp; omega
                       as_aux_lemma =>
                       have HIN := Lib.hid (remove_any (.slice av e.l.length cv) e.l (by have := HLL.out; omega) (by rw [HK3.out.2]; exact HE5.out.ris _) xi p3 (by rw [HK3.out.2]; exact HE5.out.rng _) W6 HW6.out)
                       obtain ⟨B, hB⟩ : ∃ B, decide (xi ∈ e.l) = B := ⟨_, rfl⟩
                       rw [hB] at HIN
                       have HBB := Lib.hid hB
                       clear hB
                       go_upto_region 29 with (go_at_call 9; refine HIN.out.mono ?_; rintro e' w7 ⟨v7, rfl, hb7, ho7⟩; obtain ⟨a7, c7, rfl⟩ := owns_shape ho7.1; have HB7 := Lib.hid hb7; have HO7 := Lib.hid ho7; clear hb7 ho7)
                       obtain ⟨pr4, hpr4⟩ : ∃ pr4, (fun j => pr3 j ∨ (W6.heap.size ≤ j ∧ j < w7.heap.size)) = pr4 := ⟨_, rfl⟩
                       have hm7 := HM6.out.more HB7.out
                       rw [hpr4] at hm7
                       have HM7 := Lib.hid hm7
                       have HP4 : Hid (pr4 g6 ∧ pr4 g8 ∧ ∀ b, (Value.slice a7 (delI e.l xi).length c7).ownBlock = some b → pr4 b) := Lib.hid (by
                         rw [← hpr4]
                         refine ⟨.inl HP3.out.1, .inl HP3.out.2.1, fun b hb => ?_⟩
                         rcases HO7.out.2 with h | h
                         · exact .inl (HP3.out.2.2 b (by rw [HEV.out, ← h]; exact hb))
                         · exact .inr ⟨h b hb, (HO7.out.1.lt b hb).2⟩)
                       clear hm7 hpr4
                       obtain ⟨S1, hS1⟩ : ∃ S1, S1 = @ite _ (xi ∈ S.wh e.name) (Classical.propDecidable _) (S.watched e.name (delI (S.wh e.name) xi) (S.n - 1)) S := ⟨_, rfl⟩
                       have HW := Lib.hid (HM7.out.cx.unwatch (by omega) e.name hsz xi p3 s0 (by omega) S1 hS1)
                       have hBS : decide (xi ∈ S.wh e.name) = B := by rw [← HK3.out.2]; exact HBB.out
                       rw [hBS] at HW
                       have HS1 := Lib.hid hS1
                       have HF6' := Lib.hid (HF6.out.later HB7.out)
                       have HF8' := Lib.hid (HF8.out.later HB7.out)
                       clear hS1 hBS q6 q61 q62 q63 l6 q80 q82 l8
                       have q61 := HF6'.out.cell 1
                       have q63 := HF6'.out.cell 3
                       have l6 := HF6'.out.lt
                       have l8 := HF8'.out.lt
                       simp only [List.getElem?_cons_zero, List.getElem?_cons_succ] at q61 q63
                       go_upto_region 31 with (go_at_call 10; refine HW.out.mono ?_; rintro e' w8 ⟨rfl, x8, o8⟩; have HX8 := Lib.hid x8; have HO8 := Lib.hid o8; clear x8 o8)
                       have HM8 := Lib.hid (HM7.out.acted HX8.out HO8.out)
                       have HF6'' := Lib.hid (HF6'.out.only HO8.out (fun hn => hn HP4.out.1))
                       have HF8'' := Lib.hid (HF8'.out.only HO8.out (fun hn => hn HP4.out.2.1))
                       have HV8 := Lib.hid (owns_only HO7.out.1 HO8.out (fun g hg hn => hn (HP4.out.2.2 g hg)))
                       clear q61 q63 l6 l8
                       have l8 := HF8''.out.lt
                       have p8 := HF8''.out.frozen 2
                       have q8 := HF8''.out.cell 2
                       simp only [List.getElem?_cons_zero, List.getElem?_cons_succ] at q8
                       go_wp2_with fail
                       go_meet
                       exact Lib.hid (Dn.of_who (HM8.out.mono (by omega)) HF8''.out HF6''.out HV8.out HP4.out.2.2 HP4.out.1 HP4.out.2.1 (by have := HZ8.out; omega) HZ6.out.2.1 HZ8.out.1 (by rw [HS1.out]; exact HE5.out.unwatch HEP.out xi (.slice a7 (delI e.l xi).length c7)) (by have hsn := HSN.out; have hlen := HE5.out.inv.len e.name; rw [HS1.out]; exact unwatch_n hsn hlen))
                     · have h5 : (r == 5) = false := by simp; omega
                       as_aux_lemma =>
                       obtain ⟨lt, hlt⟩ : ∃ lt, lt = @ite _ (S.tx e.name = tx) (Classical.propDecidable _) [] (S.wh e.name) := ⟨_, rfl⟩
                       have HST := Lib.hid (HM6.out.cx.set (by omega) e.name tx hsz lt hlt)
                       have HLT' := Lib.hid hlt
                       clear hlt
                       go_upto_region 18 with (go_at_call 11; refine HST.out.mono ?_; rintro e' w7 ⟨v7, rfl, ⟨Dt7, hx7⟩, ho7, hr7⟩; obtain ⟨a7, c7, rfl⟩ := owns_shape hr7; have HX7 := Lib.hid hx7; have HO7 := Lib.hid ho7; have HR7 := Lib.hid hr7; clear hx7 ho7 hr7)
                       have HM7 := Lib.hid (HM6.out.acted HX7.out HO7.out)
                       have HF6' := Lib.hid (HF6.out.only HO7.out (fun hn => hn HP3.out.1))
                       have HF8' := Lib.hid (HF8.out.only HO7.out (fun hn => hn HP3.out.2.1))
                       have HV7 := Lib.hid (owns_only HW6.out HO7.out (fun g hg hn => hn (HP3.out.2.2 g (by rw [HEV.out]; exact hg))))
                       have HDN : Hid (∀ W8, Below w7.heap.size w7 W8 → Dn w g4 bs bt bw (3 * (k + 1)) (k + 1) es2 (some ⟨gm, 0, none⟩) c2 p g6 g8 e.name tx xk xi (W8.setCell ⟨g8, 1, none⟩ (.string tx))) := Lib.hid (fun W8 hb => by
                         have h8 := HF8'.out.later hb
                         rw [← HEV.out] at h8
                         refine Dn.of_text ((HM7.out.later hb).mono (by omega)) h8 (HF6'.out.later hb) (by rw [HEV.out]; exact owns_below HV7.out hb) HP3.out.2.2 HP3.out.1 HP3.out.2.1 (by have := HZ8.out; omega) HZ6.out.2.1 HZ8.out.1 ?_ (by have := HSN.out; show 0 ≤ S.n ∧ S.n ≤ _; omega)
                         exact HE5.out.text HEP.out tx)
                       clear q6 q61 q62 q63 l6 q80 q82 l8
                       have q62 := HF6'.out.cell 2
                       have l6 := HF6'.out.lt
                       have l8 := HF8'.out.lt
                       have q81 := HF8'.out.cell 1
                       have q82 := HF8'.out.cell 2
                       have p81 := HF8'.out.frozen 1
                       simp only [List.getElem?_cons_zero, List.getElem?_cons_succ] at q62 q81 q82
                       by_cases hte : e.text = tx
                       · have hl0 : lt.length = 0 := by rw [HLT'.out, ← HK3.out.1, if_pos hte]; rfl
                         rw [hl0] at *
                         rw [hte] at q81
                         have hbt : (tx.toList == tx.toList) = true := by simp
                         clear hte hl0
                         go_wp2_with fail
                         go_meet
                         exact HDN.out _ (Below.refl _ _) |> Lib.hid
                       · have hbt : (e.text.toList == tx.toList) = false := eq_no hte
                         have hlt2 : lt = e.l := by rw [HLT'.out, ← HK3.out.1, if_neg hte, ← HK3.out.2]
                         subst hlt2
                         have HSM := Lib.hid (same_any (.slice a7 e.l.length c7) (.slice av e.l.length cv) e.l e.l (by have := HLL.out; omega) (by have := HLL.out; omega) w7 (owns_base HR7.out (fun g hg => Nat.zero_le _)) HV7.out)
                         rw [decide_eq_true (rfl : e.l = e.l)] at HSM
                         have HF8s := HF8'
                         clear hte
                         go_upto_region 20 with (go_at_call 12; refine HSM.out.mono ?_; rintro e' w8 ⟨rfl, hb8⟩; have HB8 := Lib.hid hb8; clear hb8)
                         clear q62 l6 l8 q81 q82 p81
                         have q62 := (HF6'.out.later HB8.out).cell 2
                         have l6 := (HF6'.out.later HB8.out).lt
                         have l8 := (HF8'.out.later HB8.out).lt
                         have q81 := (HF8'.out.later HB8.out).cell 1
                         have p81 := (HF8'.out.later HB8.out).frozen 1
                         simp only [List.getElem?_cons_zero, List.getElem?_cons_succ] at q62 q81
                         go_wp2_with fail
                         go_meet
                         exact Lib.hid (HDN.out _ HB8.out)
               case first =>
                 cases B with
                 | false =>
                   as_aux_lemma =>
                   obtain ⟨e, hu, hen⟩ := HB0'.out rfl
                   have HU := Lib.hid (And.intro hu hen)
                   clear hu hen
                   go_wp2_with fail
                   go_meet
                   exact Lib.hid ⟨es, _, _, e, pr1, HM4.out, HE.out, HU.out.1, HU.out.2, by have := HES.out; omega, HP6.out, HF4.out⟩
                 | true =>
                   as_aux_lemma =>
                   have HG2 := Lib.hid (HB1'.out rfl)
                   obtain ⟨i0, hi, hz0, hz1, hz2⟩ := info_of infoO
                   have hrow := HM4.out.row
                   obtain ⟨N, hN⟩ : ∃ N, es.length = N := ⟨_, rfl⟩
                   have hNk : N ≤ 60 := by have := HES.out; omega
                   rw [hN] at hp hrow
                   have HRW := Lib.hid hrow
                   have e1 : (N : Int) ≤ 60 := by omega
                   have e2 : (0 : Int) ≤ (N : Int) := by omega
                   have e3 : (p : Int) ≤ (N : Int) := by omega
                   have HN := Lib.hid hN
                   have l6 := HF4.out.lt
                   have l4 := HM4.out.f4.lt
                   clear hN
                   go_upto_region 14 with fail
                   rcases hrow.2 with ⟨ea, hN0⟩ | ⟨gm, cap', cur, ea, hgb, -, hcap, hcm, -, -⟩
                   · simp only [Value.slice.injEq] at ea
                     obtain ⟨rfl, rfl, rfl⟩ := ea
                     obtain rfl : p = 0 := by omega
                     apply ag.region_chain_tail 14  (ag.Spec.sat (ag.Ch (wq.heap.size) TO 3 (0) ([])) ag.grew :: ag.Spec.val _ :: ag.Spec.val _ :: ag.Spec.val _ :: ag.Spec.sat (ag.Ch (wq.heap.size) TO 3 (0 + 0) ([] ++ [])) (ag.tk (wq.heap.size) TO 3 (0)) :: ag.Spec.val _ :: ag.Spec.val _ :: ag.Spec.val _ :: ag.Spec.sat (ag.Ch (wq.heap.size) TO 3 (1) ([Value.string nm, .string ByteArray.empty, .slice none 0 0])) ag.grew :: ag.Spec.sat (ag.Ch (wq.heap.size) TO 3 ((0 + 0) + 1) (([] ++ []) ++ [Value.string nm, .string ByteArray.empty, .slice none 0 0])) (ag.tk (wq.heap.size) TO 3 ((0 + 0))) :: ag.Spec.val _ :: ag.Spec.val _ :: ag.Spec.val _ :: ag.Spec.sat (ag.Ch (wq.heap.size) TO 3 ((0 + 0 + 1) + 0) (([] ++ [] ++ [Value.string nm, .string ByteArray.empty, .slice none 0 0]) ++ [])) (ag.tk (wq.heap.size) TO 3 ((0 + 0 + 1))) :: [])
                     case hm => kernel_rfl
                     case hB => kernel_rfl
                     case hlen => rfl
                     case hc => exact ⟨.inl rfl, .inr (fun f w w' h => h.1), .inl rfl, .inr (fun f w w' h => h.1), .inr (fun f w w' h => h.1), trivial⟩
                     case hst =>
                       simp only [List.take_succ_cons, List.take_zero]
                       simp only [ag.Stab, ag.Row2, ag.Ok2, and_true]
                       repeat' apply And.intro
                       all_goals first
                         | exact fun h => absurd rfl h
                         | exact fun _ _ f v W W' _ hv _ ht => ag.Ch.lasts v W W' hv ht
                         | exact fun _ _ f v W W' _ hv _ ht => ag.Ch.stays hv ht (by omega)
                         | trivial
                         | exact fun _ h => absurd (h.symm.trans (show _ = true by kernel_rfl)) (by decide)
                     simp only [List.take_succ_cons, List.take_zero, List.drop_succ_cons, List.drop_zero]
                     refine ag.walk_such (by rfl) (fun W1 hS hE => ?_) (fun y0 => ?_)
                     · have hX := hS.size
                       clear hE
                       unfold ag.does
                       go_simp
                       exact ⟨ag.Ch.new W1 ([]) (by simp) hX (by decide), (Below.refl _ _).alloc (Nat.le_refl _) _⟩
                     simp only [Act.put, List.setIfInBounds_toArray, List.set_cons_zero, List.set_cons_succ]
                     apply ag.walk_val
                     · rfl
                     · intro W1 hS hE
                       have q4x := (HM4.out.later hS).f4.cell 0
                       (simp only [List.getElem?_cons_zero, HN.out] at q4x)
                       clear hS hE
                       unfold ag.does
                       go_simp
                       first | done | exact ⟨rfl, rfl⟩ | rfl | (exact ⟨by go_num, rfl⟩) | (simp; done) | trace_state
                     simp only [Act.put, List.setIfInBounds_toArray, List.set_cons_zero, List.set_cons_succ]
                     apply ag.walk_val
                     · rfl
                     · intro W1 hS hE
                       clear hS hE
                       unfold ag.does
                       go_simp
                       first | done | exact ⟨rfl, rfl⟩ | rfl | (exact ⟨by go_num, rfl⟩) | (simp; done) | trace_state
                     simp only [Act.put, List.setIfInBounds_toArray, List.set_cons_zero, List.set_cons_succ]
                     apply ag.walk_val
                     · rfl
                     · intro W1 hS hE
                       clear hS hE
                       unfold ag.does
                       go_simp
                       first | done | exact ⟨rfl, rfl⟩ | rfl | (exact ⟨by go_num, rfl⟩) | (simp; done) | trace_state
                     simp only [Act.put, List.setIfInBounds_toArray, List.set_cons_zero, List.set_cons_succ]
                     refine ag.walk_sat (by rfl) (fun W1 hS hE => ?_) (fun y4 => ?_)
                     · have own := hE.of 0 (by kernel_rfl)
                       simp only [ag.lookE, if_true, Nat.reduceEqDiff, if_false] at own
                       clear hE
                       have hX := hS.size
                       refine ag.does_chain (.tmp 84) (.tmp 87) 26 (by rfl) (wq.heap.size) TO i0 (.agg #[.string ByteArray.empty, .string ByteArray.empty, .slice none 0 0]) 3 56 Try.underlying26 hi hz0 hz1 hz2 rfl (by decide) y0 (0) ([]) (by rfl) own (.slice none 0 0) (0) ([]) (by rfl) (Row.nil _ 3 _ _) ((by simp)) (by simp only [maxLen]; omega) (by omega) hX _ _ _
                     simp only [Act.put, List.setIfInBounds_toArray, List.set_cons_zero, List.set_cons_succ]
                     apply ag.walk_val
                     · rfl
                     · intro W1 hS hE
                       clear hS hE
                       unfold ag.does
                       go_simp
                       first | done | exact ⟨rfl, rfl⟩ | rfl | (exact ⟨by go_num, rfl⟩) | (simp; done) | trace_state
                     simp only [Act.put, List.setIfInBounds_toArray, List.set_cons_zero, List.set_cons_succ]
                     apply ag.walk_val
                     · rfl
                     · intro W1 hS hE
                       have q6x := (HF4.out.later hS).cell 1
                       (simp only [List.getElem?_cons_zero, List.getElem?_cons_succ] at q6x)
                       clear hS hE
                       unfold ag.does
                       go_simp
                       first | done | exact ⟨rfl, rfl⟩ | rfl | (exact ⟨by go_num, rfl⟩) | (simp; done) | trace_state
                     simp only [Act.put, List.setIfInBounds_toArray, List.set_cons_zero, List.set_cons_succ]
                     apply ag.walk_val
                     · rfl
                     · intro W1 hS hE
                       clear hS hE
                       unfold ag.does
                       go_simp
                       first | done | exact ⟨rfl, rfl⟩ | rfl | (exact ⟨by go_num, rfl⟩) | (simp; done) | trace_state
                     simp only [Act.put, List.setIfInBounds_toArray, List.set_cons_zero, List.set_cons_succ]
                     refine ag.walk_such (by rfl) (fun W1 hS hE => ?_) (fun y8 => ?_)
                     · have hX := hS.size
                       clear hE
                       unfold ag.does
                       go_simp
                       exact ⟨ag.Ch.new W1 ([Value.string nm, .string ByteArray.empty, .slice none 0 0]) (by simp) hX (by decide), (Below.refl _ _).alloc (Nat.le_refl _) _⟩
                     simp only [Act.put, List.setIfInBounds_toArray, List.set_cons_zero, List.set_cons_succ]
                     refine ag.walk_sat (by rfl) (fun W1 hS hE => ?_) (fun y9 => ?_)
                     · have own := hE.of 4 (by kernel_rfl)
                       simp only [ag.lookE, if_true, Nat.reduceEqDiff, if_false] at own
                       have box := hE.of 8 (by kernel_rfl)
                       simp only [ag.lookE, if_true, Nat.reduceEqDiff, if_false] at box
                       clear hE
                       have hX := hS.size
                       refine ag.does_chain (.tmp 88) (.tmp 92) 26 (by rfl) (wq.heap.size) TO i0 (.agg #[.string ByteArray.empty, .string ByteArray.empty, .slice none 0 0]) 3 56 Try.underlying26 hi hz0 hz1 hz2 rfl (by decide) y4 ((0 + 0)) (([] ++ [])) (by rfl) own (y8) (1) ([Value.string nm, .string ByteArray.empty, .slice none 0 0]) (by rfl) (box.row) ((by simp [Value.oneCell'])) (by simp only [maxLen]; omega) (by omega) hX _ _ _
                     simp only [Act.put, List.setIfInBounds_toArray, List.set_cons_zero, List.set_cons_succ]
                     apply ag.walk_val
                     · rfl
                     · intro W1 hS hE
                       have q4x := (HM4.out.later hS).f4.cell 0
                       (simp only [List.getElem?_cons_zero, HN.out] at q4x)
                       clear hS hE
                       unfold ag.does
                       go_simp
                       first | done | exact ⟨rfl, rfl⟩ | rfl | (exact ⟨by go_num, rfl⟩) | (simp; done) | trace_state
                     simp only [Act.put, List.setIfInBounds_toArray, List.set_cons_zero, List.set_cons_succ]
                     apply ag.walk_val
                     · rfl
                     · intro W1 hS hE
                       clear hS hE
                       unfold ag.does
                       go_simp
                       first | done | exact ⟨rfl, rfl⟩ | rfl | (exact ⟨by go_num, rfl⟩) | (simp; done) | trace_state
                     simp only [Act.put, List.setIfInBounds_toArray, List.set_cons_zero, List.set_cons_succ]
                     apply ag.walk_val
                     · rfl
                     · intro W1 hS hE
                       clear hS hE
                       unfold ag.does
                       go_simp
                       first | done | exact ⟨rfl, rfl⟩ | rfl | (exact ⟨by go_num, rfl⟩) | (simp; done) | trace_state
                     simp only [Act.put, List.setIfInBounds_toArray, List.set_cons_zero, List.set_cons_succ]
                     refine ag.walk_sat (by rfl) (fun W1 hS hE => ?_) (fun y13 => ?_)
                     · have own := hE.of 9 (by kernel_rfl)
                       simp only [ag.lookE, if_true, Nat.reduceEqDiff, if_false] at own
                       clear hE
                       have hX := hS.size
                       refine ag.does_chain (.tmp 93) (.tmp 96) 26 (by rfl) (wq.heap.size) TO i0 (.agg #[.string ByteArray.empty, .string ByteArray.empty, .slice none 0 0]) 3 56 Try.underlying26 hi hz0 hz1 hz2 rfl (by decide) y9 ((0 + 0 + 1)) (([] ++ [] ++ [Value.string nm, .string ByteArray.empty, .slice none 0 0])) (by rfl) own (.slice none 0 0) (0) ([]) (by rfl) (Row.nil _ 3 _ _) ((by simp)) (by simp only [maxLen]; omega) (by omega) hX _ _ _
                     simp only [Act.put, List.setIfInBounds_toArray, List.set_cons_zero, List.set_cons_succ]
                     refine ag.walk_nil (fun w9 hS hF hP => ?_)
                     clear hP
                     have h13 := hF.of 13
                     simp only [ag.lookE, Nat.reduceEqDiff, if_false, if_true] at h13
                     obtain ⟨⟨a9, c9, rfl, -⟩, ho⟩ := h13
                     have HO := Lib.hid ho
                     have HS9 := Lib.hid hS
                     clear hF hS ho
                     have HM9 := Lib.hid (HM4.out.more HS9.out)
                     have HF9 := Lib.hid (HF4.out.later HS9.out)
                     have q4 := HM9.out.f4.cell 0
                     have p4 := HM9.out.f4.frozen 0
                     have l4 := HM9.out.f4.lt
                     simp only [List.getElem?_cons_zero] at q4
                     go_wp2_with fail
                     go_meet
                     have hes2 : ([(⟨nm, ByteArray.empty, [], .slice none 0 0⟩ : En)]).length = 0 + 0 + 1 + 0 := by simp
                     have hcs : eCells ([(⟨nm, ByteArray.empty, [], .slice none 0 0⟩ : En)]) = ([] ++ [] ++ [Value.string nm, .string ByteArray.empty, .slice none 0 0] ++ [] : List Value) := by rfl
                     have hrow9 := HO.out
                     rw [← hcs, ← hes2] at hrow9
                     have hL : Mp w g4 bs bt bw (3 * k) S Dt _ ([(⟨nm, ByteArray.empty, [], .slice none 0 0⟩ : En)]) a9 c9 _ := HM9.out.list (owns_base hrow9 (fun g hg => by have := (hrow9.lt g hg).1; have := HM4.out.f4.lt; omega)) (fun b hb => .inr (hrow9.lt b hb)) (fun e he => by rw [List.mem_singleton.1 he]; exact ⟨World.ownsRow_nil _ _ _ _, fun b hb => by cases hb⟩)
                     rw [hes2] at hL
                     exact Lib.hid ⟨_, a9, c9, ⟨nm, ByteArray.empty, [], .slice none 0 0⟩, _, hL, by have := HE.out.put HSZ.out.1 HLT.out HG2.out (.slice none 0 0); have hn0 : es = [] := List.eq_nil_of_length_eq_zero (by have := HN.out; omega); subst hn0; exact this, rfl, rfl, by rw [hes2]; have := HES.out; have := HN.out; omega, .inl HP6.out, HF9.out.other _ _ (by show g6 ≠ g4; have := HZ6.out.2.1; omega)⟩
                   · simp only [Value.slice.injEq] at ea
                     obtain ⟨rfl, -, rfl⟩ := ea
                     have hcc : (p : Int) ≤ (cm : Int) := by omega
                     have hpt : (p : Int).toNat = p := by omega
                     have HR4 : Hid (wq.ownsRow (g4 + 1) TO 3 (.slice (some ⟨gm, 0, none⟩) N cm) N (eCells es)) := Lib.hid (by have := HM4.out.row; rw [HN.out] at this; exact this)
                     have HRT := Lib.hid (sub_take (Row.of_owns HR4.out) p hp cm)
                     obtain ⟨A, hA, HRD⟩ : ∃ A : Option Addr, (if cm = p then some (⟨gm, 0, none⟩ : Addr) else some ⟨gm, p * 3, none⟩) = A ∧ Hid (∀ W, Below wq.heap.size wq W → Row W (.slice A (N - p) (cm - p)) 3 (N - p) ((eCells es).drop (p * 3))) :=
                       ⟨_, rfl, Lib.hid (fun W hb => by have := sub_drop ((Row.of_owns HR4.out).later hb) p hp (cm - p) (if cm = p then some (⟨gm, 0, none⟩ : Addr) else some ⟨gm, p * 3, none⟩) (fun h => by rw [if_neg (by omega)]; simp); exact this)⟩
                     have HONE1 := Lib.hid (one_part (one_eCells es (fun e he => by have := (HM4.out.ws e he).1; exact owns_one this)) (fun u (h : u ∈ (eCells es).take (p * 3)) => List.mem_of_mem_take h))
                     have HONE3 := Lib.hid (one_part (one_eCells es (fun e he => by have := (HM4.out.ws e he).1; exact owns_one this)) (fun u (h : u ∈ (eCells es).drop (p * 3)) => List.mem_of_mem_drop h))
                     apply ag.region_chain_tail 14  (ag.Spec.sat (ag.Ch (wq.heap.size) TO 3 (0) ([])) ag.grew :: ag.Spec.val _ :: ag.Spec.val _ :: ag.Spec.val _ :: ag.Spec.sat (ag.Ch (wq.heap.size) TO 3 (0 + p) ([] ++ (eCells es).take (p * 3))) (ag.tk (wq.heap.size) TO 3 (0)) :: ag.Spec.val _ :: ag.Spec.val _ :: ag.Spec.val _ :: ag.Spec.sat (ag.Ch (wq.heap.size) TO 3 (1) ([Value.string nm, .string ByteArray.empty, .slice none 0 0])) ag.grew :: ag.Spec.sat (ag.Ch (wq.heap.size) TO 3 ((0 + p) + 1) (([] ++ (eCells es).take (p * 3)) ++ [Value.string nm, .string ByteArray.empty, .slice none 0 0])) (ag.tk (wq.heap.size) TO 3 ((0 + p))) :: ag.Spec.val _ :: ag.Spec.val _ :: ag.Spec.val _ :: ag.Spec.sat (ag.Ch (wq.heap.size) TO 3 ((0 + p + 1) + (N - p)) (([] ++ (eCells es).take (p * 3) ++ [Value.string nm, .string ByteArray.empty, .slice none 0 0]) ++ (eCells es).drop (p * 3))) (ag.tk (wq.heap.size) TO 3 ((0 + p + 1))) :: [])
                     case hm => kernel_rfl
                     case hB => kernel_rfl
                     case hlen => rfl
                     case hc => exact ⟨.inl rfl, .inr (fun f w w' h => h.1), .inl rfl, .inr (fun f w w' h => h.1), .inr (fun f w w' h => h.1), trivial⟩
                     case hst =>
                       simp only [List.take_succ_cons, List.take_zero]
                       simp only [ag.Stab, ag.Row2, ag.Ok2, and_true]
                       repeat' apply And.intro
                       all_goals first
                         | exact fun h => absurd rfl h
                         | exact fun _ _ f v W W' _ hv _ ht => ag.Ch.lasts v W W' hv ht
                         | exact fun _ _ f v W W' _ hv _ ht => ag.Ch.stays hv ht (by omega)
                         | trivial
                         | exact fun _ h => absurd (h.symm.trans (show _ = true by kernel_rfl)) (by decide)
                     simp only [List.take_succ_cons, List.take_zero, List.drop_succ_cons, List.drop_zero]
                     refine ag.walk_such (by rfl) (fun W1 hS hE => ?_) (fun y0 => ?_)
                     · have hX := hS.size
                       clear hE
                       unfold ag.does
                       go_simp
                       exact ⟨ag.Ch.new W1 ([]) (by simp) hX (by decide), (Below.refl _ _).alloc (Nat.le_refl _) _⟩
                     simp only [Act.put, List.setIfInBounds_toArray, List.set_cons_zero, List.set_cons_succ]
                     apply ag.walk_val
                     · rfl
                     · intro W1 hS hE
                       have q4x := (HM4.out.later hS).f4.cell 0
                       (simp only [List.getElem?_cons_zero, HN.out] at q4x)
                       clear hS hE
                       unfold ag.does
                       go_simp
                       first | done | exact ⟨rfl, rfl⟩ | rfl | (exact ⟨by go_num, rfl⟩) | (simp; done) | trace_state
                     simp only [Act.put, List.setIfInBounds_toArray, List.set_cons_zero, List.set_cons_succ]
                     apply ag.walk_val
                     · rfl
                     · intro W1 hS hE
                       clear hS hE
                       unfold ag.does
                       go_simp
                       first | done | exact ⟨rfl, rfl⟩ | rfl | (exact ⟨by go_num, rfl⟩) | (simp; done) | trace_state
                     simp only [Act.put, List.setIfInBounds_toArray, List.set_cons_zero, List.set_cons_succ]
                     apply ag.walk_val
                     · rfl
                     · intro W1 hS hE
                       clear hS hE
                       unfold ag.does
                       go_simp
                       first | done | exact ⟨rfl, rfl⟩ | rfl | (exact ⟨by go_num, rfl⟩) | (simp; done) | trace_state
                     simp only [Act.put, List.setIfInBounds_toArray, List.set_cons_zero, List.set_cons_succ]
                     refine ag.walk_sat (by rfl) (fun W1 hS hE => ?_) (fun y4 => ?_)
                     · have own := hE.of 0 (by kernel_rfl)
                       simp only [ag.lookE, if_true, Nat.reduceEqDiff, if_false] at own
                       clear hE
                       have hX := hS.size
                       refine ag.does_chain (.tmp 84) (.tmp 87) 26 (by rfl) (wq.heap.size) TO i0 (.agg #[.string ByteArray.empty, .string ByteArray.empty, .slice none 0 0]) 3 56 Try.underlying26 hi hz0 hz1 hz2 rfl (by decide) y0 (0) ([]) (by rfl) own (.slice (some ⟨gm, 0, none⟩) p cm) (p) ((eCells es).take (p * 3)) (by rfl) (HRT.out.later hS) (HONE1.out) (by simp only [maxLen]; omega) (by omega) hX _ _ _
                     simp only [Act.put, List.setIfInBounds_toArray, List.set_cons_zero, List.set_cons_succ]
                     apply ag.walk_val
                     · rfl
                     · intro W1 hS hE
                       clear hS hE
                       unfold ag.does
                       go_simp
                       first | done | exact ⟨rfl, rfl⟩ | rfl | (exact ⟨by go_num, rfl⟩) | (simp; done) | trace_state
                     simp only [Act.put, List.setIfInBounds_toArray, List.set_cons_zero, List.set_cons_succ]
                     apply ag.walk_val
                     · rfl
                     · intro W1 hS hE
                       have q6x := (HF4.out.later hS).cell 1
                       (simp only [List.getElem?_cons_zero, List.getElem?_cons_succ] at q6x)
                       clear hS hE
                       unfold ag.does
                       go_simp
                       first | done | exact ⟨rfl, rfl⟩ | rfl | (exact ⟨by go_num, rfl⟩) | (simp; done) | trace_state
                     simp only [Act.put, List.setIfInBounds_toArray, List.set_cons_zero, List.set_cons_succ]
                     apply ag.walk_val
                     · rfl
                     · intro W1 hS hE
                       clear hS hE
                       unfold ag.does
                       go_simp
                       first | done | exact ⟨rfl, rfl⟩ | rfl | (exact ⟨by go_num, rfl⟩) | (simp; done) | trace_state
                     simp only [Act.put, List.setIfInBounds_toArray, List.set_cons_zero, List.set_cons_succ]
                     refine ag.walk_such (by rfl) (fun W1 hS hE => ?_) (fun y8 => ?_)
                     · have hX := hS.size
                       clear hE
                       unfold ag.does
                       go_simp
                       exact ⟨ag.Ch.new W1 ([Value.string nm, .string ByteArray.empty, .slice none 0 0]) (by simp) hX (by decide), (Below.refl _ _).alloc (Nat.le_refl _) _⟩
                     simp only [Act.put, List.setIfInBounds_toArray, List.set_cons_zero, List.set_cons_succ]
                     refine ag.walk_sat (by rfl) (fun W1 hS hE => ?_) (fun y9 => ?_)
                     · have own := hE.of 4 (by kernel_rfl)
                       simp only [ag.lookE, if_true, Nat.reduceEqDiff, if_false] at own
                       have box := hE.of 8 (by kernel_rfl)
                       simp only [ag.lookE, if_true, Nat.reduceEqDiff, if_false] at box
                       clear hE
                       have hX := hS.size
                       refine ag.does_chain (.tmp 88) (.tmp 92) 26 (by rfl) (wq.heap.size) TO i0 (.agg #[.string ByteArray.empty, .string ByteArray.empty, .slice none 0 0]) 3 56 Try.underlying26 hi hz0 hz1 hz2 rfl (by decide) y4 ((0 + p)) (([] ++ (eCells es).take (p * 3))) (by rfl) own (y8) (1) ([Value.string nm, .string ByteArray.empty, .slice none 0 0]) (by rfl) (box.row) ((by simp [Value.oneCell'])) (by simp only [maxLen]; omega) (by omega) hX _ _ _
                     simp only [Act.put, List.setIfInBounds_toArray, List.set_cons_zero, List.set_cons_succ]
                     apply ag.walk_val
                     · rfl
                     · intro W1 hS hE
                       have q4x := (HM4.out.later hS).f4.cell 0
                       (simp only [List.getElem?_cons_zero, HN.out] at q4x)
                       clear hS hE
                       unfold ag.does
                       go_simp
                       first | done | exact ⟨rfl, rfl⟩ | rfl | (exact ⟨by go_num, rfl⟩) | (simp; done) | trace_state
                     simp only [Act.put, List.setIfInBounds_toArray, List.set_cons_zero, List.set_cons_succ]
                     apply ag.walk_val
                     · rfl
                     · intro W1 hS hE
                       clear hS hE
                       unfold ag.does
                       go_simp
                       first | done | exact ⟨rfl, rfl⟩ | rfl | (exact ⟨by go_num, rfl⟩) | (simp; done) | trace_state
                     simp only [Act.put, List.setIfInBounds_toArray, List.set_cons_zero, List.set_cons_succ]
                     apply ag.walk_val
                     · rfl
                     · intro W1 hS hE
                       clear hS hE
                       unfold ag.does
                       go_simp
                       first | done | exact ⟨rfl, rfl⟩ | rfl | (exact ⟨by go_num, rfl⟩) | (simp; done) | trace_state
                     simp only [Act.put, List.setIfInBounds_toArray, List.set_cons_zero, List.set_cons_succ]
                     refine ag.walk_sat (by rfl) (fun W1 hS hE => ?_) (fun y13 => ?_)
                     · have own := hE.of 9 (by kernel_rfl)
                       simp only [ag.lookE, if_true, Nat.reduceEqDiff, if_false] at own
                       clear hE
                       have hX := hS.size
                       refine ag.does_chain (.tmp 93) (.tmp 96) 26 (by rfl) (wq.heap.size) TO i0 (.agg #[.string ByteArray.empty, .string ByteArray.empty, .slice none 0 0]) 3 56 Try.underlying26 hi hz0 hz1 hz2 rfl (by decide) y9 ((0 + p + 1)) (([] ++ (eCells es).take (p * 3) ++ [Value.string nm, .string ByteArray.empty, .slice none 0 0])) (by rfl) own (.slice A (N - p) (cm - p)) ((N - p)) ((eCells es).drop (p * 3)) (by rfl) (HRD.out _ hS) (HONE3.out) (by simp only [maxLen]; omega) (by omega) hX _ _ _
                     simp only [Act.put, List.setIfInBounds_toArray, List.set_cons_zero, List.set_cons_succ]
                     refine ag.walk_nil (fun w9 hS hF hP => ?_)
                     clear hP
                     have h13 := hF.of 13
                     simp only [ag.lookE, Nat.reduceEqDiff, if_false, if_true] at h13
                     obtain ⟨⟨a9, c9, rfl, -⟩, ho⟩ := h13
                     have HO := Lib.hid ho
                     have HS9 := Lib.hid hS
                     clear hF hS ho
                     have HM9 := Lib.hid (HM4.out.more HS9.out)
                     have HF9 := Lib.hid (HF4.out.later HS9.out)
                     have q4 := HM9.out.f4.cell 0
                     have p4 := HM9.out.f4.frozen 0
                     have l4 := HM9.out.f4.lt
                     simp only [List.getElem?_cons_zero] at q4
                     go_wp2_with fail
                     go_meet
                     have hes2 : (es.take p ++ (⟨nm, ByteArray.empty, [], .slice none 0 0⟩ : En) :: es.drop p).length = 0 + p + 1 + (N - p) := by rw [List.length_append, List.length_cons, List.length_take, List.length_drop, HN.out]; omega
                     have hcs : eCells (es.take p ++ (⟨nm, ByteArray.empty, [], .slice none 0 0⟩ : En) :: es.drop p) = [] ++ (eCells es).take (p * 3) ++ [Value.string nm, .string ByteArray.empty, .slice none 0 0] ++ (eCells es).drop (p * 3) := by rw [eCells_append, eCells_cons, eCells_take, eCells_drop]; simp
                     have hrow9 := HO.out
                     rw [← hcs, ← hes2] at hrow9
                     have hL : Mp w g4 bs bt bw (3 * k) S Dt _ (es.take p ++ (⟨nm, ByteArray.empty, [], .slice none 0 0⟩ : En) :: es.drop p) a9 c9 _ := HM9.out.list (owns_base hrow9 (fun g hg => by have := (hrow9.lt g hg).1; have := HM4.out.f4.lt; omega)) (fun b hb => .inr (hrow9.lt b hb)) (fun e he => by
                       rcases List.mem_append.1 he with he | he
                       · exact HM9.out.ws e (List.mem_of_mem_take he)
                       · rcases List.mem_cons.1 he with rfl | he
                         · exact ⟨World.ownsRow_nil _ _ _ _, fun b hb => (by cases hb)⟩
                         · exact HM9.out.ws e (List.mem_of_mem_drop he))
                     rw [hes2] at hL
                     simp only [Nat.zero_add] at hL
                     exact Lib.hid ⟨_, a9, c9, ⟨nm, ByteArray.empty, [], .slice none 0 0⟩, _, hL, HE.out.put HSZ.out.1 HLT.out HG2.out (.slice none 0 0), by rw [List.getElem?_append_right (by rw [List.length_take]; omega), List.length_take]; simp [show min p es.length = p by have := HN.out; omega], rfl, by rw [hes2]; have := HES.out; have := HN.out; omega, Or.inl HP6.out, HF9.out.other _ _ (by show g6 ≠ g4; have := HZ6.out.2.1; omega)⟩
             case first =>
               as_aux_lemma =>
               have q6 := HF3.out.cell 1
               have l6 := HF3.out.lt
               have q4 := HM3.out.f4.cell 0
               have l4 := HM3.out.f4.lt
               simp only [List.getElem?_cons_zero, List.getElem?_cons_succ] at q4 q6
               have hrow := HM3.out.row
               obtain ⟨N, hN⟩ : ∃ N, es.length = N := ⟨_, rfl⟩
               have hNk : N ≤ 60 := by have := HES.out; omega
               rw [hN] at hp hrow q4
               have HRW := Lib.hid hrow
               have e1 : (N : Int) ≤ 60 := by omega
               have e2 : (0 : Int) ≤ (N : Int) := by omega
               have e3 : (p : Int) ≤ (N : Int) := by omega
               have HN := Lib.hid hN
               clear hN
               by_cases hpn : p < N
               · have dp : ((p : Int) == (N : Int)) = false := by simp; omega
                 have dp2 : (p : Int) < (N : Int) := by omega
                 obtain ⟨gm, rfl, hg1, hg2, hc, -⟩ := owns_cellAt hrow (by omega)
                 have hpl : p < es.length := by have := HN.out; omega
                 have hu := List.getElem?_eq_getElem hpl
                 generalize es[p] = e at hu
                 have c0 := (hc (p * 3) (by omega)).trans (eCells_at es p e hu).1
                 have HU := Lib.hid hu
                 clear hu hc hrow hg1 hpl
                 by_cases hen : e.name = nm
                 · rw [hen] at c0
                   have hb : (nm.toList == nm.toList) = true := by simp
                   have HEN := Lib.hid hen
                   clear hen
                   go_wp2_with fail
                   go_quiet (fail)
                   go_wp2_with fail
                   go_meet
                   exact Lib.hid ⟨false, rfl, fun _ => ⟨e, HU.out, HEN.out⟩, fun h => (by cases h), below_drewN' (Below.refl _ _) _⟩
                 · have hb : (e.name.toList == nm.toList) = false := eq_no hen
                   have HEN := Lib.hid hen
                   clear hen
                   go_wp2_with fail
                   go_quiet (fail)
                   go_wp2_with fail
                   go_meet
                   exact Lib.hid ⟨true, rfl, fun h => (by cases h), fun _ x hx => (by rw [HU.out] at hx; cases hx; exact ⟨HGE.out e HU.out, HEN.out⟩), below_drewN' (Below.refl _ _) _⟩
               · have dp : ((p : Int) == (N : Int)) = true := by simp; omega
                 clear hrow
                 go_wp2_with fail
                 go_quiet (fail)
                 go_wp2_with fail
                 go_meet
                 exact Lib.hid ⟨true, rfl, fun h => (by cases h), fun _ x hx => (by have := (List.getElem?_eq_some_iff.1 hx).1; have := HN.out; omega), below_drewN' (Below.refl _ _) _⟩
           case first =>
             as_aux_lemma =>
             go_wp2_with fail
             go_loopw [7] (fun i wx => ∃ p : Nat, i = .int .i64 (p : Int) ∧ p ≤ es.length ∧ Hid (∀ e ∈ es.take p, lt e.name nm) ∧ Hid (Below wa.heap.size wa wx)) (fun i _ => es.length - (intOf i).toNat)
             case atStart => exact ⟨0, rfl, Nat.zero_le _, Lib.hid (by simp), Lib.hid (Below.refl _ _)⟩
             case round =>
               obtain ⟨p, rfl, hp, HLT, HBX⟩ := hrel
               have e0 : (0 : Int) ≤ (p : Int) := by omega
               have hMx := HM2.out.later HBX.out
               have q6 := (HF.out.later HBX.out).cell 1
               have l6 := (HF.out.later HBX.out).lt
               have q4 := hMx.f4.cell 0
               have l4 := hMx.f4.lt
               simp only [List.getElem?_cons_zero, List.getElem?_cons_succ] at q4 q6
               have hrow := hMx.row
               obtain ⟨N, hN⟩ : ∃ N, es.length = N := ⟨_, rfl⟩
               have hNk : N ≤ 60 := by have := HES.out; omega
               rw [hN] at hp hrow q4 ⊢
               have e1 : (N : Int) ≤ 60 := by omega
               have e2 : (0 : Int) ≤ (N : Int) := by omega
               have HN := Lib.hid hN
               clear hN hMx
               by_cases hpn : p < N
               · have dp : (p : Int) < (N : Int) := by omega
                 obtain ⟨gm, rfl, hg1, hg2, hc, -⟩ := owns_cellAt hrow (by omega)
                 have hpl : p < es.length := by have := HN.out; omega
                 have hu := List.getElem?_eq_getElem hpl
                 generalize es[p] = e at hu
                 have c0 := (hc (p * 3) (by omega)).trans (eCells_at es p e hu).1
                 have HU := Lib.hid hu
                 clear hu hc hrow hg1 hpl
                 by_cases hlt : lt e.name nm
                 · have hb : Op.bytesLess e.name.toList nm.toList = true := by rw [less_lt]; simpa using hlt
                   go_wp2_with fail
                   go_quiet (fail)
                   go_wp2_with fail
                   go_roundw
                   case rel => exact ⟨p + 1, by go_num, by omega, Lib.hid (by
                     intro x hx
                     rw [List.take_add_one, HU.out] at hx
                     rcases List.mem_append.1 hx with hx | hx
                     · exact HLT.out x hx
                     · simp at hx; subst hx; exact hlt), Lib.hid (below_drewN' HBX.out _)⟩
                   case measure => simp [intOf]; omega
                 · have hb : Op.bytesLess e.name.toList nm.toList = false := by rw [less_lt]; simpa using hlt
                   go_wp2_with fail
                   go_quiet (fail)
                   go_wp2_with fail
                   go_meet
                   exact Lib.hid ⟨p, rfl, by rw [HN.out]; exact hp, HLT.out, fun x hx => by rw [HU.out] at hx; cases hx; exact hlt, below_drewN' HBX.out _⟩
               · have dp : ¬ (p : Int) < (N : Int) := by omega
                 have dpf : decide ((p : Int) < (N : Int)) = false := by simp; omega
                 go_wp2_with fail
                 go_quiet (fail)
                 go_wp2_with fail
                 go_meet
                 exact Lib.hid ⟨p, rfl, by rw [HN.out]; exact hp, HLT.out, fun x hx => (by have := (List.getElem?_eq_some_iff.1 hx).1; have := HN.out; omega), below_drewN' HBX.out _⟩
       · have d2 : ¬ (k : Int) < 60 := by omega
         go_wp2_with fail
         go_meet
         exact Lib.hid ⟨k, hk60, HK.out⟩
     · have d1 : ¬ (k : Int) < (n : Int) := by omega
       go_wp2_with fail
       go_meet
       exact Lib.hid ⟨k, hk60, HK.out⟩
end Go.Proofs.Ytfaoeajaahnooaa.cel
