/- The reference's list: After. -/
import Derived.Test.YtbaepjjanjhliaaRef02
import Derived.Test.YtbaepjjanjhliaaOrderI
namespace Go.Proofs.Ytbaepjjanjhliaa.ref02
set_option linter.unusedVariables false
open Go.RowKit ref01

theorem place_no {L : List Int} {s : Int} (h : s ∉ L) : placeF L s = -1 := if_neg h
theorem place_at {L : List Int} (hn : L.Nodup) {p : Nat} {s : Int} (h : L[p]? = some s) : placeF L s = (p : Int) := by
  unfold placeF
  rw [if_pos (List.mem_of_getElem? h)]
  have h1 : L.idxOf s < L.length := List.idxOf_lt_length_of_mem (List.mem_of_getElem? h)
  have h2 : L[L.idxOf s]? = some s := by rw [List.getElem?_eq_getElem h1, List.getElem_idxOf h1]
  rw [ord.idx_inj hn h2 h]
/-- the document's list by value: its stamps' row, its numbers; all its rows keep from the blocks X -/
def RS (X : Nat → Prop) (r : Ar Int) (L : List Int) (v : Value) (W : World) : Prop :=
  ∃ aO cO aT cT aU cU aF cF ts, v = lst aO L.length cO r.room aT r.sl.length cT aU r.sl.length cU aF r.fr.length cF ∧ RefAt X r ts aT cT aU cU aF cF W ∧ Row W (.slice aO L.length cO) 1 L.length (ints L) ∧ (L.length ≠ 0 → ∀ x, aO = some x → ¬ X x.block) ∧ L.length ≤ cO
abbrev zl : List Value := [.slice none 0 0, .int .i64 0, .slice none 0 0, .slice none 0 0, .slice none 0 0]
theorem boxes5 {w : World} (a b c d e : Value) :
    (∀ w1, Below ((w.alloc (.cells #[a, b, c, d, e] TM)).alloc (.cells zl.toArray TM)).heap.size ((w.alloc (.cells #[a, b, c, d, e] TM)).alloc (.cells zl.toArray TM)) w1 →
      Flds w1 w.heap.size TM [a, b, c, d, e] ∧ Flds w1 (w.heap.size + 1) TM zl ∧ Below w.heap.size w w1) ∧ Below w.heap.size w ((w.alloc (.cells #[a, b, c, d, e] TM)).alloc (.cells zl.toArray TM)) := by
  have hb0 : Below w.heap.size w ((w.alloc (.cells #[a, b, c, d, e] TM)).alloc (.cells zl.toArray TM)) := ((Below.refl _ _).alloc (Nat.le_refl _) _).alloc (by simp) _
  refine ⟨fun w1 hb => ?_, hb0⟩
  have h1 : Flds (w.alloc (.cells #[a, b, c, d, e] TM)) w.heap.size TM [a, b, c, d, e] := Flds.new w TM _
  have h2 := Flds.new (w.alloc (.cells #[a, b, c, d, e] TM)) TM zl
  rw [World.size_alloc] at h2
  exact ⟨(h1.alloc _).later hb, h2.later hb, hb0.trans (hb.mono hb0.size)⟩
set_option maxRecDepth 100000 in
set_option maxHeartbeats 400000 in
theorem after_no {X : Nat → Prop} {r : Ar Int} {L : List Int} {v : Value} {w : World} (h : RS X r L v w) (hm : L.length ≤ 1048576) {s : Int} (hs : s ∉ L) :
    Calls Try.prog 31 #[v, .int .i64 s] w fun e w' => e = .returned (.tuple #[v, .int .i64 0, .bool false]) ∧ Below w.heap.size w w' := by
  obtain ⟨aO, cO, aT, cT, aU, cU, aF, cF, ts, rfl, h1, h2, h3, h4⟩ := h
  have hA := fun W (hB : Below w.heap.size w W) => at_any aO L cO r.room aT r.sl.length cT aU r.sl.length cU aF r.fr.length cF W (h2.later hB) hm s
  rw [place_no hs] at hA
  have HA := Lib.hid hA
  clear hA h1 h2 h3 h4
  go_enter Try.func31, Try.ntmps31
  go_wp2_with fail
  obtain ⟨hbx, hb0⟩ := boxes5 (w := w) (.slice aO L.length cO) (.int .i64 r.room) (.slice aT r.sl.length cT) (.slice aU r.sl.length cU) (.slice aF r.fr.length cF)
  (with_reducible refine (HA.out _ hb0).mono ?_); rintro e w1 ⟨rfl, hb1⟩
  obtain ⟨F1, F2, hB1⟩ := hbx _ hb1
  have HB1 := Lib.hid hB1
  have c0 := F1.cell 0; have c1 := F1.cell 1; have c2 := F1.cell 2; have c3 := F1.cell 3; have c4 := F1.cell 4
  have z0 := F2.cell 0; have z1 := F2.cell 1; have z2 := F2.cell 2; have z3 := F2.cell 3; have z4 := F2.cell 4
  have y0 := F2.frozen 0; have y1 := F2.frozen 1; have y2 := F2.frozen 2; have y3 := F2.frozen 3; have y4 := F2.frozen 4
  have lz := F2.lt
  simp only [List.getElem?_cons_zero, List.getElem?_cons_succ] at c0 c1 c2 c3 c4 z0 z1 z2 z3 z4
  clear F1 F2 hb0 hb1 HA hbx hB1
  go_wp2
  refine bodyPost_ret (v := .tuple #[lst aO L.length cO r.room aT r.sl.length cT aU r.sl.length cU aF r.fr.length cF, .int .i64 0, .bool false]) (by simp [results, Try.results31, go_sem, z0, z1, z2, z3, z4]) rfl ⟨rfl, ?_⟩
  exact (((((HB1.out.setCell (p := ⟨w.heap.size + 1, 0, none⟩) (Nat.le_succ _) _).setCell (p := ⟨w.heap.size + 1, 1, none⟩) (Nat.le_succ _) _).setCell (p := ⟨w.heap.size + 1, 2, none⟩) (Nat.le_succ _) _).setCell (p := ⟨w.heap.size + 1, 3, none⟩) (Nat.le_succ _) _).setCell (p := ⟨w.heap.size + 1, 4, none⟩) (Nat.le_succ _) _)
theorem ints_ins (L : List Int) (p : Nat) (n : Int) : [] ++ (ints L).take (p + 1) ++ [.int .i64 n] ++ (ints L).drop (p + 1) = ints (ord.ins L p n) := by
  unfold ord.ins
  simp
theorem row_take {w : World} {a : Option Addr} {n c m : Nat} {xs : List Value} (h : Row w (.slice a n c) 1 n xs) (hm : m ≤ n) (c' : Nat) : Row w (.slice a m c') 1 m (xs.take m) := by
  have hl := h.len
  obtain ⟨a', cap, ea, _, hr⟩ := h
  simp only [Value.slice.injEq] at ea
  obtain ⟨rfl, -, rfl⟩ := ea
  refine ⟨_, _, rfl, by rw [List.length_take]; omega, ?_⟩
  rcases hr with h0 | ⟨b, off, rfl, hc⟩
  · exact .inl (by omega)
  · exact .inr ⟨b, off, rfl, fun j hj => by rw [hc j (by omega), List.getElem?_take_of_lt (by omega)]⟩
theorem row_drop {w : World} {b off n c m : Nat} {xs : List Value} (h : Row w (.slice (some ⟨b, off, none⟩) n c) 1 n xs) (hm : m ≤ n) (c' : Nat) (A : Option Addr) (hA : m < n → A = some ⟨b, off + m, none⟩) : Row w (.slice A (n - m) c') 1 (n - m) (xs.drop m) := by
  have hl := h.len
  obtain ⟨a', cap, ea, _, hr⟩ := h
  simp only [Value.slice.injEq] at ea
  obtain ⟨rfl, -, rfl⟩ := ea
  refine ⟨_, _, rfl, by rw [List.length_drop]; omega, ?_⟩
  by_cases h0 : n - m = 0
  · exact .inl h0
  · refine .inr ⟨b, off + m, hA (by omega), fun j hj => ?_⟩
    rcases hr with h0 | ⟨b', off', e, hc⟩
    · omega
    · cases e
      rw [List.getElem?_drop, ← hc (m + j) (by omega), Nat.add_assoc]
theorem five {W : World} {b : Nat} {q0 q1 q2 q3 q4 : Value} (h : Flds W b TM [q0, q1, q2, q3, q4]) (v0 v1 v2 v3 v4 : Value) :
    W.grownBy (((((W.setCell ⟨b, 0, none⟩ v0).setCell ⟨b, 1, none⟩ v1).setCell ⟨b, 2, none⟩ v2).setCell ⟨b, 3, none⟩ v3).setCell ⟨b, 4, none⟩ v4) (some b) ∧
    Flds (((((W.setCell ⟨b, 0, none⟩ v0).setCell ⟨b, 1, none⟩ v1).setCell ⟨b, 2, none⟩ v2).setCell ⟨b, 3, none⟩ v3).setCell ⟨b, 4, none⟩ v4) b TM [v0, v1, v2, v3, v4] :=
  ⟨grown_trans (grown_trans (grown_trans (grown_trans (grown_setCell _ _ _) (grown_setCell _ ⟨b, 1, none⟩ _)) (grown_setCell _ ⟨b, 2, none⟩ _)) (grown_setCell _ ⟨b, 3, none⟩ _)) (grown_setCell _ ⟨b, 4, none⟩ _),
    ((((h.set 0 v0).set 1 v1).set 2 v2).set 3 v3).set 4 v4⟩
theorem app_below {base : Nat} {e : TypeId} {size : Nat} {v : Value} {n m : Nat} {xs news : List Value} {w : World} {v' : Value} {w' : World} (h : Appended base e size v n m xs news w v' w') (hb : base ≤ w.heap.size) : Below base w w' :=
  ⟨h.grown.os, h.grown.tape, h.grown.output, h.grown.size, fun k hk => h.grown.block k (by omega) (fun q => by have := (h.old.lt k q.symm).1; omega)⟩
theorem room_alloc (s : Ar Int) (x : Int) : (s.alloc x).1.room = s.room := by
  unfold Ar.alloc
  split
  · rfl
  · split <;> rfl
theorem one_list (l : List Int) (f : List Value → List Value) (hf : ∀ u, u ∈ f (ints l) → u ∈ ints l) : ∀ u ∈ f (ints l), u.oneCell' = true := fun u hu => one_int l u (hf u hu)
/-- the document's list, once a row of the call's own was laid -/
theorem RS.mk8 {X X' : Nat → Prop} {w W3 w7 w8 : World} {r' : Ar Int} {room : Int} {L' : List Int} {n' : Nat} {a7 : Option Addr} {c7 : Nat} {aT aU aF : Option Addr} {cT cU cF : Nat} {ts : List Int} (hroom : r'.room = room) (hl : ∀ k, X k → k < w.heap.size) (hR : RefAt X' r' ts aT cT aU cU aF cF w7) (hX : ∀ k, X k → X' k)
    (ho7 : w7.ownsRow W3.heap.size 3 1 (.slice a7 n' c7) n' (ints L')) (ho : Only (fun k => k = w.heap.size + 1) w7 w8) (hz : w.heap.size + 1 < W3.heap.size) (hn : 0 < n') (hk : ∀ k, k = w.heap.size + 1 → X' k) (hn' : n' = L'.length) {m : Nat} (hm : m = n') :
    RS X r' L' (lst a7 m c7 room aT r'.sl.length cT aU r'.sl.length cU aF r'.fr.length cF) w8 := by
  subst hm
  subst hn'
  subst hroom
  refine ⟨a7, c7, aT, cT, aU, cU, aF, cF, ts, rfl, (hR.only (ho.mono fun k _ e => hk k e)).sub hX, (Row.of_owns ho7).only ho (fun g hg e => by have := (ho7.lt g hg).1; omega), fun h0 x hx hX' => ?_, owns_le ho7⟩
  obtain ⟨g, e, hg, -⟩ := owns_cellAt ho7 hn
  rw [hx] at e
  cases e
  have := hl _ hX'
  dsimp only at this
  omega
set_option maxRecDepth 100000 in
set_option maxHeartbeats 1000000 in
theorem after_yes {X : Nat → Prop} {r : Ar Int} {L : List Int} {v : Value} {w : World} (hok : r.Ok) (hl : ∀ k, X k → k < w.heap.size) (h : RS X r L v w) (hm : L.length ≤ 1000000) (hn : L.Nodup) {p : Nat} {s n : Int} (hp : L[p]? = some s) {r' : Ar Int} (hal : r.alloc 0 = (r', n, true)) :
    Calls Try.prog 31 #[v, .int .i64 s] w fun e w' => ∃ v', e = .returned (.tuple #[v', .int .i64 n, .bool true]) ∧ RS X r' (ord.ins L p n) v' w' ∧ Below w.heap.size w w' := by
  obtain ⟨aO, cO, aT, cT, aU, cU, aF, cF, ts, rfl, h1, h2, h3, h4⟩ := h
  have hpl := (List.getElem?_eq_some_iff.1 hp).1
  have hA := fun W (hB : Below w.heap.size w W) => at_any aO L cO r.room aT r.sl.length cT aU r.sl.length cU aF r.fr.length cF W (h2.later hB) (by omega) s
  rw [place_at hn hp] at hA
  have HA := Lib.hid hA
  have H1 := Lib.hid h1; have H2 := Lib.hid h2
  obtain ⟨b, off, cap, ea, -⟩ := h2.pos (by omega)
  simp only [Value.slice.injEq] at ea
  obtain ⟨rfl, -, rfl⟩ := ea
  clear hA h1 h2 h3
  have hd0 : (0 : Int) ≤ (p : Int) := by omega
  have hw1 : IntKind.i64.wrap ((p : Int) + 1) = (p : Int) + 1 := IntWalk.i64_in _ (by omega)
  go_enter Try.func31, Try.ntmps31
  go_wp2_with fail
  obtain ⟨hbx, hb0⟩ := boxes5 (w := w) (.slice (some ⟨b, off, none⟩) L.length cO) (.int .i64 r.room) (.slice aT r.sl.length cT) (.slice aU r.sl.length cU) (.slice aF r.fr.length cF)
  have hR0 := H1.out.step (Only.of_below (own := X) hb0)
  have HR0 := Lib.hid hR0
  have hx0 : ∀ k, ownNew X w ((w.alloc (.cells #[.slice (some ⟨b, off, none⟩) L.length cO, .int .i64 r.room, .slice aT r.sl.length cT, .slice aU r.sl.length cU, .slice aF r.fr.length cF] TM)).alloc (.cells zl.toArray TM)) k → k < w.heap.size + 2 := by
    rintro k (hk | hk)
    · have := hl k hk; omega
    · have := hk.2; simp at this; omega
  have HX0 := Lib.hid hx0
  have hsz0 : ((w.alloc (.cells #[.slice (some ⟨b, off, none⟩) L.length cO, .int .i64 r.room, .slice aT r.sl.length cT, .slice aU r.sl.length cU, .slice aF r.fr.length cF] TM)).alloc (.cells zl.toArray TM)).heap.size = w.heap.size + 2 := by simp
  (with_reducible refine (HA.out _ hb0).mono ?_); rintro e w1 ⟨rfl, hb1⟩
  obtain ⟨F1, F2, hB1⟩ := hbx _ hb1
  have hz1 := hb1.size
  rw [hsz0] at hz1
  have hR1 := HR0.out.later hb1
  obtain ⟨ts', hAl⟩ := alloc_step hok (fun k hk => by have := HX0.out k hk; omega) hR1 0
  rw [hal] at hAl
  have HAL := Lib.hid hAl
  have HB1 := Lib.hid hB1
  have HF1 := Lib.hid F1; have HF2 := Lib.hid F2
  have c0 := F1.cell 0; have c1 := F1.cell 1; have c2 := F1.cell 2; have c3 := F1.cell 3; have c4 := F1.cell 4
  simp only [List.getElem?_cons_zero, List.getElem?_cons_succ] at c0 c1 c2 c3 c4
  clear F1 F2 hb0 hb1 HA hbx hB1 hR0 hR1 hx0 hAl hsz0
  go_wp2_with fail
  (with_reducible refine HAL.out.mono ?_); rintro e w2 ⟨⟨aT', cT', aU', cU', aF', cF', rfl, hR2⟩, hb2⟩
  have HR2 := Lib.hid hR2
  have hz2 := hb2.size
  have HB2 := Lib.hid (HB1.out.trans (hb2.mono HB1.out.size))
  have HG1 := Lib.hid (HF1.out.later hb2); have HG2 := Lib.hid (HF2.out.later hb2)
  clear hb2 hR2 c0 c1 c2 c3 c4 HAL HF1 HF2
  have c0 := HG1.out.cell 0; have c1 := HG1.out.cell 1; have c2 := HG1.out.cell 2; have c3 := HG1.out.cell 3; have c4 := HG1.out.cell 4
  simp only [List.getElem?_cons_zero, List.getElem?_cons_succ] at c0 c1 c2 c3 c4
  obtain ⟨i0, hi, hz0, hz1', hz2'⟩ := info_parts infoInt
  go_upto_region 5 with fail
  have hroom : r'.room = r.room := by have := room_alloc r 0; rw [hal] at this; exact this
  have hb3 : Below w2.heap.size w2 (w2.alloc (.cells #[.int .i64 r.room, .slice aT' r'.sl.length cT', .slice aU' r'.sl.length cU', .slice aF' r'.fr.length cF'] TR)) := (Below.refl _ _).alloc (Nat.le_refl _) _
  have F8 := Flds.new w2 TR [.int .i64 r.room, .slice aT' r'.sl.length cT', .slice aU' r'.sl.length cU', .slice aF' r'.fr.length cF']
  have hR3 := Lib.hid (HR2.out.later hb3)
  have hB3 := Lib.hid (HB2.out.trans (hb3.mono HB2.out.size))
  have G1 := Lib.hid (HG1.out.later hb3); have G2 := Lib.hid (HG2.out.later hb3)
  have hz3 : w2.heap.size < (w2.alloc (.cells #[.int .i64 r.room, .slice aT' r'.sl.length cT', .slice aU' r'.sl.length cU', .slice aF' r'.fr.length cF'] TR)).heap.size := F8.lt
  have HF8 := Lib.hid F8
  clear hb3 F8 HR2 HB2 HG1 HG2 c0 c1 c2 c3 c4
  generalize w2.alloc (.cells #[.int .i64 r.room, .slice aT' r'.sl.length cT', .slice aU' r'.sl.length cU', .slice aF' r'.fr.length cF'] TR) = W3 at *
  generalize w2.heap.size = g8 at *
  have HRO := Lib.hid (H2.out.later hB3.out)
  have hbe := (Below.refl W3.heap.size W3).alloc (Nat.le_refl _) (.cells #[] 3)
  have HRT := Lib.hid (row_take (HRO.out.later hbe) (show p + 1 ≤ L.length by omega) cO)
  have E1 := Lib.hid (Flds.new W3 3 [])
  have c0 := G1.out.cell 0
  simp only [List.getElem?_cons_zero, List.getElem?_cons_succ] at c0
  have lg := G1.out.lt
  have hn1 : ((p : Int) + 1).toNat = p + 1 := by omega
  have hc1 : (p : Int) + 1 ≤ (cO : Int) := by omega
  have hc2 : (p : Int) + 1 ≤ (L.length : Int) := by omega
  have h63 : 0 + (p + 1) ≤ maxLen := by unfold maxLen; omega
  have h64 : (0 + (p + 1)) * 8 ≤ 140737488355328 := by omega
  have HONE1 := Lib.hid (one_list L (fun l => l.take (p + 1)) (fun u => List.mem_of_mem_take))
  go_wp2_with (at_builtin; refine wpList_append_row _ rfl (.tmp 25) (.tmp 30) 26 (by rfl) W3.heap.size 3 i0 (.int .i64 0) 1 8 Try.underlying26 hi hz0 hz1' hz2' rfl (by decide) (.slice (some ⟨W3.heap.size, 0, none⟩) 0 0) 0 [] (by rfl) (owns_of_flds (m := 0) E1.out rfl (Nat.le_refl _) (by decide)) (.slice (some ⟨b, off, none⟩) (p + 1) cO) (p + 1) ((ints L).take (p + 1)) (by rfl) HRT.out HONE1.out h63 h64 hbe.size ?_)
  intro a4 c4 w4 hap4
  have hb4 := Lib.hid ((hbe.trans ((app_below hap4 hbe.size).mono (Nat.le_refl _))))
  have ho4 := hap4.own
  rw [Nat.zero_add, List.nil_append] at ho4
  have HO4 := Lib.hid ho4
  have hz4 := hb4.out.size
  clear hap4 hbe HRT E1 c0 ho4
  have hbe := hb4.out.alloc hz4 (.cells #[.int .i64 n] 3)
  have HO4' := Lib.hid (HO4.out.alloc (.cells #[.int .i64 n] 3))
  have HR4 := Lib.hid (Row.of_flds (m := 1) (size := 1) (Flds.new w4 3 [.int .i64 n]) rfl 1)
  have h65 : p + 1 + 1 ≤ maxLen := by unfold maxLen; omega
  have h66 : (p + 1 + 1) * 8 ≤ 140737488355328 := by omega
  have HONE2 := Lib.hid (one_int [n])
  go_wp2_with (at_builtin; refine wpList_append_row _ rfl (.tmp 32) (.tmp 34) 26 (by rfl) W3.heap.size 3 i0 (.int .i64 0) 1 8 Try.underlying26 hi hz0 hz1' hz2' rfl (by decide) (.slice a4 (p + 1) c4) (p + 1) _ (by rfl) HO4'.out (.slice (some ⟨w4.heap.size, 0, none⟩) 1 1) 1 [.int .i64 n] (by rfl) HR4.out HONE2.out h65 h66 hbe.size ?_)
  intro a5 c5 w5 hap5
  have hb5 := Lib.hid ((hbe.trans ((app_below hap5 hbe.size).mono (Nat.le_refl _))))
  have HO5 := Lib.hid hap5.own
  have hz5 := hb5.out.size
  clear hap5 hbe HO4 HO4' HR4
  go_upto_region 7 with fail
  have c0 := (G1.out.later hb5.out).cell 0
  have q0 := (HF8.out.later hb5.out).cell 0; have q1 := (HF8.out.later hb5.out).cell 1; have q2 := (HF8.out.later hb5.out).cell 2; have q3 := (HF8.out.later hb5.out).cell 3
  simp only [List.getElem?_cons_zero, List.getElem?_cons_succ] at c0 q0 q1 q2 q3
  obtain ⟨A, hA, HRD⟩ : ∃ A : Option Addr, (if cO = p + 1 then some (⟨b, off, none⟩ : Addr) else some ⟨b, off + (p + 1), none⟩) = A ∧ Hid (∀ W, Below W3.heap.size W3 W → Row W (.slice A (L.length - (p + 1)) (cO - (p + 1))) 1 (L.length - (p + 1)) ((ints L).drop (p + 1))) :=
    ⟨_, rfl, Lib.hid (fun W hb => row_drop (HRO.out.later hb) (by omega) _ _ (fun h => by rw [if_neg (by omega)]))⟩
  have h67 : p + 1 + 1 + (L.length - (p + 1)) ≤ maxLen := by unfold maxLen; omega
  have h68 : (p + 1 + 1 + (L.length - (p + 1))) * 8 ≤ 140737488355328 := by omega
  have HONE3 := Lib.hid (one_list L (fun l => l.drop (p + 1)) (fun u => List.mem_of_mem_drop))
  have hc0 : (0 : Int) ≤ (p : Int) + 1 := by omega
  have HO5d := Lib.hid HO5.out.drew
  have hb5d := Lib.hid hb5.out.drew
  have KEEP : Hid (∀ a7 c7 w7, Appended W3.heap.size 3 1 (.slice a5 (p + 1 + 1) c5) (p + 1 + 1) (L.length - (p + 1)) ((ints L).take (p + 1) ++ [.int .i64 n]) ((ints L).drop (p + 1)) w5.drew (.slice a7 (p + 1 + 1 + (L.length - (p + 1))) c7) w7 →
      Below W3.heap.size W3 w7 ∧ w7.ownsRow W3.heap.size 3 1 (.slice a7 (L.length + 1) c7) (L.length + 1) (ints (ord.ins L p n))) := Lib.hid (fun a7 c7 w7 hap => by
    refine ⟨hb5d.out.trans (app_below hap hb5d.out.size), ?_⟩
    have h := hap.own
    rw [show p + 1 + 1 + (L.length - (p + 1)) = L.length + 1 by omega] at h
    have e := ints_ins L p n
    rw [List.nil_append] at e
    rwa [e] at h)
  go_region_law (refine step_append_row _ rfl (.tmp 36) (.tmp 41) 26 (by rfl) W3.heap.size 3 i0 (.int .i64 0) 1 8 Try.underlying26 hi hz0 hz1' hz2' rfl (by decide) (.slice a5 (p + 1 + 1) c5) (p + 1 + 1) _ (by rfl) HO5d.out (.slice A (L.length - (p + 1)) (cO - (p + 1))) (L.length - (p + 1)) ((ints L).drop (p + 1)) (by rfl) (HRD.out _ hb5d.out) HONE3.out h67 h68 hb5d.out.size ?_; intro a7 c7 w7 hap7; obtain ⟨hb7, ho7⟩ := KEEP.out _ _ _ hap7; have hb7 := Lib.hid hb7; have ho7 := Lib.hid ho7; clear hap7 KEEP HO5d hb5d HO5 hb5; have c0 := (G1.out.later hb7.out).cell 0; have q0 := (HF8.out.later hb7.out).cell 0; have q1 := (HF8.out.later hb7.out).cell 1; have q2 := (HF8.out.later hb7.out).cell 2; have q3 := (HF8.out.later hb7.out).cell 3; have z0 := (G2.out.later hb7.out).cell 0; have z1 := (G2.out.later hb7.out).cell 1; have z2 := (G2.out.later hb7.out).cell 2; have z3 := (G2.out.later hb7.out).cell 3; have z4 := (G2.out.later hb7.out).cell 4; have y0 := (G2.out.later hb7.out).frozen 0; have y1 := (G2.out.later hb7.out).frozen 1; have y2 := (G2.out.later hb7.out).frozen 2; have y3 := (G2.out.later hb7.out).frozen 3; have y4 := (G2.out.later hb7.out).frozen 4; have lz := (G2.out.later hb7.out).lt; simp only [List.getElem?_cons_zero, List.getElem?_cons_succ] at c0 q0 q1 q2 q3 z0 z1 z2 z3 z4)
  all_goals go_wp2
  all_goals
    obtain ⟨hgr, hfl⟩ := five (G2.out.later hb7.out) (.slice a7 (p + 1 + 1 + (L.length - (p + 1))) c7) (.int .i64 r.room) (.slice aT' r'.sl.length cT') (.slice aU' r'.sl.length cU') (.slice aF' r'.fr.length cF')
    have hN : p + 1 + 1 + (L.length - (p + 1)) = L.length + 1 := by omega
    have z0 := hfl.cell 0; have z1 := hfl.cell 1; have z2 := hfl.cell 2; have z3 := hfl.cell 3; have z4 := hfl.cell 4
    simp only [List.getElem?_cons_zero, List.getElem?_cons_succ] at z0 z1 z2 z3 z4
    have ho : Only (fun k => k = w.heap.size + 1) w7 _ := (Only.refl _ w7).grown hgr (fun k e _ => by cases e; rfl)
    have hz7 := hb7.out.size
    have hzw := hB3.out.size
    have HB8 := Lib.hid ((hB3.out.trans (hb7.out.mono hB3.out.size)).trans (ho.below (by omega) (fun k e => by omega)))
    have HRS := Lib.hid (RS.mk8 (X := X) (r' := r') (c7 := c7) hroom hl (hR3.out.later hb7.out) (fun k h => .inl h) ho7.out ho (by omega) (by omega) (by rintro k rfl; exact .inr ⟨by omega, by simp⟩) ord.ins_len.symm hN)
    clear ho hgr hfl hb7 ho7 hB3 hR3 G1 G2 HF8 HRO HRD hb4 H1 H2 HR0 HX0 HB1 HONE1 HONE2 HONE3
    refine bodyPost_ret (v := .tuple #[lst a7 (p + 1 + 1 + (L.length - (p + 1))) c7 r.room aT' r'.sl.length cT' aU' r'.sl.length cU' aF' r'.fr.length cF', .int .i64 n, .bool true]) (by simp [results, Try.results31, go_sem, z0, z1, z2, z3, z4]) rfl ⟨_, rfl, HRS.out, HB8.out⟩
end Go.Proofs.Ytbaepjjanjhliaa.ref02
