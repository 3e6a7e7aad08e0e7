/- A value of its bytes in a row's key, walked. -/
import Derived.Test.YtpkkhbmlclicfaaDoorRowE
import Derived.Test.YtpkkhbmlclicfaaDoorRowQ
namespace Go.Proofs.YtpkkhbmlclicfaaDoor.val
set_option linter.unusedVariables false
open Go.RowKit
attribute [local go_sem] ag.upon_value ag.upon_skip ag.upon_enter ags.upon_value ags.upon_skip ags.upon_enter ags.uponS_skip
attribute [local go_sem] Oper.semAt_some

/-- what decode tells -/
def DecPost (s : ByteArray) (W : World) (e : Ending) (w' : World) : Prop :=
  ∃ k n t, e = .returned (.tuple #[ag3 k n t, .bool (shapeB s)]) ∧ (shapeB s = true → Good ⟨k, n, t⟩ ∧ encB ⟨k, n, t⟩ = s.data.toList) ∧ Below W.heap.size W w'
/-- the world behind a store of a value -/
def st3 (w : World) (g : Nat) (k n : Int) (t : ByteArray) : World := ((w.setCell ⟨g, 0, none⟩ (.int .i64 k)).setCell ⟨g, 1, none⟩ (.int .i64 n)).setCell ⟨g, 2, none⟩ (.string t)
theorem st3_self {w : World} {g : Nat} {k n : Int} {t : ByteArray} {x y z : Value} (h : Flds w g TV [x, y, z]) : Flds (st3 w g k n t) g TV [.int .i64 k, .int .i64 n, .string t] := ((h.set 0 _).set 1 _).set 2 _
/-- the region's world: only the result's block has turned -/
def SD (X : World) (g : Nat) (W : World) : Prop := Only (fun k => k = g) X W ∧ ∃ x y z, Flds W g TV [x, y, z]
theorem SD.step {X : World} {g : Nat} {W W' : World} (h : SD X g W) (hb : Below W.heap.size W W') : SD X g W' := by
  obtain ⟨h1, x, y, z, h2⟩ := h
  exact ⟨h1.trans (Only.of_below (own := fun _ => False) hb) (fun _ _ h => h.elim), x, y, z, h2.later hb⟩
theorem SD.st {X : World} {g : Nat} {W : World} {k n : Int} {t : ByteArray} (h : SD X g W) : SD X g (st3 W g k n t) := by
  obtain ⟨h1, x, y, z, h2⟩ := h
  exact ⟨((h1.setCell _ _ (fun _ => rfl)).setCell _ _ (fun _ => rfl)).setCell _ _ (fun _ => rfl), _, _, _, st3_self h2⟩
theorem SD.cells {X W : World} {g g4 : Nat} {k n : Int} {t : ByteArray} (h : SD X g W) (hf : Flds X g4 TV [.int .i64 k, .int .i64 n, .string t]) (hne : g4 ≠ g) : W.cell? ⟨g4, 0, none⟩ = some (.int .i64 k) ∧ W.cell? ⟨g4, 1, none⟩ = some (.int .i64 n) ∧ W.cell? ⟨g4, 2, none⟩ = some (.string t) :=
  ⟨cell_only (hf.cell 0) h.1 hne, cell_only (hf.cell 1) h.1 hne, cell_only (hf.cell 2) h.1 hne⟩
theorem Flds_tri {w : World} {g : Nat} {a b c : Value} (h : Flds w g TV [a, b, c]) : w.cell? ⟨g, 0, none⟩ = some a ∧ w.cell? ⟨g, 1, none⟩ = some b ∧ w.cell? ⟨g, 2, none⟩ = some c := ⟨h.cell 0, h.cell 1, h.cell 2⟩

set_option maxRecDepth 100000 in
set_option maxHeartbeats 2000000 in
theorem decode_no (s : ByteArray) (h : s.size = 0) (W : World) : Calls Tryd.prog 62 #[.string s] W (DecPost s W) := by
  have hs := shape_nil h
  have he := empty_of_size s h
  subst he
  have HS := Lib.hid hs
  clear hs
  go_enter Tryd.func62, Tryd.ntmps62
  go_wp2
  refine bodyPost_ret (v := .tuple #[ag3 0 0 nob, .bool false]) ?_ (by rfl) ⟨0, 0, nob, ?_, ?_, ?_⟩
  · simp only [results, Tryd.results62]; go_simp
  · rw [HS.out]
  · intro h; rw [HS.out] at h; cases h
  · (repeat' (first | assumption | exact Below.refl _ _ | apply Below.setCell | apply Below.alloc))
    all_goals (first | omega | (simp; omega) | (simp; done))

/-- what is known ahead of the last region -/
def DecCut (s : ByteArray) (W : World) (g2 g4 : Nat) (wx : World) : Prop :=
  ∃ k n t, Flds wx g2 TV [.int .i64 0, .int .i64 0, .string nob] ∧ Flds wx g4 TV [.int .i64 k, .int .i64 n, .string t] ∧ DecF s k n t ∧ Below W.heap.size W wx

set_option maxRecDepth 100000 in
set_option maxHeartbeats 4000000 in
theorem decode_yes (s : ByteArray) (hs : s.size ≤ 1099511627776) (b : UInt8) (r : List UInt8) (h : s.data.toList = b :: r) (W : World) : Calls Tryd.prog 62 #[.string s] W (DecPost s W) := by
  have hl : s.data.toList.length = s.size := by rw [← ByteArray.size_data]; simp
  have hz : 0 < s.size := by rw [← hl, h]; simp
  have hrl : s.size = r.length + 1 := by rw [← hl, h]; simp
  have hne := isEmpty_of_size s (by omega)
  rw [← ByteArray.toList_eq] at hne
  have hb0 : s[0] = b := by
    have h1 : s.data.toList[0]? = some b := by rw [h]; rfl
    have h2 : s.data.toList[0]? = some s[0] := by
      rw [List.getElem?_eq_getElem (by omega)]; rfl
    rw [h1] at h2
    exact (Option.some.inj h2).symm
  have hbl : (b.toNat : Int) < 256 := by have := b.toNat_lt; omega
  have hbg : (0 : Int) ≤ (b.toNat : Int) := by omega
  have H := Lib.hid h
  have HRL := Lib.hid hrl
  clear hl h hrl
  go_enter Tryd.func62, Tryd.ntmps62
  go_upto_block 0 with fail
  have hL := Lib.hid hs
  clear hs
  go_cut [5] from 6 to 36 (fun _ wx => Hid (DecCut s W W.heap.size (W.heap.size + 1) wx))
  case first =>
    have F2 := Lib.hid (fun (x y z : Value) => (Flds.new W TV [.int .i64 0, .int .i64 0, .string nob]).alloc (.cells #[x, y, z] TV))
    have F4 := Lib.hid (fun (x y z : Value) => by have h := Flds.new (W.alloc (.cells #[.int .i64 0, .int .i64 0, .string nob] TV)) TV [x, y, z]; rwa [World.size_alloc] at h)
    by_cases h1 : b.toNat = 1
    · have e1 : ((b.toNat : Int) == 1) = true := by simp [h1]
      have H1 := Lib.hid h1
      clear h1
      have hb1 : b = 1 := UInt8.toNat_inj.1 H1.out
      have HB := Lib.hid hb1
      clear hb1
      by_cases h2 : s.size = 2
      · have e2 : ((s.size : Int) == 2) = true := by simp [h2]
        have e3 : (1 : Int) < (s.size : Int) := by omega
        have hz1 : 1 < s.size := by omega
        have H2 := Lib.hid h2
        clear h2
        have hc : (s[1].toNat : Int) < 256 := by have := s[1].toNat_lt; omega
        have hc0 : (0 : Int) ≤ (s[1].toNat : Int) := by omega
        go_wp2_with fail
        go_meet
        refine Lib.hid ⟨_, _, _, F2.out _ _ _, F4.out _ _ _, ?_, below_alloc2 _ _ _⟩
        rw [H1.out]
        refine dec_1 ?_
        have hr : r.length = 1 := by have := HRL.out; have := H2.out; omega
        obtain ⟨c, rfl⟩ := List.length_eq_one_iff.1 hr
        have h3 : s.data.toList[1]? = some s[1] := by
          rw [List.getElem?_eq_getElem (by have : s.data.toList.length = s.size := by rw [← ByteArray.size_data]; simp
                                           omega)]; rfl
        rw [H.out] at h3 ⊢
        simp only [List.getElem?_cons_succ, List.getElem?_cons_zero, Option.some.injEq] at h3
        rw [← h3, HB.out]
      · have e2 : ((s.size : Int) == 2) = false := by simp; omega
        have H2 := Lib.hid h2
        clear h2
        go_wp2_with fail
        go_meet
        refine Lib.hid ⟨_, _, _, F2.out _ _ _, F4.out _ _ _, ?_, below_alloc2 _ _ _⟩
        rw [H1.out]
        exact dec_1n (by rw [H.out, HB.out]) (by have := HRL.out; have := H2.out; omega)
    · have e1 : ((b.toNat : Int) == 1) = false := by simp; omega
      have H1 := Lib.hid h1
      clear h1
      by_cases h2 : b.toNat = 2
      · have e2 : ((b.toNat : Int) == 2) = true := by simp [h2]
        have H2 := Lib.hid h2
        clear h2
        have hb2 : b = 2 := UInt8.toNat_inj.1 H2.out
        have HB := Lib.hid hb2
        clear hb2
        have he := Lib.hid (tail_data H.out).2
        by_cases h3 : r.length = 8
        · have hg := Lib.hid (fun w => getInt_yes (s.extract 1 s.size) (by rw [he.out]; exact h3) w)
          have H3 := Lib.hid h3
          clear h3
          go_wp2_with (go_at_call 77; (with_reducible refine (hg.out _).mono ?_); rintro e w1 ⟨rfl, rfl⟩)
          go_meet
          refine Lib.hid ⟨_, _, _, F2.out _ _ _, F4.out _ _ _, ?_, below_alloc2 _ _ _⟩
          rw [H2.out]
          exact dec_2 (by rw [H.out, HB.out]) H3.out
        · have hg := Lib.hid (fun w => getInt_no (s.extract 1 s.size) (by rw [he.out]; exact h3) w)
          have H3 := Lib.hid h3
          clear h3
          go_wp2_with (go_at_call 77; (with_reducible refine (hg.out _).mono ?_); rintro e w1 ⟨rfl, rfl⟩)
          go_meet
          refine Lib.hid ⟨_, _, _, F2.out _ _ _, F4.out _ _ _, ?_, below_alloc2 _ _ _⟩
          rw [H2.out]
          exact dec_2n (by rw [H.out, HB.out]) H3.out
      · have e2 : ((b.toNat : Int) == 2) = false := by simp; omega
        have H2 := Lib.hid h2
        clear h2
        by_cases h3 : b.toNat = 3
        · have e3 : ((b.toNat : Int) == 3) = true := by simp [h3]
          have H3 := Lib.hid h3
          clear h3
          go_wp2_with fail
          go_meet
          refine Lib.hid ⟨_, _, _, F2.out _ _ _, F4.out _ _ _, ?_, below_alloc2 _ _ _⟩
          rw [H3.out]
          have hb3 : b = 3 := UInt8.toNat_inj.1 H3.out
          exact dec_3 (by rw [H.out, hb3])
        · have e3 : ((b.toNat : Int) == 3) = false := by simp; omega
          have H3 := Lib.hid h3
          clear h3
          have HX : Hid (DecF s (b.toNat : Int) 0 nob) := Lib.hid (by
            by_cases h0 : b.toNat = 0
            · have hb0 : b = 0 := UInt8.toNat_inj.1 h0
              rw [h0]
              exact dec_0 (by rw [H.out, hb0])
            · exact dec_4 H.out h0 H1.out H2.out H3.out)
          go_wp2_with fail
          go_meet
          exact Lib.hid ⟨_, _, _, F2.out _ _ _, F4.out _ _ _, HX.out, below_alloc2 _ _ _⟩
  case rest =>
    have hne2 : W.heap.size + 1 ≠ W.heap.size := by omega
    generalize W.heap.size + 1 = g4 at *
    generalize hg2 : W.heap.size = g2 at *
    obtain ⟨k, n, t, hf2, hf4, hd, hb⟩ := hcut.out
    rw [hg2] at hb
    have hl4 := hf4.lt
    have hl2 := hf2.lt
    have HC := Lib.hid (fun W1 (hS : SD wc g2 W1) => hS.cells hf4 hne2)
    have HD := Lib.hid hd
    have HB := Lib.hid hb
    have HG := Lib.hid hg2
    have HS0 : SD wc g2 wc := ⟨Only.refl _ _, _, _, _, hf2⟩
    have HF := Lib.hid hf2
    clear hcut hf2 hf4 hd hb hg2 H HRL hb0 hz hne hbl hbg
    obtain ⟨p, hp⟩ : ∃ p, gB k n t = p := ⟨_, rfl⟩
    have HP := Lib.hid hp
    clear hp
    cases p
    · go_wp2_with fail
      refine ags.region_ag (SD wc g2) (fun _ _ _ _ => True)
        [.val (ag3 k n t), .val (ag3 k n t), .sat (fun v _ => v = .bool false) (fun _ w w' => Below w.heap.size w w'), .val (.bool false), .val undef, .val undef, .val undef, .val undef, .val (.bool false), .sat (fun _ w => Flds w g2 TV [.int .i64 k, .int .i64 n, .string t]) (fun _ w w' => w' = st3 w g2 k n t), .val (.bool false)]
        (by kernel_rfl) (by kernel_rfl) rfl (HS0.step ((Below.refl _ _).drew)) ?hstdf ?hkdf ?hwalkdf
      case hstdf =>
        simp only [ags.Stab, ags.Row2, ags.Ok2, and_true]
        repeat' apply And.intro
        all_goals first
          | exact fun h => absurd rfl h
          | exact fun _ _ f v W W' hS hv _ ht => hv
          | exact fun _ _ f v W W' hS hv _ ht => Flds.later hv ht
          | exact fun _ _ f v W W' hS hv hr ht => hv
          | trivial
      case hkdf =>
        simp only [ags.Keeps, and_true]
        exact ⟨fun f W1 W2 hS _ ht => hS.step ht, fun f W1 W2 hS _ ht => by rw [ht]; exact hS.st⟩
      case hwalkdf =>
        refine ags.walk_val (by rfl) (fun W1 hS hE => ?_) ?_
        rotate_left; simp only [Act.put, List.setIfInBounds_toArray, List.set_cons_zero, List.set_cons_succ]; rotate_left
        · have c3 := HC.out W1 hS
          obtain ⟨c0, c1, c2⟩ := c3
          clear hS hE
          refine ags.reg ?_
          go_simp
          try exact ⟨rfl, rfl⟩
        refine ags.walk_val (by rfl) (fun W1 hS hE => ?_) ?_
        rotate_left; simp only [Act.put, List.setIfInBounds_toArray, List.set_cons_zero, List.set_cons_succ]; rotate_left
        · have c3 := HC.out W1 hS
          obtain ⟨c0, c1, c2⟩ := c3
          clear hS hE
          refine ags.reg ?_
          go_simp
          try exact ⟨rfl, rfl⟩
        refine ags.walk_sat (by rfl) (fun W1 hS hE => ?_) (fun y1 => ?_)
        rotate_left; simp only [Act.put, List.setIfInBounds_toArray, List.set_cons_zero, List.set_cons_succ]; rotate_left
        · clear hS hE
          refine ags.reg ?_
          go_simp
          refine (good_any k n t _).mono ?_
          rintro e W2 ⟨rfl, hb⟩
          exact ⟨_, rfl, by rw [HP.out], hb, ags.News.none (fun _ _ => trivial) _ _⟩
        refine ags.walk_val (by rfl) (fun W1 hS hE => ?_) ?_
        rotate_left; simp only [Act.put, List.setIfInBounds_toArray, List.set_cons_zero, List.set_cons_succ]; rotate_left
        · have hy1 : y1 = .bool false := hE.get (by kernel_rfl)
          subst hy1
          clear hS hE
          refine ags.reg ?_
          go_simp
          try exact ⟨rfl, rfl⟩
        refine ags.walk_skip (by rfl) ?_
        simp only [Act.put, List.setIfInBounds_toArray, List.set_cons_zero, List.set_cons_succ]
        refine ags.walk_skip (by rfl) ?_
        simp only [Act.put, List.setIfInBounds_toArray, List.set_cons_zero, List.set_cons_succ]
        refine ags.walk_skip (by rfl) ?_
        simp only [Act.put, List.setIfInBounds_toArray, List.set_cons_zero, List.set_cons_succ]
        refine ags.walk_skip (by rfl) ?_
        simp only [Act.put, List.setIfInBounds_toArray, List.set_cons_zero, List.set_cons_succ]
        refine ags.walk_val (by rfl) (fun W1 hS hE => ?_) ?_
        rotate_left; simp only [Act.put, List.setIfInBounds_toArray, List.set_cons_zero, List.set_cons_succ]; rotate_left
        · clear hS hE
          refine ags.reg ?_
          go_simp
          try exact ⟨rfl, rfl⟩
        refine ags.walk_sat (by rfl) (fun W1 hS hE => ?_) (fun y2 => ?_)
        rotate_left; simp only [Act.put, List.setIfInBounds_toArray, List.set_cons_zero, List.set_cons_succ]; rotate_left
        · obtain ⟨ho, x, y, z, hf⟩ := hS
          obtain ⟨f0, f1, f2⟩ := Flds_tri hf
          have z0 := hf.frozen 0; have z1 := hf.frozen 1; have z2 := hf.frozen 2
          have lg := hf.lt
          have HF1 := Lib.hid hf
          clear ho hf hE
          refine ags.sto (.pointer (some ⟨g2, 0, none⟩)) rfl ?_
          go_simp
          exact ⟨st3_self HF1.out, rfl, ags.News.none (fun _ _ => trivial) _ _⟩
        refine ags.walk_val (by rfl) (fun W1 hS hE => ?_) ?_
        rotate_left; simp only [Act.put, List.setIfInBounds_toArray, List.set_cons_zero, List.set_cons_succ]; rotate_left
        · clear hS hE
          refine ags.reg ?_
          go_simp
          try exact ⟨rfl, rfl⟩
        refine ags.walk_nil (fun w7 hS hF' hP => ?_)
        have HN := Lib.hid hF'.1
        clear hF' hP
        have HS := Lib.hid hS
        clear hS
        go_wp2
        have hx := HS.out
        have hfin := HN.out
        obtain ⟨f0, f1, f2⟩ := Flds_tri hfin
        have HX := Lib.hid hx
        clear hx hfin
        refine bodyPost_ret (v := .tuple #[ag3 k n t, .bool false]) ?_ (by rfl) ⟨k, n, t, ?_, HD.out.1, ?_⟩
        · simp only [results, Tryd.results62]; go_simp
        · rw [HD.out.bad HP.out]
        · have hbb := HB.out.trans (HX.out.1.below (by rw [← HG.out]; exact HB.out.size) (fun k e => by rw [e]; omega))
          rw [← HG.out] at hbb
          exact hbb
    · have HQ := Lib.hid (HD.out.2 HP.out)
      have HE := Lib.hid (HD.out.cmp HP.out)
      go_wp2_with fail
      refine ags.region_ag (SD wc g2) (fun _ _ _ _ => True)
        [.val (ag3 k n t), .val (ag3 k n t), .sat (fun v _ => v = .bool true) (fun _ w w' => Below w.heap.size w w'), .val (.bool true), .val (ag3 k n t), .sat (fun v _ => v = .string (encS ⟨k, n, t⟩)) (fun _ w w' => Below w.heap.size w w'), .val (.string s), .val (.bool (shapeB s)), .val (.bool (shapeB s)), .sat (fun _ w => Flds w g2 TV [.int .i64 k, .int .i64 n, .string t]) (fun _ w w' => w' = st3 w g2 k n t), .val (.bool (shapeB s))]
        (by kernel_rfl) (by kernel_rfl) rfl (HS0.step ((Below.refl _ _).drew)) ?hstdt ?hkdt ?hwalkdt
      case hstdt =>
        simp only [ags.Stab, ags.Row2, ags.Ok2, and_true]
        repeat' apply And.intro
        all_goals first
          | exact fun h => absurd rfl h
          | exact fun _ _ f v W W' hS hv _ ht => hv
          | exact fun _ _ f v W W' hS hv _ ht => Flds.later hv ht
          | exact fun _ _ f v W W' hS hv hr ht => hv
          | trivial
      case hkdt =>
        simp only [ags.Keeps, and_true]
        exact ⟨fun f W1 W2 hS _ ht => hS.step ht, fun f W1 W2 hS _ ht => hS.step ht, fun f W1 W2 hS _ ht => by rw [ht]; exact hS.st⟩
      case hwalkdt =>
        refine ags.walk_val (by rfl) (fun W1 hS hE => ?_) ?_
        rotate_left; simp only [Act.put, List.setIfInBounds_toArray, List.set_cons_zero, List.set_cons_succ]; rotate_left
        · have c3 := HC.out W1 hS
          obtain ⟨c0, c1, c2⟩ := c3
          clear hS hE
          refine ags.reg ?_
          go_simp
          try exact ⟨rfl, rfl⟩
        refine ags.walk_val (by rfl) (fun W1 hS hE => ?_) ?_
        rotate_left; simp only [Act.put, List.setIfInBounds_toArray, List.set_cons_zero, List.set_cons_succ]; rotate_left
        · have c3 := HC.out W1 hS
          obtain ⟨c0, c1, c2⟩ := c3
          clear hS hE
          refine ags.reg ?_
          go_simp
          try exact ⟨rfl, rfl⟩
        refine ags.walk_sat (by rfl) (fun W1 hS hE => ?_) (fun y1 => ?_)
        rotate_left; simp only [Act.put, List.setIfInBounds_toArray, List.set_cons_zero, List.set_cons_succ]; rotate_left
        · clear hS hE
          refine ags.reg ?_
          go_simp
          refine (good_any k n t _).mono ?_
          rintro e W2 ⟨rfl, hb⟩
          exact ⟨_, rfl, by rw [HP.out], hb, ags.News.none (fun _ _ => trivial) _ _⟩
        refine ags.walk_val (by rfl) (fun W1 hS hE => ?_) ?_
        rotate_left; simp only [Act.put, List.setIfInBounds_toArray, List.set_cons_zero, List.set_cons_succ]; rotate_left
        · have hy1 : y1 = .bool true := hE.get (by kernel_rfl)
          subst hy1
          clear hS hE
          refine ags.reg ?_
          go_simp
          try exact ⟨rfl, rfl⟩
        refine ags.walk_val (by rfl) (fun W1 hS hE => ?_) ?_
        rotate_left; simp only [Act.put, List.setIfInBounds_toArray, List.set_cons_zero, List.set_cons_succ]; rotate_left
        · have c3 := HC.out W1 hS
          obtain ⟨c0, c1, c2⟩ := c3
          clear hS hE
          refine ags.reg ?_
          go_simp
          try exact ⟨rfl, rfl⟩
        refine ags.walk_sat (by rfl) (fun W1 hS hE => ?_) (fun y2 => ?_)
        rotate_left; simp only [Act.put, List.setIfInBounds_toArray, List.set_cons_zero, List.set_cons_succ]; rotate_left
        · clear hS hE
          refine ags.reg ?_
          go_simp
          refine (encode_any k n t HQ.out _).mono ?_
          rintro e W2 ⟨rfl, hb⟩
          exact ⟨_, rfl, rfl, hb, ags.News.none (fun _ _ => trivial) _ _⟩
        refine ags.walk_val (by rfl) (fun W1 hS hE => ?_) ?_
        rotate_left; simp only [Act.put, List.setIfInBounds_toArray, List.set_cons_zero, List.set_cons_succ]; rotate_left
        · clear hS hE
          refine ags.reg ?_
          go_simp
          try exact ⟨rfl, rfl⟩
        refine ags.walk_val (by rfl) (fun W1 hS hE => ?_) ?_
        rotate_left; simp only [Act.put, List.setIfInBounds_toArray, List.set_cons_zero, List.set_cons_succ]; rotate_left
        · have hy2 : y2 = .string (encS ⟨k, n, t⟩) := hE.get (by kernel_rfl)
          subst hy2
          clear hS hE
          refine ags.reg ?_
          go_simp
          first | exact ⟨congrArg Value.bool HE.out, rfl⟩ | exact HE.out | exact congrArg Value.bool HE.out
        refine ags.walk_val (by rfl) (fun W1 hS hE => ?_) ?_
        rotate_left; simp only [Act.put, List.setIfInBounds_toArray, List.set_cons_zero, List.set_cons_succ]; rotate_left
        · clear hS hE
          refine ags.reg ?_
          go_simp
          try exact ⟨rfl, rfl⟩
        refine ags.walk_sat (by rfl) (fun W1 hS hE => ?_) (fun y3 => ?_)
        rotate_left; simp only [Act.put, List.setIfInBounds_toArray, List.set_cons_zero, List.set_cons_succ]; rotate_left
        · obtain ⟨ho, x, y, z, hf⟩ := hS
          obtain ⟨f0, f1, f2⟩ := Flds_tri hf
          have z0 := hf.frozen 0; have z1 := hf.frozen 1; have z2 := hf.frozen 2
          have lg := hf.lt
          have HF1 := Lib.hid hf
          clear ho hf hE
          refine ags.sto (.pointer (some ⟨g2, 0, none⟩)) rfl ?_
          go_simp
          exact ⟨st3_self HF1.out, rfl, ags.News.none (fun _ _ => trivial) _ _⟩
        refine ags.walk_val (by rfl) (fun W1 hS hE => ?_) ?_
        rotate_left; simp only [Act.put, List.setIfInBounds_toArray, List.set_cons_zero, List.set_cons_succ]; rotate_left
        · clear hS hE
          refine ags.reg ?_
          go_simp
          try exact ⟨rfl, rfl⟩
        refine ags.walk_nil (fun w7 hS hF' hP => ?_)
        have HN := Lib.hid hF'.1
        clear hF' hP
        have HS := Lib.hid hS
        clear hS
        go_wp2
        have hx := HS.out
        have hfin := HN.out
        obtain ⟨f0, f1, f2⟩ := Flds_tri hfin
        have HX := Lib.hid hx
        clear hx hfin
        refine bodyPost_ret (v := .tuple #[ag3 k n t, .bool (shapeB s)]) ?_ (by rfl) ⟨k, n, t, ?_, HD.out.1, ?_⟩
        · simp only [results, Tryd.results62]; go_simp
        · rfl
        · have hbb := HB.out.trans (HX.out.1.below (by rw [← HG.out]; exact HB.out.size) (fun k e => by rw [e]; omega))
          rw [← HG.out] at hbb
          exact hbb
end Go.Proofs.YtpkkhbmlclicfaaDoor.val
