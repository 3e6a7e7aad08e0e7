/- What the laws on rows ask first, walked. -/
import Derived.Test.YtpkkhbmlclicfaaDoorRowS
namespace Go.Proofs.YtpkkhbmlclicfaaDoor.val
set_option linter.unusedVariables false
open Go.RowKit
attribute [local go_sem high] run_eqlV run_neqV
attribute [local go_sem] ag.upon_value ag.upon_skip ag.upon_enter
attribute [local go_sem] Oper.semAt_some

theorem keyS_size (l : List V) (h : ∀ v ∈ l, Good v) : (⟨(keyB l).toArray⟩ : ByteArray).size ≤ l.length * 69 := by
  rw [size_mk]; exact keyB_len l h
theorem enc_all (l : List V) (h : ∀ v ∈ l, Good v) : (l.map encS).all shapeB = true := by
  rw [List.all_eq_true]
  intro x hx
  obtain ⟨v, hv, rfl⟩ := List.mem_map.1 hx
  exact enc_shape (h v hv)
/-- the row of a row's key -/
theorem get_key (l : List V) (h : ∀ v ∈ l, Good v) (hm : l.length ≤ 1000000) (w : World) : Calls Tryd.prog 36 #[.string ⟨(keyB l).toArray⟩] w fun e w' => ∃ v, e = .returned (.tuple #[v, .int .i64 0]) ∧ w'.ownsRow w.heap.size TV 3 v l.length (vCells l) ∧ Below w.heap.size w w' := by
  refine (get_any _ (by have := keyS_size l h; omega) w).mono ?_
  rintro e w' ⟨h1, hb⟩
  have hs := split_key l h
  rw [hs] at h1
  rw [if_neg (by simp), if_neg (by rw [enc_all l h]; simp)] at h1
  obtain ⟨v, m, he, ho, hg, hm⟩ := h1
  have : m = l := map_enc_inj m l hg h hm
  subst this
  exact ⟨v, he, ho, hb⟩

abbrev two : List V := [ofN 1, null]
theorem two_good : ∀ v ∈ two, Good v := by
  intro v hv
  simp at hv
  rcases hv with rfl | rfl
  · exact .inr (.inr (.inl ⟨rfl, rfl, by decide, by decide⟩))
  · exact .inl ⟨rfl, rfl, rfl⟩
theorem two_rg : ∀ v ∈ two, -9223372036854775808 ≤ v.n ∧ v.n ≤ 9223372036854775807 := by
  intro v hv
  simp at hv
  rcases hv with rfl | rfl <;> decide
theorem two_show : showR two = ⟨#[40, 49, 44, 32, 78, 85, 76, 76, 41]⟩ := by
  have e1 : shS (ofN 1) = ⟨#[49]⟩ := by
    unfold shS showV ofN
    dsimp only
    rw [if_neg (by decide +kernel), if_neg (by decide), if_pos rfl]
    have : Lib.itoa 1 = [49] := by unfold Lib.itoa; rw [if_neg (by decide)]; show Lib.decDigits 1 = _; unfold Lib.decDigits; simp
    rw [this]
  have e2 : shS null = nullS := by
    unfold shS showV null
    dsimp only
    rw [if_pos (.inr rfl)]
  unfold showR joinB
  simp only [two, List.map_cons, List.map_nil, e1, e2]
  rfl
theorem two_cmp : cmpL two two = 0 := by decide +kernel
theorem row_lit (W : World) (cs : List Value) (n : Nat) (T : TypeId) (hl : cs.length = n * 3) : Row (W.alloc (.cells cs.toArray T)) (.slice (some ⟨W.heap.size, 0, none⟩) n n) 3 n cs :=
  ⟨_, _, rfl, hl, .inr ⟨_, 0, rfl, fun j hj => by rw [cells_new, Nat.zero_add]⟩⟩
theorem two_row (W : World) (T : TypeId) : IsRow (W.alloc (.cells #[.int .i64 2, .int .i64 1, .string ByteArray.empty, .int .i64 0, .int .i64 0, .string ⟨#[]⟩] T)) (.slice (some ⟨W.heap.size, 0, none⟩) 2 2) two :=
  row_lit W [.int .i64 2, .int .i64 1, .string nob, .int .i64 0, .int .i64 0, .string nob] 2 T rfl

set_option maxRecDepth 100000 in
set_option maxHeartbeats 4000000 in
theorem speaks7 (m : Int) (W : World) (hm : W.cell? ⟨gMax, 0, none⟩ = some (.int .i64 m)) (hp : Pow10 W) : Calls Tryd.prog 26 #[] W fun e w' => e = .returned (.bool true) ∧ Below W.heap.size W w' := by
  have HM := Lib.hid hm
  have HP := Lib.hid hp
  clear hm hp
  go_enter Tryd.func26, Tryd.ntmps26
  go_wp2_with fail
  (with_reducible refine (ofInt_any _ _).mono ?_); rintro e w1 ⟨rfl, hb1⟩
  have HB1 := Lib.hid hb1
  clear hb1
  go_wp2_with fail
  have hr1 := two_row w1 TV
  have hbx := HB1.out.alloc HB1.out.size (.cells #[.int .i64 2, .int .i64 1, .string ByteArray.empty, .int .i64 0, .int .i64 0, .string ⟨#[]⟩] TV)
  generalize w1.alloc (.cells #[.int .i64 2, .int .i64 1, .string ByteArray.empty, .int .i64 0, .int .i64 0, .string ⟨#[]⟩] TV) = X at *
  generalize w1.heap.size = g1 at *
  have HR1 := Lib.hid hr1
  have HBX := Lib.hid hbx
  clear hr1 hbx HB1
  (with_reducible refine (key_any _ two two_good (by decide) _ HR1.out).mono ?_); rintro e w2 ⟨rfl, hb2⟩
  have HB2 := Lib.hid hb2
  clear hb2
  go_wp2_with fail
  (with_reducible refine (get_key two two_good (by decide) _).mono ?_); rintro e w3 ⟨v, rfl, ho, hb3⟩
  have hr2 := Row.of_owns ho
  obtain ⟨b2, o2, c2, rfl, hcell⟩ := hr2.pos (by decide)
  have HR2 := Lib.hid hr2
  have k0 : w3.cell? ⟨b2, o2, none⟩ = some (.int .i64 2) := hcell 0 (by decide)
  have k1 : w3.cell? ⟨b2, o2 + 1, none⟩ = some (.int .i64 1) := hcell 1 (by decide)
  have k2 : w3.cell? ⟨b2, o2 + 2, none⟩ = some (.string nob) := hcell 2 (by decide)
  have HK := Lib.hid (fun W1 (hS : Below w3.heap.size w3 W1) => (⟨cell_later hS k0, cell_later hS k1, cell_later hS k2⟩ : W1.cell? ⟨b2, o2, none⟩ = some (.int .i64 2) ∧ W1.cell? ⟨b2, o2 + 1, none⟩ = some (.int .i64 1) ∧ W1.cell? ⟨b2, o2 + 2, none⟩ = some (.string nob)))
  have HB3 := Lib.hid (HBX.out.trans ((HB2.out.trans (hb3.mono HB2.out.size)).mono HBX.out.size))
  have HRA := Lib.hid (HR1.out.later (HB2.out.trans (hb3.mono HB2.out.size)))
  have HSH := Lib.hid (fun W1 (hS : Below w3.heap.size w3 W1) => by
    have h := rwshow_any _ two two_good two_rg (by decide) m W1 (cell_later (HB3.out.trans (hS.mono HB3.out.size)) HM.out) (pow10_later HP.out (HB3.out.trans (hS.mono HB3.out.size))) (HRA.out.later hS)
    rw [two_show] at h
    exact h)
  have HCM := Lib.hid (fun W1 (hS : Below w3.heap.size w3 W1) => by
    have h := rcompare_any _ _ two two (by decide) (by decide) W1 (HRA.out.later hS) (HR2.out.later hS)
    rw [two_cmp] at h
    exact h)
  clear ho hr2 hcell k0 k1 k2 hb3 HR1 HR2 HBX HB2 HRA
  go_wp2_with fail
  refine ag.region_ag (fun W1 => Below w3.heap.size w3 W1) (fun _ _ _ _ => True)
    [.val (.slice (some ⟨g1, 0, none⟩) 2 2), .sat (fun v _ => v = .string ⟨#[40, 49, 44, 32, 78, 85, 76, 76, 41]⟩) (fun _ w w' => Below w.heap.size w w'), .val (.bool true), .val (.bool true), .val (.int .i64 0), .val (.bool true), .val (.bool true), .val (.bool true), .val (.slice (some ⟨b2, o2, none⟩) two.length c2), .val (.int .i64 2), .val (.bool true), .val (.bool true), .val (.bool true), .val (.slice (some ⟨b2, o2, none⟩) two.length c2), .val (.pointer (some ⟨b2, o2, none⟩)), .val (ag3 2 1 nob), .sat (fun v _ => v = ag3 2 1 nob) (fun _ w w' => Below w.heap.size w w'), .val (.bool true), .val (.bool true), .val (.bool true), .val (.slice (some ⟨g1, 0, none⟩) 2 2), .val (.slice (some ⟨b2, o2, none⟩) two.length c2), .sat (fun v _ => v = .int .i64 0) (fun _ w w' => Below w.heap.size w w'), .val (.bool true), .val (.bool true), .val (.bool true)]
    (by kernel_rfl) (by kernel_rfl) rfl (⟨rfl, rfl, rfl, Nat.le_refl _, fun _ _ => rfl⟩) ?hsts ?hks ?hwalks
  case hsts =>
    simp only [ag.Stab, ag.Row2, ag.Ok2, and_true]
    repeat' apply And.intro
    all_goals first
      | exact fun h => absurd rfl h
      | exact fun _ _ f v W W' hS hv _ ht => hv
      | trivial
  case hks =>
    simp only [ag.Keeps, and_true]
    exact ⟨fun f W1 W2 hS _ ht => hS.trans (ht.mono hS.size), fun f W1 W2 hS _ ht => hS.trans (ht.mono hS.size), fun f W1 W2 hS _ ht => hS.trans (ht.mono hS.size)⟩
  case hwalks =>
    refine ag.walk_val (by rfl) (fun W1 hS hE => ?_) ?_
    rotate_left; simp only [Act.put, List.setIfInBounds_toArray, List.set_cons_zero, List.set_cons_succ]; rotate_left
    · clear hS hE
      unfold ag.does
      go_simp
      try exact ⟨rfl, rfl⟩
    refine ag.walk_sat (by rfl) (fun W1 hS hE => ?_) (fun y1 => ?_)
    rotate_left; simp only [Act.put, List.setIfInBounds_toArray, List.set_cons_zero, List.set_cons_succ]; rotate_left
    · have hc := HSH.out W1 hS
      clear hS hE
      unfold ag.does
      go_simp
      refine (hc).mono ?_
      rintro e W2 ⟨rfl, hb⟩
      exact ⟨_, rfl, rfl, hb, ag.News.none (fun _ _ => trivial) _ _⟩
    refine ag.walk_val (by rfl) (fun W1 hS hE => ?_) ?_
    rotate_left; simp only [Act.put, List.setIfInBounds_toArray, List.set_cons_zero, List.set_cons_succ]; rotate_left
    · have hy1 : y1 = .string ⟨#[40, 49, 44, 32, 78, 85, 76, 76, 41]⟩ := hE.get (by kernel_rfl)
      subst hy1
      clear hS hE
      unfold ag.does
      go_simp
      try exact ⟨rfl, rfl⟩
    refine ag.walk_val (by rfl) (fun W1 hS hE => ?_) ?_
    rotate_left; simp only [Act.put, List.setIfInBounds_toArray, List.set_cons_zero, List.set_cons_succ]; rotate_left
    · clear hS hE
      unfold ag.does
      go_simp
      try exact ⟨rfl, rfl⟩
    refine ag.walk_val (by rfl) (fun W1 hS hE => ?_) ?_
    rotate_left; simp only [Act.put, List.setIfInBounds_toArray, List.set_cons_zero, List.set_cons_succ]; rotate_left
    · clear hS hE
      unfold ag.does
      go_simp
      try exact ⟨rfl, rfl⟩
    refine ag.walk_val (by rfl) (fun W1 hS hE => ?_) ?_
    rotate_left; simp only [Act.put, List.setIfInBounds_toArray, List.set_cons_zero, List.set_cons_succ]; rotate_left
    · clear hS hE
      unfold ag.does
      go_simp
      try exact ⟨rfl, rfl⟩
    refine ag.walk_val (by rfl) (fun W1 hS hE => ?_) ?_
    rotate_left; simp only [Act.put, List.setIfInBounds_toArray, List.set_cons_zero, List.set_cons_succ]; rotate_left
    · clear hS hE
      unfold ag.does
      go_simp
      try exact ⟨rfl, rfl⟩
    refine ag.walk_val (by rfl) (fun W1 hS hE => ?_) ?_
    rotate_left; simp only [Act.put, List.setIfInBounds_toArray, List.set_cons_zero, List.set_cons_succ]; rotate_left
    · clear hS hE
      unfold ag.does
      go_simp
      try exact ⟨rfl, rfl⟩
    refine ag.walk_val (by rfl) (fun W1 hS hE => ?_) ?_
    rotate_left; simp only [Act.put, List.setIfInBounds_toArray, List.set_cons_zero, List.set_cons_succ]; rotate_left
    · clear hS hE
      unfold ag.does
      go_simp
      try exact ⟨rfl, rfl⟩
    refine ag.walk_val (by rfl) (fun W1 hS hE => ?_) ?_
    rotate_left; simp only [Act.put, List.setIfInBounds_toArray, List.set_cons_zero, List.set_cons_succ]; rotate_left
    · clear hS hE
      unfold ag.does
      go_simp
      try exact ⟨rfl, rfl⟩
    refine ag.walk_val (by rfl) (fun W1 hS hE => ?_) ?_
    rotate_left; simp only [Act.put, List.setIfInBounds_toArray, List.set_cons_zero, List.set_cons_succ]; rotate_left
    · clear hS hE
      unfold ag.does
      go_simp
      try exact ⟨rfl, rfl⟩
    refine ag.walk_val (by rfl) (fun W1 hS hE => ?_) ?_
    rotate_left; simp only [Act.put, List.setIfInBounds_toArray, List.set_cons_zero, List.set_cons_succ]; rotate_left
    · clear hS hE
      unfold ag.does
      go_simp
      try exact ⟨rfl, rfl⟩
    refine ag.walk_val (by rfl) (fun W1 hS hE => ?_) ?_
    rotate_left; simp only [Act.put, List.setIfInBounds_toArray, List.set_cons_zero, List.set_cons_succ]; rotate_left
    · clear hS hE
      unfold ag.does
      go_simp
      try exact ⟨rfl, rfl⟩
    refine ag.walk_val (by rfl) (fun W1 hS hE => ?_) ?_
    rotate_left; simp only [Act.put, List.setIfInBounds_toArray, List.set_cons_zero, List.set_cons_succ]; rotate_left
    · clear hS hE
      unfold ag.does
      go_simp
      try exact ⟨rfl, rfl⟩
    refine ag.walk_val (by rfl) (fun W1 hS hE => ?_) ?_
    rotate_left; simp only [Act.put, List.setIfInBounds_toArray, List.set_cons_zero, List.set_cons_succ]; rotate_left
    · clear hS hE
      unfold ag.does
      go_simp
      try exact ⟨rfl, rfl⟩
    refine ag.walk_val (by rfl) (fun W1 hS hE => ?_) ?_
    rotate_left; simp only [Act.put, List.setIfInBounds_toArray, List.set_cons_zero, List.set_cons_succ]; rotate_left
    · obtain ⟨c0, c1, c2⟩ := HK.out W1 hS
      clear hS hE
      unfold ag.does
      go_simp
      try exact ⟨rfl, rfl⟩
    refine ag.walk_sat (by rfl) (fun W1 hS hE => ?_) (fun y2 => ?_)
    rotate_left; simp only [Act.put, List.setIfInBounds_toArray, List.set_cons_zero, List.set_cons_succ]; rotate_left
    · clear hS hE
      unfold ag.does
      go_simp
      refine (ofI_lit _ _).mono ?_
      rintro e W2 ⟨rfl, hb⟩
      exact ⟨_, rfl, rfl, hb, ag.News.none (fun _ _ => trivial) _ _⟩
    refine ag.walk_val (by rfl) (fun W1 hS hE => ?_) ?_
    rotate_left; simp only [Act.put, List.setIfInBounds_toArray, List.set_cons_zero, List.set_cons_succ]; rotate_left
    · have hy2 : y2 = ag3 2 1 nob := hE.get (by kernel_rfl)
      subst hy2
      clear hS hE
      unfold ag.does
      go_simp
      first | exact ⟨congrArg Value.bool (by decide +kernel), rfl⟩ | decide +kernel
    refine ag.walk_val (by rfl) (fun W1 hS hE => ?_) ?_
    rotate_left; simp only [Act.put, List.setIfInBounds_toArray, List.set_cons_zero, List.set_cons_succ]; rotate_left
    · clear hS hE
      unfold ag.does
      go_simp
      try exact ⟨rfl, rfl⟩
    refine ag.walk_val (by rfl) (fun W1 hS hE => ?_) ?_
    rotate_left; simp only [Act.put, List.setIfInBounds_toArray, List.set_cons_zero, List.set_cons_succ]; rotate_left
    · clear hS hE
      unfold ag.does
      go_simp
      try exact ⟨rfl, rfl⟩
    refine ag.walk_val (by rfl) (fun W1 hS hE => ?_) ?_
    rotate_left; simp only [Act.put, List.setIfInBounds_toArray, List.set_cons_zero, List.set_cons_succ]; rotate_left
    · clear hS hE
      unfold ag.does
      go_simp
      try exact ⟨rfl, rfl⟩
    refine ag.walk_val (by rfl) (fun W1 hS hE => ?_) ?_
    rotate_left; simp only [Act.put, List.setIfInBounds_toArray, List.set_cons_zero, List.set_cons_succ]; rotate_left
    · clear hS hE
      unfold ag.does
      go_simp
      try exact ⟨rfl, rfl⟩
    refine ag.walk_sat (by rfl) (fun W1 hS hE => ?_) (fun y3 => ?_)
    rotate_left; simp only [Act.put, List.setIfInBounds_toArray, List.set_cons_zero, List.set_cons_succ]; rotate_left
    · have hc := HCM.out W1 hS
      clear hS hE
      unfold ag.does
      go_simp
      refine (hc).mono ?_
      rintro e W2 ⟨rfl, hb⟩
      exact ⟨_, rfl, rfl, hb.1, ag.News.none (fun _ _ => trivial) _ _⟩
    refine ag.walk_val (by rfl) (fun W1 hS hE => ?_) ?_
    rotate_left; simp only [Act.put, List.setIfInBounds_toArray, List.set_cons_zero, List.set_cons_succ]; rotate_left
    · have hy3 : y3 = .int .i64 0 := hE.get (by kernel_rfl)
      subst hy3
      clear hS hE
      unfold ag.does
      go_simp
      try exact ⟨rfl, rfl⟩
    refine ag.walk_val (by rfl) (fun W1 hS hE => ?_) ?_
    rotate_left; simp only [Act.put, List.setIfInBounds_toArray, List.set_cons_zero, List.set_cons_succ]; rotate_left
    · clear hS hE
      unfold ag.does
      go_simp
      try exact ⟨rfl, rfl⟩
    refine ag.walk_val (by rfl) (fun W1 hS hE => ?_) ?_
    rotate_left; simp only [Act.put, List.setIfInBounds_toArray, List.set_cons_zero, List.set_cons_succ]; rotate_left
    · clear hS hE
      unfold ag.does
      go_simp
      try exact ⟨rfl, rfl⟩
    refine ag.walk_nil (fun w7 hS hF' hP => ?_)
    clear hF' hP
    have HS := Lib.hid hS
    clear hS
    go_wp2
    go_ret
    exact ⟨rfl, HB3.out.trans (HS.out.mono HB3.out.size)⟩
end Go.Proofs.YtpkkhbmlclicfaaDoor.val
