/- The law ValueOnes, walked. -/
import Derived.Test.YtpkkhbmlclicfaaDoorValueJC
import Derived.Test.YtpkkhbmlclicfaaDoorObj
import Derived.Outline
namespace Go.Proofs.YtpkkhbmlclicfaaDoor.val
set_option linter.unusedVariables false
open Go.RowKit
attribute [local go_sem high] run_eqlV run_neqV
attribute [local go_sem] ag.upon_value ag.upon_skip ag.upon_enter

theorem _root_.Go.Proofs.YtpkkhbmlclicfaaDoor.Flds.tri {w : World} {g : Nat} {T : TypeId} {a b c : Value} (h : Flds w g T [a, b, c]) : w.cell? ⟨g, 0, none⟩ = some a ∧ w.cell? ⟨g, 1, none⟩ = some b ∧ w.cell? ⟨g, 2, none⟩ = some c := ⟨h.cell 0, h.cell 1, h.cell 2⟩
theorem true_ofB (b : Bool) (W : World) : Calls Tryd.prog 20 #[ag3 (ofB b).k (ofB b).n (ofB b).s] W fun e w' => e = .returned (.bool b) ∧ Below W.heap.size W w' := by
  have h := true_any (ofB b).k (ofB b).n (ofB b).s W
  have e : veq6 (ofB b).k (ofB b).n (ofB b).s (ofB true).k (ofB true).n (ofB true).s = b := by
    cases b
    · rfl
    · exact veq_self (ofB true)
  rw [e] at h
  exact h
set_option maxRecDepth 100000 in
set_option maxHeartbeats 4000000 in
theorem ones_bad_a (k n : Int) (s S : ByteArray) (hS : s.extract 0 (min (s.size : Int) 70).toNat = S) (hb : gB k n S = false) (k1 : (k == 1) = false) (hn : -9223372036854775808 ≤ n ∧ n ≤ 9223372036854775807) (hs : s.size ≤ maxLen)
    (m : Int) (W : World) (hm : W.cell? ⟨gMax, 0, none⟩ = some (.int .i64 m)) (hp : Pow10 W) :
    Calls Tryd.prog 5 #[.int .i64 k, .int .i64 n, .string s] W fun e w' => e = .returned (.bool true) ∧ Below W.heap.size W w' := by
  have HM := Lib.hid hm
  have HP := Lib.hid hp
  have HS := Lib.hid hS
  have hsz : S.size ≤ 70 := by rw [← hS, ByteArray.size_extract]; omega
  have HG := Lib.hid (fun W => good_any k n S W)
  have HRG := Lib.hid (fun W => rgood_any k n S W)
  have HSH := Lib.hid (fun W h1 h2 => show_any k n S hn m W h1 h2)
  have HRS := Lib.hid (fun W => rshow_any k n S hn W)
  have HT := Lib.hid (fun W => true_any k n S W)
  have hgb : gB k n S = false := hb
  have htb : veq6 k n S (ofB true).k (ofB true).n (ofB true).s = false := by unfold veq6; rw [show (k == (ofB true).k) = false from k1]; rfl
  rw [hgb] at HG HRG
  rw [htb] at HT
  obtain ⟨R, hR⟩ : ∃ R, showV k n S = R := ⟨_, rfl⟩
  rw [hR] at HSH HRS
  clear hm hp hS hgb htb hR
  clear hb hn
  go_enter Tryd.func5, Tryd.ntmps5
  go_wp2_with (go_at_call 10; ((with_reducible refine (speaks m _ HM.out).mono ?_); rintro e w1 ⟨rfl, hw1⟩))
  have hm1 := cell_later hw1 HM.out
  have hp1 := pow10_later HP.out hw1
  have HB1 := Lib.hid hw1
  have HM1 := Lib.hid hm1; have HP1 := Lib.hid hp1
  clear hw1 hm1 hp1
  rw [HS.out]
  have F7 := Lib.hid ((Flds.new w1 TV [.int .i64 k, .int .i64 n, .string S]).alloc (.cells #[.int .i64 k, .int .i64 n, .string S] TR))
  have F8 : Hid (Flds ((w1.alloc (.cells #[.int .i64 k, .int .i64 n, .string S] TV)).alloc (.cells #[.int .i64 k, .int .i64 n, .string S] TR)) (w1.heap.size + 1) TR [.int .i64 k, .int .i64 n, .string S]) := Lib.hid (by
    have := Flds.new (w1.alloc (.cells #[.int .i64 k, .int .i64 n, .string S] TV)) TR [.int .i64 k, .int .i64 n, .string S]
    rw [World.size_alloc] at this
    exact this)
  have HBX := Lib.hid (below_alloc2 w1 (.cells #[.int .i64 k, .int .i64 n, .string S] TV) (.cells #[.int .i64 k, .int .i64 n, .string S] TR))
  have HMX := Lib.hid (cell_later HBX.out HM1.out)
  have HPX := Lib.hid (pow10_later HP1.out HBX.out)
  have HBW := Lib.hid (after HB1.out HBX.out)
  clear HBX HM1 HP1
  generalize (w1.alloc (.cells #[.int .i64 k, .int .i64 n, .string S] TV)).alloc (.cells #[.int .i64 k, .int .i64 n, .string S] TR) = X at *
  generalize w1.heap.size + 1 = g8 at *
  generalize w1.heap.size = g7 at *
  go_wp2_with fail
  refine ag.region_ag (fun W1 => Below X.heap.size X W1) (fun _ _ _ _ => True)
    [.val (.agg #[.int .i64 k, .int .i64 n, .string S]), .sat (fun v _ => v = .bool false) (fun _ w w' => Below w.heap.size w w'), .val (.agg #[.int .i64 k, .int .i64 n, .string S]), .sat (fun v _ => v = .bool false) (fun _ w w' => Below w.heap.size w w'), .val (.bool false), .val (.bool false), .val (.agg #[.int .i64 k, .int .i64 n, .string S]), .sat (fun v _ => v = .string R) (fun _ w w' => Below w.heap.size w w'), .val (.agg #[.int .i64 k, .int .i64 n, .string S]), .sat (fun v _ => v = .string R) (fun _ w w' => Below w.heap.size w w'), .val (.bool false), .val (.bool false), .val (.bool false), .val (.agg #[.int .i64 k, .int .i64 n, .string S]), .sat (fun v _ => v = .bool false) (fun _ w w' => Below w.heap.size w w'), .val (.int .i64 k), .val (.bool false), .val (.bool false), .val undef, .val undef, .val (.bool false), .val (.bool false), .val undef, .val undef, .val (.bool false), .val (.bool false), .val (.bool false)]
    (by kernel_rfl) (by kernel_rfl) rfl (⟨rfl, rfl, rfl, Nat.le_refl _, fun _ _ => rfl⟩) ?hst6 ?hk6 ?hwalk6
  case hst6 =>
    simp only [ag.Stab, ag.Row2, ag.Ok2, and_true]
    repeat' apply And.intro
    all_goals first
      | exact fun h => absurd rfl h
      | exact fun _ _ f v W W' hS hv _ ht => hv
      | trivial
  case hk6 =>
    simp only [ag.Keeps, and_true]
    exact ⟨fun f W1 W2 hS _ ht => hS.trans (ht.mono hS.size), fun f W1 W2 hS _ ht => hS.trans (ht.mono hS.size), fun f W1 W2 hS _ ht => hS.trans (ht.mono hS.size), fun f W1 W2 hS _ ht => hS.trans (ht.mono hS.size), fun f W1 W2 hS _ ht => hS.trans (ht.mono hS.size)⟩
  case hwalk6 =>
    refine ag.walk_val (by rfl) (fun W1 hS hE => ?_) ?_
    rotate_left; simp only [Act.put, List.setIfInBounds_toArray, List.set_cons_zero, List.set_cons_succ]; rotate_left
    · obtain ⟨q0, q1, q2⟩ := (F7.out.later hS).tri
      clear hS hE
      unfold ag.does
      go_simp
      try exact ⟨rfl, rfl⟩
    refine ag.walk_sat (by rfl) (fun W1 hS hE => ?_) (fun y1 => ?_)
    rotate_left; simp only [Act.put, List.setIfInBounds_toArray, List.set_cons_zero, List.set_cons_succ]; rotate_left
    · clear hS hE
      unfold ag.does
      go_simp
      refine (HG.out _).mono ?_
      rintro e W2 ⟨rfl, hb⟩
      exact ⟨_, rfl, rfl, hb, ag.News.none (fun _ _ => trivial) _ _⟩
    refine ag.walk_val (by rfl) (fun W1 hS hE => ?_) ?_
    rotate_left; simp only [Act.put, List.setIfInBounds_toArray, List.set_cons_zero, List.set_cons_succ]; rotate_left
    · obtain ⟨q0, q1, q2⟩ := (F8.out.later hS).tri
      clear hS hE
      unfold ag.does
      go_simp
      try exact ⟨rfl, rfl⟩
    refine ag.walk_sat (by rfl) (fun W1 hS hE => ?_) (fun y2 => ?_)
    rotate_left; simp only [Act.put, List.setIfInBounds_toArray, List.set_cons_zero, List.set_cons_succ]; rotate_left
    · clear hS hE
      unfold ag.does
      go_simp
      refine (HRG.out _).mono ?_
      rintro e W2 ⟨rfl, hb⟩
      exact ⟨_, rfl, rfl, hb, ag.News.none (fun _ _ => trivial) _ _⟩
    refine ag.walk_val (by rfl) (fun W1 hS hE => ?_) ?_
    rotate_left; simp only [Act.put, List.setIfInBounds_toArray, List.set_cons_zero, List.set_cons_succ]; rotate_left
    · have hy2 : y2 = .bool false := hE.get (by kernel_rfl)
      subst hy2
      have hy1 : y1 = .bool false := hE.tail.get (by kernel_rfl)
      subst hy1
      clear hS hE
      unfold ag.does
      go_simp
      try exact ⟨rfl, rfl⟩
    refine ag.walk_val (by rfl) (fun W1 hS hE => ?_) ?_
    rotate_left; simp only [Act.put, List.setIfInBounds_toArray, List.set_cons_zero, List.set_cons_succ]; rotate_left
    · clear hS hE
      unfold ag.does
      go_simp
      try exact ⟨rfl, rfl⟩
    refine ag.walk_val (by rfl) (fun W1 hS hE => ?_) ?_
    rotate_left; simp only [Act.put, List.setIfInBounds_toArray, List.set_cons_zero, List.set_cons_succ]; rotate_left
    · obtain ⟨q0, q1, q2⟩ := (F7.out.later hS).tri
      clear hS hE
      unfold ag.does
      go_simp
      try exact ⟨rfl, rfl⟩
    refine ag.walk_sat (by rfl) (fun W1 hS hE => ?_) (fun y3 => ?_)
    rotate_left; simp only [Act.put, List.setIfInBounds_toArray, List.set_cons_zero, List.set_cons_succ]; rotate_left
    · have HMX1 := Lib.hid (cell_later hS HMX.out)
      have HPX1 := Lib.hid (pow10_later HPX.out hS)
      clear hS hE
      unfold ag.does
      go_simp
      refine (HSH.out _ HMX1.out HPX1.out).mono ?_
      rintro e W2 ⟨rfl, hb⟩
      exact ⟨_, rfl, rfl, hb, ag.News.none (fun _ _ => trivial) _ _⟩
    refine ag.walk_val (by rfl) (fun W1 hS hE => ?_) ?_
    rotate_left; simp only [Act.put, List.setIfInBounds_toArray, List.set_cons_zero, List.set_cons_succ]; rotate_left
    · obtain ⟨q0, q1, q2⟩ := (F8.out.later hS).tri
      clear hS hE
      unfold ag.does
      go_simp
      try exact ⟨rfl, rfl⟩
    refine ag.walk_sat (by rfl) (fun W1 hS hE => ?_) (fun y4 => ?_)
    rotate_left; simp only [Act.put, List.setIfInBounds_toArray, List.set_cons_zero, List.set_cons_succ]; rotate_left
    · clear hS hE
      unfold ag.does
      go_simp
      refine (HRS.out _).mono ?_
      rintro e W2 ⟨rfl, hb⟩
      exact ⟨_, rfl, rfl, hb, ag.News.none (fun _ _ => trivial) _ _⟩
    refine ag.walk_val (by rfl) (fun W1 hS hE => ?_) ?_
    rotate_left; simp only [Act.put, List.setIfInBounds_toArray, List.set_cons_zero, List.set_cons_succ]; rotate_left
    · have hy4 : y4 = .string R := hE.get (by kernel_rfl)
      subst hy4
      have hy3 : y3 = .string R := hE.tail.get (by kernel_rfl)
      subst hy3
      clear hS hE
      unfold ag.does
      go_simp
      try exact ⟨rfl, rfl⟩
    refine ag.walk_val (by rfl) (fun W1 hS hE => ?_) ?_
    rotate_left; simp only [Act.put, List.setIfInBounds_toArray, List.set_cons_zero, List.set_cons_succ]; rotate_left
    · clear hS hE
      unfold ag.does
      go_simp
      try exact ⟨rfl, rfl⟩
    refine ag.walk_val (by rfl) (fun W1 hS hE => ?_) ?_
    rotate_left; simp only [Act.put, List.setIfInBounds_toArray, List.set_cons_zero, List.set_cons_succ]; rotate_left
    · clear hS hE
      unfold ag.does
      go_simp
      try exact ⟨rfl, rfl⟩
    refine ag.walk_val (by rfl) (fun W1 hS hE => ?_) ?_
    rotate_left; simp only [Act.put, List.setIfInBounds_toArray, List.set_cons_zero, List.set_cons_succ]; rotate_left
    · obtain ⟨q0, q1, q2⟩ := (F7.out.later hS).tri
      clear hS hE
      unfold ag.does
      go_simp
      try exact ⟨rfl, rfl⟩
    refine ag.walk_sat (by rfl) (fun W1 hS hE => ?_) (fun y5 => ?_)
    rotate_left; simp only [Act.put, List.setIfInBounds_toArray, List.set_cons_zero, List.set_cons_succ]; rotate_left
    · clear hS hE
      unfold ag.does
      go_simp
      refine (HT.out _).mono ?_
      rintro e W2 ⟨rfl, hb⟩
      exact ⟨_, rfl, rfl, hb, ag.News.none (fun _ _ => trivial) _ _⟩
    refine ag.walk_val (by rfl) (fun W1 hS hE => ?_) ?_
    rotate_left; simp only [Act.put, List.setIfInBounds_toArray, List.set_cons_zero, List.set_cons_succ]; rotate_left
    · clear hS hE
      unfold ag.does
      go_simp
      try exact ⟨rfl, rfl⟩
    refine ag.walk_val (by rfl) (fun W1 hS hE => ?_) ?_
    rotate_left; simp only [Act.put, List.setIfInBounds_toArray, List.set_cons_zero, List.set_cons_succ]; rotate_left
    · clear hS hE
      unfold ag.does
      go_simp
      try exact ⟨rfl, rfl⟩
    refine ag.walk_val (by rfl) (fun W1 hS hE => ?_) ?_
    rotate_left; simp only [Act.put, List.setIfInBounds_toArray, List.set_cons_zero, List.set_cons_succ]; rotate_left
    · clear hS hE
      unfold ag.does
      go_simp
      try exact ⟨rfl, rfl⟩
    refine ag.walk_skip (by rfl) ?_
    simp only [Act.put, List.setIfInBounds_toArray, List.set_cons_zero, List.set_cons_succ]
    refine ag.walk_skip (by rfl) ?_
    simp only [Act.put, List.setIfInBounds_toArray, List.set_cons_zero, List.set_cons_succ]
    refine ag.walk_val (by rfl) (fun W1 hS hE => ?_) ?_
    rotate_left; simp only [Act.put, List.setIfInBounds_toArray, List.set_cons_zero, List.set_cons_succ]; rotate_left
    · clear hS hE
      unfold ag.does
      go_simp
      try exact ⟨rfl, rfl⟩
    refine ag.walk_val (by rfl) (fun W1 hS hE => ?_) ?_
    rotate_left; simp only [Act.put, List.setIfInBounds_toArray, List.set_cons_zero, List.set_cons_succ]; rotate_left
    · clear hS hE
      unfold ag.does
      go_simp
      try exact ⟨rfl, rfl⟩
    refine ag.walk_skip (by rfl) ?_
    simp only [Act.put, List.setIfInBounds_toArray, List.set_cons_zero, List.set_cons_succ]
    refine ag.walk_skip (by rfl) ?_
    simp only [Act.put, List.setIfInBounds_toArray, List.set_cons_zero, List.set_cons_succ]
    refine ag.walk_val (by rfl) (fun W1 hS hE => ?_) ?_
    rotate_left; simp only [Act.put, List.setIfInBounds_toArray, List.set_cons_zero, List.set_cons_succ]; rotate_left
    · clear hS hE
      unfold ag.does
      go_simp
      try exact ⟨rfl, rfl⟩
    refine ag.walk_val (by rfl) (fun W1 hS hE => ?_) ?_
    rotate_left; simp only [Act.put, List.setIfInBounds_toArray, List.set_cons_zero, List.set_cons_succ]; rotate_left
    · have hy5 : y5 = .bool false := hE.get (by kernel_rfl)
      subst hy5
      clear hS hE
      unfold ag.does
      go_simp
      try exact ⟨rfl, rfl⟩
    refine ag.walk_val (by rfl) (fun W1 hS hE => ?_) ?_
    rotate_left; simp only [Act.put, List.setIfInBounds_toArray, List.set_cons_zero, List.set_cons_succ]; rotate_left
    · clear hS hE
      unfold ag.does
      go_simp
      try exact ⟨rfl, rfl⟩
    refine ag.walk_nil (fun w7 hS hF' hP => ?_)
    clear hF' hP
    have HS := Lib.hid hS
    clear hS
    have hv1 : veq6 3 0 S 3 0 S = true := veq_same 3 0 S
    have hv2 : veq6 2 n ByteArray.empty 2 n ⟨#[]⟩ = true := veq_same 2 n ⟨#[]⟩
    obtain ⟨Z, hZ⟩ : ∃ Z, Z = w7 := ⟨_, rfl⟩
    subst hZ
    go_upto_region 10 with (first | (go_at_call 21; ((with_reducible refine (ofText_any _ _).mono ?_); rintro e wq ⟨rfl, hbq⟩; have hBq : Below Z.heap.size Z wq := after (by first | assumption | exact Below.refl _ _) hbq; clear hbq)) | (go_at_call 22; ((with_reducible refine (ofInt_any _ _).mono ?_); rintro e wq ⟨rfl, hbq⟩; have hBq : Below Z.heap.size Z wq := after (by first | assumption | exact Below.refl _ _) hbq; clear hbq)) | (go_at_call 23; ((with_reducible refine (ofBool_any _ _).mono ?_); rintro e wq ⟨rfl, hbq⟩; have hBq : Below Z.heap.size Z wq := after (by first | assumption | exact Below.refl _ _) hbq; clear hbq)) | (go_at_call 20; ((with_reducible refine (true_ofB _ _).mono ?_); rintro e wq ⟨rfl, hbq⟩; have hBq : Below Z.heap.size Z wq := after (by first | assumption | exact Below.refl _ _) hbq; clear hbq)))
    have hq := HS.out.trans (hBq.mono HS.out.size)
    obtain ⟨q0, q1, q2⟩ := (F8.out.later hq).tri
    have HQ := Lib.hid hq
    clear hq hBq hv1 hv2
    go_wp2_with fail
    (with_reducible refine (HRG.out _).mono ?_); rintro e wr ⟨rfl, hbr⟩
    go_wp2_with fail
    go_ret
    exact ⟨rfl, after (after HBW.out HQ.out) hbr⟩
set_option maxRecDepth 100000 in
set_option maxHeartbeats 4000000 in
theorem ones_bad_b (n : Int) (s S : ByteArray) (hS : s.extract 0 (min (s.size : Int) 70).toNat = S) (hb : gB 1 n S = false) (n1 : (n == 1) = false) (hn : -9223372036854775808 ≤ n ∧ n ≤ 9223372036854775807) (hs : s.size ≤ maxLen)
    (m : Int) (W : World) (hm : W.cell? ⟨gMax, 0, none⟩ = some (.int .i64 m)) (hp : Pow10 W) :
    Calls Tryd.prog 5 #[.int .i64 1, .int .i64 n, .string s] W fun e w' => e = .returned (.bool true) ∧ Below W.heap.size W w' := by
  have HM := Lib.hid hm
  have HP := Lib.hid hp
  have HS := Lib.hid hS
  have hsz : S.size ≤ 70 := by rw [← hS, ByteArray.size_extract]; omega
  have HG := Lib.hid (fun W => good_any 1 n S W)
  have HRG := Lib.hid (fun W => rgood_any 1 n S W)
  have HSH := Lib.hid (fun W h1 h2 => show_any 1 n S hn m W h1 h2)
  have HRS := Lib.hid (fun W => rshow_any 1 n S hn W)
  have HT := Lib.hid (fun W => true_any 1 n S W)
  have hgb : gB 1 n S = false := hb
  have htb : veq6 1 n S (ofB true).k (ofB true).n (ofB true).s = false := by unfold veq6; rw [show (n == (ofB true).n) = false from n1]; rfl
  rw [hgb] at HG HRG
  rw [htb] at HT
  obtain ⟨R, hR⟩ : ∃ R, showV 1 n S = R := ⟨_, rfl⟩
  rw [hR] at HSH HRS
  clear hm hp hS hgb htb hR
  clear hb hn
  go_enter Tryd.func5, Tryd.ntmps5
  go_wp2_with (go_at_call 10; ((with_reducible refine (speaks m _ HM.out).mono ?_); rintro e w1 ⟨rfl, hw1⟩))
  have hm1 := cell_later hw1 HM.out
  have hp1 := pow10_later HP.out hw1
  have HB1 := Lib.hid hw1
  have HM1 := Lib.hid hm1; have HP1 := Lib.hid hp1
  clear hw1 hm1 hp1
  rw [HS.out]
  have F7 := Lib.hid ((Flds.new w1 TV [.int .i64 1, .int .i64 n, .string S]).alloc (.cells #[.int .i64 1, .int .i64 n, .string S] TR))
  have F8 : Hid (Flds ((w1.alloc (.cells #[.int .i64 1, .int .i64 n, .string S] TV)).alloc (.cells #[.int .i64 1, .int .i64 n, .string S] TR)) (w1.heap.size + 1) TR [.int .i64 1, .int .i64 n, .string S]) := Lib.hid (by
    have := Flds.new (w1.alloc (.cells #[.int .i64 1, .int .i64 n, .string S] TV)) TR [.int .i64 1, .int .i64 n, .string S]
    rw [World.size_alloc] at this
    exact this)
  have HBX := Lib.hid (below_alloc2 w1 (.cells #[.int .i64 1, .int .i64 n, .string S] TV) (.cells #[.int .i64 1, .int .i64 n, .string S] TR))
  have HMX := Lib.hid (cell_later HBX.out HM1.out)
  have HPX := Lib.hid (pow10_later HP1.out HBX.out)
  have HBW := Lib.hid (after HB1.out HBX.out)
  clear HBX HM1 HP1
  generalize (w1.alloc (.cells #[.int .i64 1, .int .i64 n, .string S] TV)).alloc (.cells #[.int .i64 1, .int .i64 n, .string S] TR) = X at *
  generalize w1.heap.size + 1 = g8 at *
  generalize w1.heap.size = g7 at *
  go_wp2_with fail
  refine ag.region_ag (fun W1 => Below X.heap.size X W1) (fun _ _ _ _ => True)
    [.val (.agg #[.int .i64 1, .int .i64 n, .string S]), .sat (fun v _ => v = .bool false) (fun _ w w' => Below w.heap.size w w'), .val (.agg #[.int .i64 1, .int .i64 n, .string S]), .sat (fun v _ => v = .bool false) (fun _ w w' => Below w.heap.size w w'), .val (.bool false), .val (.bool false), .val (.agg #[.int .i64 1, .int .i64 n, .string S]), .sat (fun v _ => v = .string R) (fun _ w w' => Below w.heap.size w w'), .val (.agg #[.int .i64 1, .int .i64 n, .string S]), .sat (fun v _ => v = .string R) (fun _ w w' => Below w.heap.size w w'), .val (.bool false), .val (.bool false), .val (.bool false), .val (.agg #[.int .i64 1, .int .i64 n, .string S]), .sat (fun v _ => v = .bool false) (fun _ w w' => Below w.heap.size w w'), .val (.int .i64 1), .val (.bool true), .val (.bool true), .val (.int .i64 n), .val (.bool false), .val (.bool false), .val (.bool false), .val undef, .val undef, .val (.bool false), .val (.bool false), .val (.bool false)]
    (by kernel_rfl) (by kernel_rfl) rfl (⟨rfl, rfl, rfl, Nat.le_refl _, fun _ _ => rfl⟩) ?hst6 ?hk6 ?hwalk6
  case hst6 =>
    simp only [ag.Stab, ag.Row2, ag.Ok2, and_true]
    repeat' apply And.intro
    all_goals first
      | exact fun h => absurd rfl h
      | exact fun _ _ f v W W' hS hv _ ht => hv
      | trivial
  case hk6 =>
    simp only [ag.Keeps, and_true]
    exact ⟨fun f W1 W2 hS _ ht => hS.trans (ht.mono hS.size), fun f W1 W2 hS _ ht => hS.trans (ht.mono hS.size), fun f W1 W2 hS _ ht => hS.trans (ht.mono hS.size), fun f W1 W2 hS _ ht => hS.trans (ht.mono hS.size), fun f W1 W2 hS _ ht => hS.trans (ht.mono hS.size)⟩
  case hwalk6 =>
    refine ag.walk_val (by rfl) (fun W1 hS hE => ?_) ?_
    rotate_left; simp only [Act.put, List.setIfInBounds_toArray, List.set_cons_zero, List.set_cons_succ]; rotate_left
    · obtain ⟨q0, q1, q2⟩ := (F7.out.later hS).tri
      clear hS hE
      unfold ag.does
      go_simp
      try exact ⟨rfl, rfl⟩
    refine ag.walk_sat (by rfl) (fun W1 hS hE => ?_) (fun y1 => ?_)
    rotate_left; simp only [Act.put, List.setIfInBounds_toArray, List.set_cons_zero, List.set_cons_succ]; rotate_left
    · clear hS hE
      unfold ag.does
      go_simp
      refine (HG.out _).mono ?_
      rintro e W2 ⟨rfl, hb⟩
      exact ⟨_, rfl, rfl, hb, ag.News.none (fun _ _ => trivial) _ _⟩
    refine ag.walk_val (by rfl) (fun W1 hS hE => ?_) ?_
    rotate_left; simp only [Act.put, List.setIfInBounds_toArray, List.set_cons_zero, List.set_cons_succ]; rotate_left
    · obtain ⟨q0, q1, q2⟩ := (F8.out.later hS).tri
      clear hS hE
      unfold ag.does
      go_simp
      try exact ⟨rfl, rfl⟩
    refine ag.walk_sat (by rfl) (fun W1 hS hE => ?_) (fun y2 => ?_)
    rotate_left; simp only [Act.put, List.setIfInBounds_toArray, List.set_cons_zero, List.set_cons_succ]; rotate_left
    · clear hS hE
      unfold ag.does
      go_simp
      refine (HRG.out _).mono ?_
      rintro e W2 ⟨rfl, hb⟩
      exact ⟨_, rfl, rfl, hb, ag.News.none (fun _ _ => trivial) _ _⟩
    refine ag.walk_val (by rfl) (fun W1 hS hE => ?_) ?_
    rotate_left; simp only [Act.put, List.setIfInBounds_toArray, List.set_cons_zero, List.set_cons_succ]; rotate_left
    · have hy2 : y2 = .bool false := hE.get (by kernel_rfl)
      subst hy2
      have hy1 : y1 = .bool false := hE.tail.get (by kernel_rfl)
      subst hy1
      clear hS hE
      unfold ag.does
      go_simp
      try exact ⟨rfl, rfl⟩
    refine ag.walk_val (by rfl) (fun W1 hS hE => ?_) ?_
    rotate_left; simp only [Act.put, List.setIfInBounds_toArray, List.set_cons_zero, List.set_cons_succ]; rotate_left
    · clear hS hE
      unfold ag.does
      go_simp
      try exact ⟨rfl, rfl⟩
    refine ag.walk_val (by rfl) (fun W1 hS hE => ?_) ?_
    rotate_left; simp only [Act.put, List.setIfInBounds_toArray, List.set_cons_zero, List.set_cons_succ]; rotate_left
    · obtain ⟨q0, q1, q2⟩ := (F7.out.later hS).tri
      clear hS hE
      unfold ag.does
      go_simp
      try exact ⟨rfl, rfl⟩
    refine ag.walk_sat (by rfl) (fun W1 hS hE => ?_) (fun y3 => ?_)
    rotate_left; simp only [Act.put, List.setIfInBounds_toArray, List.set_cons_zero, List.set_cons_succ]; rotate_left
    · have HMX1 := Lib.hid (cell_later hS HMX.out)
      have HPX1 := Lib.hid (pow10_later HPX.out hS)
      clear hS hE
      unfold ag.does
      go_simp
      refine (HSH.out _ HMX1.out HPX1.out).mono ?_
      rintro e W2 ⟨rfl, hb⟩
      exact ⟨_, rfl, rfl, hb, ag.News.none (fun _ _ => trivial) _ _⟩
    refine ag.walk_val (by rfl) (fun W1 hS hE => ?_) ?_
    rotate_left; simp only [Act.put, List.setIfInBounds_toArray, List.set_cons_zero, List.set_cons_succ]; rotate_left
    · obtain ⟨q0, q1, q2⟩ := (F8.out.later hS).tri
      clear hS hE
      unfold ag.does
      go_simp
      try exact ⟨rfl, rfl⟩
    refine ag.walk_sat (by rfl) (fun W1 hS hE => ?_) (fun y4 => ?_)
    rotate_left; simp only [Act.put, List.setIfInBounds_toArray, List.set_cons_zero, List.set_cons_succ]; rotate_left
    · clear hS hE
      unfold ag.does
      go_simp
      refine (HRS.out _).mono ?_
      rintro e W2 ⟨rfl, hb⟩
      exact ⟨_, rfl, rfl, hb, ag.News.none (fun _ _ => trivial) _ _⟩
    refine ag.walk_val (by rfl) (fun W1 hS hE => ?_) ?_
    rotate_left; simp only [Act.put, List.setIfInBounds_toArray, List.set_cons_zero, List.set_cons_succ]; rotate_left
    · have hy4 : y4 = .string R := hE.get (by kernel_rfl)
      subst hy4
      have hy3 : y3 = .string R := hE.tail.get (by kernel_rfl)
      subst hy3
      clear hS hE
      unfold ag.does
      go_simp
      try exact ⟨rfl, rfl⟩
    refine ag.walk_val (by rfl) (fun W1 hS hE => ?_) ?_
    rotate_left; simp only [Act.put, List.setIfInBounds_toArray, List.set_cons_zero, List.set_cons_succ]; rotate_left
    · clear hS hE
      unfold ag.does
      go_simp
      try exact ⟨rfl, rfl⟩
    refine ag.walk_val (by rfl) (fun W1 hS hE => ?_) ?_
    rotate_left; simp only [Act.put, List.setIfInBounds_toArray, List.set_cons_zero, List.set_cons_succ]; rotate_left
    · clear hS hE
      unfold ag.does
      go_simp
      try exact ⟨rfl, rfl⟩
    refine ag.walk_val (by rfl) (fun W1 hS hE => ?_) ?_
    rotate_left; simp only [Act.put, List.setIfInBounds_toArray, List.set_cons_zero, List.set_cons_succ]; rotate_left
    · obtain ⟨q0, q1, q2⟩ := (F7.out.later hS).tri
      clear hS hE
      unfold ag.does
      go_simp
      try exact ⟨rfl, rfl⟩
    refine ag.walk_sat (by rfl) (fun W1 hS hE => ?_) (fun y5 => ?_)
    rotate_left; simp only [Act.put, List.setIfInBounds_toArray, List.set_cons_zero, List.set_cons_succ]; rotate_left
    · clear hS hE
      unfold ag.does
      go_simp
      refine (HT.out _).mono ?_
      rintro e W2 ⟨rfl, hb⟩
      exact ⟨_, rfl, rfl, hb, ag.News.none (fun _ _ => trivial) _ _⟩
    refine ag.walk_val (by rfl) (fun W1 hS hE => ?_) ?_
    rotate_left; simp only [Act.put, List.setIfInBounds_toArray, List.set_cons_zero, List.set_cons_succ]; rotate_left
    · clear hS hE
      unfold ag.does
      go_simp
      try exact ⟨rfl, rfl⟩
    refine ag.walk_val (by rfl) (fun W1 hS hE => ?_) ?_
    rotate_left; simp only [Act.put, List.setIfInBounds_toArray, List.set_cons_zero, List.set_cons_succ]; rotate_left
    · clear hS hE
      unfold ag.does
      go_simp
      try exact ⟨rfl, rfl⟩
    refine ag.walk_val (by rfl) (fun W1 hS hE => ?_) ?_
    rotate_left; simp only [Act.put, List.setIfInBounds_toArray, List.set_cons_zero, List.set_cons_succ]; rotate_left
    · clear hS hE
      unfold ag.does
      go_simp
      try exact ⟨rfl, rfl⟩
    refine ag.walk_val (by rfl) (fun W1 hS hE => ?_) ?_
    rotate_left; simp only [Act.put, List.setIfInBounds_toArray, List.set_cons_zero, List.set_cons_succ]; rotate_left
    · clear hS hE
      unfold ag.does
      go_simp
      try exact ⟨rfl, rfl⟩
    refine ag.walk_val (by rfl) (fun W1 hS hE => ?_) ?_
    rotate_left; simp only [Act.put, List.setIfInBounds_toArray, List.set_cons_zero, List.set_cons_succ]; rotate_left
    · clear hS hE
      unfold ag.does
      go_simp
      try exact ⟨rfl, rfl⟩
    refine ag.walk_val (by rfl) (fun W1 hS hE => ?_) ?_
    rotate_left; simp only [Act.put, List.setIfInBounds_toArray, List.set_cons_zero, List.set_cons_succ]; rotate_left
    · clear hS hE
      unfold ag.does
      go_simp
      try exact ⟨rfl, rfl⟩
    refine ag.walk_val (by rfl) (fun W1 hS hE => ?_) ?_
    rotate_left; simp only [Act.put, List.setIfInBounds_toArray, List.set_cons_zero, List.set_cons_succ]; rotate_left
    · clear hS hE
      unfold ag.does
      go_simp
      try exact ⟨rfl, rfl⟩
    refine ag.walk_skip (by rfl) ?_
    simp only [Act.put, List.setIfInBounds_toArray, List.set_cons_zero, List.set_cons_succ]
    refine ag.walk_skip (by rfl) ?_
    simp only [Act.put, List.setIfInBounds_toArray, List.set_cons_zero, List.set_cons_succ]
    refine ag.walk_val (by rfl) (fun W1 hS hE => ?_) ?_
    rotate_left; simp only [Act.put, List.setIfInBounds_toArray, List.set_cons_zero, List.set_cons_succ]; rotate_left
    · clear hS hE
      unfold ag.does
      go_simp
      try exact ⟨rfl, rfl⟩
    refine ag.walk_val (by rfl) (fun W1 hS hE => ?_) ?_
    rotate_left; simp only [Act.put, List.setIfInBounds_toArray, List.set_cons_zero, List.set_cons_succ]; rotate_left
    · have hy5 : y5 = .bool false := hE.get (by kernel_rfl)
      subst hy5
      clear hS hE
      unfold ag.does
      go_simp
      try exact ⟨rfl, rfl⟩
    refine ag.walk_val (by rfl) (fun W1 hS hE => ?_) ?_
    rotate_left; simp only [Act.put, List.setIfInBounds_toArray, List.set_cons_zero, List.set_cons_succ]; rotate_left
    · clear hS hE
      unfold ag.does
      go_simp
      try exact ⟨rfl, rfl⟩
    refine ag.walk_nil (fun w7 hS hF' hP => ?_)
    clear hF' hP
    have HS := Lib.hid hS
    clear hS
    have hv1 : veq6 3 0 S 3 0 S = true := veq_same 3 0 S
    have hv2 : veq6 2 n ByteArray.empty 2 n ⟨#[]⟩ = true := veq_same 2 n ⟨#[]⟩
    obtain ⟨Z, hZ⟩ : ∃ Z, Z = w7 := ⟨_, rfl⟩
    subst hZ
    go_upto_region 10 with (first | (go_at_call 21; ((with_reducible refine (ofText_any _ _).mono ?_); rintro e wq ⟨rfl, hbq⟩; have hBq : Below Z.heap.size Z wq := after (by first | assumption | exact Below.refl _ _) hbq; clear hbq)) | (go_at_call 22; ((with_reducible refine (ofInt_any _ _).mono ?_); rintro e wq ⟨rfl, hbq⟩; have hBq : Below Z.heap.size Z wq := after (by first | assumption | exact Below.refl _ _) hbq; clear hbq)) | (go_at_call 23; ((with_reducible refine (ofBool_any _ _).mono ?_); rintro e wq ⟨rfl, hbq⟩; have hBq : Below Z.heap.size Z wq := after (by first | assumption | exact Below.refl _ _) hbq; clear hbq)) | (go_at_call 20; ((with_reducible refine (true_ofB _ _).mono ?_); rintro e wq ⟨rfl, hbq⟩; have hBq : Below Z.heap.size Z wq := after (by first | assumption | exact Below.refl _ _) hbq; clear hbq)))
    have hq := HS.out.trans (hBq.mono HS.out.size)
    obtain ⟨q0, q1, q2⟩ := (F8.out.later hq).tri
    have HQ := Lib.hid hq
    clear hq hBq hv1 hv2
    go_wp2_with fail
    (with_reducible refine (HRG.out _).mono ?_); rintro e wr ⟨rfl, hbr⟩
    go_wp2_with fail
    go_ret
    exact ⟨rfl, after (after HBW.out HQ.out) hbr⟩
set_option maxRecDepth 100000 in
set_option maxHeartbeats 4000000 in
theorem ones_bad_c (s S : ByteArray) (hS : s.extract 0 (min (s.size : Int) 70).toNat = S) (hb : gB 1 1 S = false) (he : S.toList.isEmpty = false) (hs : s.size ≤ maxLen)
    (m : Int) (W : World) (hm : W.cell? ⟨gMax, 0, none⟩ = some (.int .i64 m)) (hp : Pow10 W) :
    Calls Tryd.prog 5 #[.int .i64 1, .int .i64 1, .string s] W fun e w' => e = .returned (.bool true) ∧ Below W.heap.size W w' := by
  have HM := Lib.hid hm
  have HP := Lib.hid hp
  have HS := Lib.hid hS
  have hsz : S.size ≤ 70 := by rw [← hS, ByteArray.size_extract]; omega
  have HG := Lib.hid (fun W => good_any 1 1 S W)
  have HRG := Lib.hid (fun W => rgood_any 1 1 S W)
  have HSH := Lib.hid (fun W h1 h2 => show_any 1 1 S (by decide) m W h1 h2)
  have HRS := Lib.hid (fun W => rshow_any 1 1 S (by decide) W)
  have HT := Lib.hid (fun W => true_any 1 1 S W)
  have hgb : gB 1 1 S = false := hb
  have htb : veq6 1 1 S (ofB true).k (ofB true).n (ofB true).s = false := by have h := veq_nob 1 1 S 1; rw [he] at h; exact h
  rw [hgb] at HG HRG
  rw [htb] at HT
  obtain ⟨R, hR⟩ : ∃ R, showV 1 1 S = R := ⟨_, rfl⟩
  rw [hR] at HSH HRS
  clear hm hp hS hgb htb hR
  clear hb
  go_enter Tryd.func5, Tryd.ntmps5
  go_wp2_with (go_at_call 10; ((with_reducible refine (speaks m _ HM.out).mono ?_); rintro e w1 ⟨rfl, hw1⟩))
  have hm1 := cell_later hw1 HM.out
  have hp1 := pow10_later HP.out hw1
  have HB1 := Lib.hid hw1
  have HM1 := Lib.hid hm1; have HP1 := Lib.hid hp1
  clear hw1 hm1 hp1
  rw [HS.out]
  have F7 := Lib.hid ((Flds.new w1 TV [.int .i64 1, .int .i64 1, .string S]).alloc (.cells #[.int .i64 1, .int .i64 1, .string S] TR))
  have F8 : Hid (Flds ((w1.alloc (.cells #[.int .i64 1, .int .i64 1, .string S] TV)).alloc (.cells #[.int .i64 1, .int .i64 1, .string S] TR)) (w1.heap.size + 1) TR [.int .i64 1, .int .i64 1, .string S]) := Lib.hid (by
    have := Flds.new (w1.alloc (.cells #[.int .i64 1, .int .i64 1, .string S] TV)) TR [.int .i64 1, .int .i64 1, .string S]
    rw [World.size_alloc] at this
    exact this)
  have HBX := Lib.hid (below_alloc2 w1 (.cells #[.int .i64 1, .int .i64 1, .string S] TV) (.cells #[.int .i64 1, .int .i64 1, .string S] TR))
  have HMX := Lib.hid (cell_later HBX.out HM1.out)
  have HPX := Lib.hid (pow10_later HP1.out HBX.out)
  have HBW := Lib.hid (after HB1.out HBX.out)
  clear HBX HM1 HP1
  generalize (w1.alloc (.cells #[.int .i64 1, .int .i64 1, .string S] TV)).alloc (.cells #[.int .i64 1, .int .i64 1, .string S] TR) = X at *
  generalize w1.heap.size + 1 = g8 at *
  generalize w1.heap.size = g7 at *
  go_wp2_with fail
  refine ag.region_ag (fun W1 => Below X.heap.size X W1) (fun _ _ _ _ => True)
    [.val (.agg #[.int .i64 1, .int .i64 1, .string S]), .sat (fun v _ => v = .bool false) (fun _ w w' => Below w.heap.size w w'), .val (.agg #[.int .i64 1, .int .i64 1, .string S]), .sat (fun v _ => v = .bool false) (fun _ w w' => Below w.heap.size w w'), .val (.bool false), .val (.bool false), .val (.agg #[.int .i64 1, .int .i64 1, .string S]), .sat (fun v _ => v = .string R) (fun _ w w' => Below w.heap.size w w'), .val (.agg #[.int .i64 1, .int .i64 1, .string S]), .sat (fun v _ => v = .string R) (fun _ w w' => Below w.heap.size w w'), .val (.bool false), .val (.bool false), .val (.bool false), .val (.agg #[.int .i64 1, .int .i64 1, .string S]), .sat (fun v _ => v = .bool false) (fun _ w w' => Below w.heap.size w w'), .val (.int .i64 1), .val (.bool true), .val (.bool true), .val (.int .i64 1), .val (.bool true), .val (.bool true), .val (.bool true), .val (.string S), .val (.bool false), .val (.bool false), .val (.bool false), .val (.bool false)]
    (by kernel_rfl) (by kernel_rfl) rfl (⟨rfl, rfl, rfl, Nat.le_refl _, fun _ _ => rfl⟩) ?hst6 ?hk6 ?hwalk6
  case hst6 =>
    simp only [ag.Stab, ag.Row2, ag.Ok2, and_true]
    repeat' apply And.intro
    all_goals first
      | exact fun h => absurd rfl h
      | exact fun _ _ f v W W' hS hv _ ht => hv
      | trivial
  case hk6 =>
    simp only [ag.Keeps, and_true]
    exact ⟨fun f W1 W2 hS _ ht => hS.trans (ht.mono hS.size), fun f W1 W2 hS _ ht => hS.trans (ht.mono hS.size), fun f W1 W2 hS _ ht => hS.trans (ht.mono hS.size), fun f W1 W2 hS _ ht => hS.trans (ht.mono hS.size), fun f W1 W2 hS _ ht => hS.trans (ht.mono hS.size)⟩
  case hwalk6 =>
    refine ag.walk_val (by rfl) (fun W1 hS hE => ?_) ?_
    rotate_left; simp only [Act.put, List.setIfInBounds_toArray, List.set_cons_zero, List.set_cons_succ]; rotate_left
    · obtain ⟨q0, q1, q2⟩ := (F7.out.later hS).tri
      clear hS hE
      unfold ag.does
      go_simp
      try exact ⟨rfl, rfl⟩
    refine ag.walk_sat (by rfl) (fun W1 hS hE => ?_) (fun y1 => ?_)
    rotate_left; simp only [Act.put, List.setIfInBounds_toArray, List.set_cons_zero, List.set_cons_succ]; rotate_left
    · clear hS hE
      unfold ag.does
      go_simp
      refine (HG.out _).mono ?_
      rintro e W2 ⟨rfl, hb⟩
      exact ⟨_, rfl, rfl, hb, ag.News.none (fun _ _ => trivial) _ _⟩
    refine ag.walk_val (by rfl) (fun W1 hS hE => ?_) ?_
    rotate_left; simp only [Act.put, List.setIfInBounds_toArray, List.set_cons_zero, List.set_cons_succ]; rotate_left
    · obtain ⟨q0, q1, q2⟩ := (F8.out.later hS).tri
      clear hS hE
      unfold ag.does
      go_simp
      try exact ⟨rfl, rfl⟩
    refine ag.walk_sat (by rfl) (fun W1 hS hE => ?_) (fun y2 => ?_)
    rotate_left; simp only [Act.put, List.setIfInBounds_toArray, List.set_cons_zero, List.set_cons_succ]; rotate_left
    · clear hS hE
      unfold ag.does
      go_simp
      refine (HRG.out _).mono ?_
      rintro e W2 ⟨rfl, hb⟩
      exact ⟨_, rfl, rfl, hb, ag.News.none (fun _ _ => trivial) _ _⟩
    refine ag.walk_val (by rfl) (fun W1 hS hE => ?_) ?_
    rotate_left; simp only [Act.put, List.setIfInBounds_toArray, List.set_cons_zero, List.set_cons_succ]; rotate_left
    · have hy2 : y2 = .bool false := hE.get (by kernel_rfl)
      subst hy2
      have hy1 : y1 = .bool false := hE.tail.get (by kernel_rfl)
      subst hy1
      clear hS hE
      unfold ag.does
      go_simp
      try exact ⟨rfl, rfl⟩
    refine ag.walk_val (by rfl) (fun W1 hS hE => ?_) ?_
    rotate_left; simp only [Act.put, List.setIfInBounds_toArray, List.set_cons_zero, List.set_cons_succ]; rotate_left
    · clear hS hE
      unfold ag.does
      go_simp
      try exact ⟨rfl, rfl⟩
    refine ag.walk_val (by rfl) (fun W1 hS hE => ?_) ?_
    rotate_left; simp only [Act.put, List.setIfInBounds_toArray, List.set_cons_zero, List.set_cons_succ]; rotate_left
    · obtain ⟨q0, q1, q2⟩ := (F7.out.later hS).tri
      clear hS hE
      unfold ag.does
      go_simp
      try exact ⟨rfl, rfl⟩
    refine ag.walk_sat (by rfl) (fun W1 hS hE => ?_) (fun y3 => ?_)
    rotate_left; simp only [Act.put, List.setIfInBounds_toArray, List.set_cons_zero, List.set_cons_succ]; rotate_left
    · have HMX1 := Lib.hid (cell_later hS HMX.out)
      have HPX1 := Lib.hid (pow10_later HPX.out hS)
      clear hS hE
      unfold ag.does
      go_simp
      refine (HSH.out _ HMX1.out HPX1.out).mono ?_
      rintro e W2 ⟨rfl, hb⟩
      exact ⟨_, rfl, rfl, hb, ag.News.none (fun _ _ => trivial) _ _⟩
    refine ag.walk_val (by rfl) (fun W1 hS hE => ?_) ?_
    rotate_left; simp only [Act.put, List.setIfInBounds_toArray, List.set_cons_zero, List.set_cons_succ]; rotate_left
    · obtain ⟨q0, q1, q2⟩ := (F8.out.later hS).tri
      clear hS hE
      unfold ag.does
      go_simp
      try exact ⟨rfl, rfl⟩
    refine ag.walk_sat (by rfl) (fun W1 hS hE => ?_) (fun y4 => ?_)
    rotate_left; simp only [Act.put, List.setIfInBounds_toArray, List.set_cons_zero, List.set_cons_succ]; rotate_left
    · clear hS hE
      unfold ag.does
      go_simp
      refine (HRS.out _).mono ?_
      rintro e W2 ⟨rfl, hb⟩
      exact ⟨_, rfl, rfl, hb, ag.News.none (fun _ _ => trivial) _ _⟩
    refine ag.walk_val (by rfl) (fun W1 hS hE => ?_) ?_
    rotate_left; simp only [Act.put, List.setIfInBounds_toArray, List.set_cons_zero, List.set_cons_succ]; rotate_left
    · have hy4 : y4 = .string R := hE.get (by kernel_rfl)
      subst hy4
      have hy3 : y3 = .string R := hE.tail.get (by kernel_rfl)
      subst hy3
      clear hS hE
      unfold ag.does
      go_simp
      try exact ⟨rfl, rfl⟩
    refine ag.walk_val (by rfl) (fun W1 hS hE => ?_) ?_
    rotate_left; simp only [Act.put, List.setIfInBounds_toArray, List.set_cons_zero, List.set_cons_succ]; rotate_left
    · clear hS hE
      unfold ag.does
      go_simp
      try exact ⟨rfl, rfl⟩
    refine ag.walk_val (by rfl) (fun W1 hS hE => ?_) ?_
    rotate_left; simp only [Act.put, List.setIfInBounds_toArray, List.set_cons_zero, List.set_cons_succ]; rotate_left
    · clear hS hE
      unfold ag.does
      go_simp
      try exact ⟨rfl, rfl⟩
    refine ag.walk_val (by rfl) (fun W1 hS hE => ?_) ?_
    rotate_left; simp only [Act.put, List.setIfInBounds_toArray, List.set_cons_zero, List.set_cons_succ]; rotate_left
    · obtain ⟨q0, q1, q2⟩ := (F7.out.later hS).tri
      clear hS hE
      unfold ag.does
      go_simp
      try exact ⟨rfl, rfl⟩
    refine ag.walk_sat (by rfl) (fun W1 hS hE => ?_) (fun y5 => ?_)
    rotate_left; simp only [Act.put, List.setIfInBounds_toArray, List.set_cons_zero, List.set_cons_succ]; rotate_left
    · clear hS hE
      unfold ag.does
      go_simp
      refine (HT.out _).mono ?_
      rintro e W2 ⟨rfl, hb⟩
      exact ⟨_, rfl, rfl, hb, ag.News.none (fun _ _ => trivial) _ _⟩
    refine ag.walk_val (by rfl) (fun W1 hS hE => ?_) ?_
    rotate_left; simp only [Act.put, List.setIfInBounds_toArray, List.set_cons_zero, List.set_cons_succ]; rotate_left
    · clear hS hE
      unfold ag.does
      go_simp
      try exact ⟨rfl, rfl⟩
    refine ag.walk_val (by rfl) (fun W1 hS hE => ?_) ?_
    rotate_left; simp only [Act.put, List.setIfInBounds_toArray, List.set_cons_zero, List.set_cons_succ]; rotate_left
    · clear hS hE
      unfold ag.does
      go_simp
      try exact ⟨rfl, rfl⟩
    refine ag.walk_val (by rfl) (fun W1 hS hE => ?_) ?_
    rotate_left; simp only [Act.put, List.setIfInBounds_toArray, List.set_cons_zero, List.set_cons_succ]; rotate_left
    · clear hS hE
      unfold ag.does
      go_simp
      try exact ⟨rfl, rfl⟩
    refine ag.walk_val (by rfl) (fun W1 hS hE => ?_) ?_
    rotate_left; simp only [Act.put, List.setIfInBounds_toArray, List.set_cons_zero, List.set_cons_succ]; rotate_left
    · clear hS hE
      unfold ag.does
      go_simp
      try exact ⟨rfl, rfl⟩
    refine ag.walk_val (by rfl) (fun W1 hS hE => ?_) ?_
    rotate_left; simp only [Act.put, List.setIfInBounds_toArray, List.set_cons_zero, List.set_cons_succ]; rotate_left
    · clear hS hE
      unfold ag.does
      go_simp
      try exact ⟨rfl, rfl⟩
    refine ag.walk_val (by rfl) (fun W1 hS hE => ?_) ?_
    rotate_left; simp only [Act.put, List.setIfInBounds_toArray, List.set_cons_zero, List.set_cons_succ]; rotate_left
    · clear hS hE
      unfold ag.does
      go_simp
      try exact ⟨rfl, rfl⟩
    refine ag.walk_val (by rfl) (fun W1 hS hE => ?_) ?_
    rotate_left; simp only [Act.put, List.setIfInBounds_toArray, List.set_cons_zero, List.set_cons_succ]; rotate_left
    · clear hS hE
      unfold ag.does
      go_simp
      try exact ⟨rfl, rfl⟩
    refine ag.walk_val (by rfl) (fun W1 hS hE => ?_) ?_
    rotate_left; simp only [Act.put, List.setIfInBounds_toArray, List.set_cons_zero, List.set_cons_succ]; rotate_left
    · clear hS hE
      unfold ag.does
      go_simp
      try exact ⟨rfl, rfl⟩
    refine ag.walk_val (by rfl) (fun W1 hS hE => ?_) ?_
    rotate_left; simp only [Act.put, List.setIfInBounds_toArray, List.set_cons_zero, List.set_cons_succ]; rotate_left
    · clear hS hE
      unfold ag.does
      go_simp
      try exact ⟨rfl, rfl⟩
    refine ag.walk_val (by rfl) (fun W1 hS hE => ?_) ?_
    rotate_left; simp only [Act.put, List.setIfInBounds_toArray, List.set_cons_zero, List.set_cons_succ]; rotate_left
    · clear hS hE
      unfold ag.does
      go_simp
      try exact ⟨rfl, rfl⟩
    refine ag.walk_val (by rfl) (fun W1 hS hE => ?_) ?_
    rotate_left; simp only [Act.put, List.setIfInBounds_toArray, List.set_cons_zero, List.set_cons_succ]; rotate_left
    · have hy5 : y5 = .bool false := hE.get (by kernel_rfl)
      subst hy5
      clear hS hE
      unfold ag.does
      go_simp
      try exact ⟨rfl, rfl⟩
    refine ag.walk_val (by rfl) (fun W1 hS hE => ?_) ?_
    rotate_left; simp only [Act.put, List.setIfInBounds_toArray, List.set_cons_zero, List.set_cons_succ]; rotate_left
    · clear hS hE
      unfold ag.does
      go_simp
      try exact ⟨rfl, rfl⟩
    refine ag.walk_nil (fun w7 hS hF' hP => ?_)
    clear hF' hP
    have HS := Lib.hid hS
    clear hS
    have hv1 : veq6 3 0 S 3 0 S = true := veq_same 3 0 S
    have hv2 : veq6 2 1 ByteArray.empty 2 1 ⟨#[]⟩ = true := veq_same 2 1 ⟨#[]⟩
    obtain ⟨Z, hZ⟩ : ∃ Z, Z = w7 := ⟨_, rfl⟩
    subst hZ
    go_upto_region 10 with (first | (go_at_call 21; ((with_reducible refine (ofText_any _ _).mono ?_); rintro e wq ⟨rfl, hbq⟩; have hBq : Below Z.heap.size Z wq := after (by first | assumption | exact Below.refl _ _) hbq; clear hbq)) | (go_at_call 22; ((with_reducible refine (ofInt_any _ _).mono ?_); rintro e wq ⟨rfl, hbq⟩; have hBq : Below Z.heap.size Z wq := after (by first | assumption | exact Below.refl _ _) hbq; clear hbq)) | (go_at_call 23; ((with_reducible refine (ofBool_any _ _).mono ?_); rintro e wq ⟨rfl, hbq⟩; have hBq : Below Z.heap.size Z wq := after (by first | assumption | exact Below.refl _ _) hbq; clear hbq)) | (go_at_call 20; ((with_reducible refine (true_ofB _ _).mono ?_); rintro e wq ⟨rfl, hbq⟩; have hBq : Below Z.heap.size Z wq := after (by first | assumption | exact Below.refl _ _) hbq; clear hbq)))
    have hq := HS.out.trans (hBq.mono HS.out.size)
    obtain ⟨q0, q1, q2⟩ := (F8.out.later hq).tri
    have HQ := Lib.hid hq
    clear hq hBq hv1 hv2
    go_wp2_with fail
    (with_reducible refine (HRG.out _).mono ?_); rintro e wr ⟨rfl, hbr⟩
    go_wp2_with fail
    go_ret
    exact ⟨rfl, after (after HBW.out HQ.out) hbr⟩
set_option maxRecDepth 100000 in
set_option maxHeartbeats 4000000 in
theorem ones_c0 (s S : ByteArray) (hS : s.extract 0 (min (s.size : Int) 70).toNat = S) (hSn : S = nob) (hs : s.size ≤ maxLen)
    (m : Int) (W : World) (hm : W.cell? ⟨gMax, 0, none⟩ = some (.int .i64 m)) (hp : Pow10 W) :
    Calls Tryd.prog 5 #[.int .i64 0, .int .i64 0, .string s] W fun e w' => e = .returned (.bool true) ∧ Below W.heap.size W w' := by
  have HNOT : Hid (∀ W, Calls Tryd.prog 24 #[ag3 0 0 S] W fun e w' => e = .returned (.tuple #[ag3 0 0 nob, .int .i64 0]) ∧ Below W.heap.size W w') := Lib.hid (fun W => by have h := not_any 0 0 S W; rw [show notV ⟨0, 0, S⟩ = (null, 0) from rfl] at h; exact h)
  have HNEG : Hid (∀ W, Calls Tryd.prog 25 #[ag3 0 0 S] W fun e w' => e = .returned (.tuple #[ag3 0 0 nob, .int .i64 0]) ∧ Below W.heap.size W w') := Lib.hid (fun W => by have h := neg_any 0 0 S (by decide) W; rw [show negV ⟨0, 0, S⟩ = (null, 0) from rfl] at h; exact h)
  have HM := Lib.hid hm
  have HP := Lib.hid hp
  have HS := Lib.hid hS
  have hsz : S.size ≤ 70 := by rw [← hS, ByteArray.size_extract]; omega
  have HG := Lib.hid (fun W => good_any 0 0 S W)
  have HRG := Lib.hid (fun W => rgood_any 0 0 S W)
  have HSH := Lib.hid (fun W h1 h2 => show_any 0 0 S (by decide) m W h1 h2)
  have HRS := Lib.hid (fun W => rshow_any 0 0 S (by decide) W)
  have HT := Lib.hid (fun W => true_any 0 0 S W)
  have hgb : gB 0 0 S = true := by unfold gB; rw [hSn, ← emp_eq]; simp
  have htb : veq6 0 0 S (ofB true).k (ofB true).n (ofB true).s = false := rfl
  rw [hgb] at HG HRG
  rw [htb] at HT
  obtain ⟨R, hR⟩ : ∃ R, showV 0 0 S = R := ⟨_, rfl⟩
  rw [hR] at HSH HRS
  clear hm hp hS hgb htb hR
  subst hSn
  go_enter Tryd.func5, Tryd.ntmps5
  go_wp2_with (go_at_call 10; ((with_reducible refine (speaks m _ HM.out).mono ?_); rintro e w1 ⟨rfl, hw1⟩))
  have hm1 := cell_later hw1 HM.out
  have hp1 := pow10_later HP.out hw1
  have HB1 := Lib.hid hw1
  have HM1 := Lib.hid hm1; have HP1 := Lib.hid hp1
  clear hw1 hm1 hp1
  rw [HS.out]
  have F7 := Lib.hid ((Flds.new w1 TV [.int .i64 0, .int .i64 0, .string nob]).alloc (.cells #[.int .i64 0, .int .i64 0, .string nob] TR))
  have F8 : Hid (Flds ((w1.alloc (.cells #[.int .i64 0, .int .i64 0, .string nob] TV)).alloc (.cells #[.int .i64 0, .int .i64 0, .string nob] TR)) (w1.heap.size + 1) TR [.int .i64 0, .int .i64 0, .string nob]) := Lib.hid (by
    have := Flds.new (w1.alloc (.cells #[.int .i64 0, .int .i64 0, .string nob] TV)) TR [.int .i64 0, .int .i64 0, .string nob]
    rw [World.size_alloc] at this
    exact this)
  have HBX := Lib.hid (below_alloc2 w1 (.cells #[.int .i64 0, .int .i64 0, .string nob] TV) (.cells #[.int .i64 0, .int .i64 0, .string nob] TR))
  have HMX := Lib.hid (cell_later HBX.out HM1.out)
  have HPX := Lib.hid (pow10_later HP1.out HBX.out)
  have HBW := Lib.hid (after HB1.out HBX.out)
  clear HBX HM1 HP1
  generalize (w1.alloc (.cells #[.int .i64 0, .int .i64 0, .string nob] TV)).alloc (.cells #[.int .i64 0, .int .i64 0, .string nob] TR) = X at *
  generalize w1.heap.size + 1 = g8 at *
  generalize w1.heap.size = g7 at *
  go_wp2_with fail
  refine ag.region_ag (fun W1 => Below X.heap.size X W1) (fun _ _ _ _ => True)
    [.val (.agg #[.int .i64 0, .int .i64 0, .string nob]), .sat (fun v _ => v = .bool true) (fun _ w w' => Below w.heap.size w w'), .val (.agg #[.int .i64 0, .int .i64 0, .string nob]), .sat (fun v _ => v = .bool true) (fun _ w w' => Below w.heap.size w w'), .val (.bool false), .val (.bool false), .val (.agg #[.int .i64 0, .int .i64 0, .string nob]), .sat (fun v _ => v = .string R) (fun _ w w' => Below w.heap.size w w'), .val (.agg #[.int .i64 0, .int .i64 0, .string nob]), .sat (fun v _ => v = .string R) (fun _ w w' => Below w.heap.size w w'), .val (.bool false), .val (.bool false), .val (.bool false), .val (.agg #[.int .i64 0, .int .i64 0, .string nob]), .sat (fun v _ => v = .bool false) (fun _ w w' => Below w.heap.size w w'), .val (.int .i64 0), .val (.bool false), .val (.bool false), .val undef, .val undef, .val (.bool false), .val (.bool false), .val undef, .val undef, .val (.bool false), .val (.bool false), .val (.bool false)]
    (by kernel_rfl) (by kernel_rfl) rfl (⟨rfl, rfl, rfl, Nat.le_refl _, fun _ _ => rfl⟩) ?hst6 ?hk6 ?hwalk6
  case hst6 =>
    simp only [ag.Stab, ag.Row2, ag.Ok2, and_true]
    repeat' apply And.intro
    all_goals first
      | exact fun h => absurd rfl h
      | exact fun _ _ f v W W' hS hv _ ht => hv
      | trivial
  case hk6 =>
    simp only [ag.Keeps, and_true]
    exact ⟨fun f W1 W2 hS _ ht => hS.trans (ht.mono hS.size), fun f W1 W2 hS _ ht => hS.trans (ht.mono hS.size), fun f W1 W2 hS _ ht => hS.trans (ht.mono hS.size), fun f W1 W2 hS _ ht => hS.trans (ht.mono hS.size), fun f W1 W2 hS _ ht => hS.trans (ht.mono hS.size)⟩
  case hwalk6 =>
    refine ag.walk_val (by rfl) (fun W1 hS hE => ?_) ?_
    rotate_left; simp only [Act.put, List.setIfInBounds_toArray, List.set_cons_zero, List.set_cons_succ]; rotate_left
    · obtain ⟨q0, q1, q2⟩ := (F7.out.later hS).tri
      clear hS hE
      unfold ag.does
      go_simp
      try exact ⟨rfl, rfl⟩
    refine ag.walk_sat (by rfl) (fun W1 hS hE => ?_) (fun y1 => ?_)
    rotate_left; simp only [Act.put, List.setIfInBounds_toArray, List.set_cons_zero, List.set_cons_succ]; rotate_left
    · clear hS hE
      unfold ag.does
      go_simp
      refine (HG.out _).mono ?_
      rintro e W2 ⟨rfl, hb⟩
      exact ⟨_, rfl, rfl, hb, ag.News.none (fun _ _ => trivial) _ _⟩
    refine ag.walk_val (by rfl) (fun W1 hS hE => ?_) ?_
    rotate_left; simp only [Act.put, List.setIfInBounds_toArray, List.set_cons_zero, List.set_cons_succ]; rotate_left
    · obtain ⟨q0, q1, q2⟩ := (F8.out.later hS).tri
      clear hS hE
      unfold ag.does
      go_simp
      try exact ⟨rfl, rfl⟩
    refine ag.walk_sat (by rfl) (fun W1 hS hE => ?_) (fun y2 => ?_)
    rotate_left; simp only [Act.put, List.setIfInBounds_toArray, List.set_cons_zero, List.set_cons_succ]; rotate_left
    · clear hS hE
      unfold ag.does
      go_simp
      refine (HRG.out _).mono ?_
      rintro e W2 ⟨rfl, hb⟩
      exact ⟨_, rfl, rfl, hb, ag.News.none (fun _ _ => trivial) _ _⟩
    refine ag.walk_val (by rfl) (fun W1 hS hE => ?_) ?_
    rotate_left; simp only [Act.put, List.setIfInBounds_toArray, List.set_cons_zero, List.set_cons_succ]; rotate_left
    · have hy2 : y2 = .bool true := hE.get (by kernel_rfl)
      subst hy2
      have hy1 : y1 = .bool true := hE.tail.get (by kernel_rfl)
      subst hy1
      clear hS hE
      unfold ag.does
      go_simp
      try exact ⟨rfl, rfl⟩
    refine ag.walk_val (by rfl) (fun W1 hS hE => ?_) ?_
    rotate_left; simp only [Act.put, List.setIfInBounds_toArray, List.set_cons_zero, List.set_cons_succ]; rotate_left
    · clear hS hE
      unfold ag.does
      go_simp
      try exact ⟨rfl, rfl⟩
    refine ag.walk_val (by rfl) (fun W1 hS hE => ?_) ?_
    rotate_left; simp only [Act.put, List.setIfInBounds_toArray, List.set_cons_zero, List.set_cons_succ]; rotate_left
    · obtain ⟨q0, q1, q2⟩ := (F7.out.later hS).tri
      clear hS hE
      unfold ag.does
      go_simp
      try exact ⟨rfl, rfl⟩
    refine ag.walk_sat (by rfl) (fun W1 hS hE => ?_) (fun y3 => ?_)
    rotate_left; simp only [Act.put, List.setIfInBounds_toArray, List.set_cons_zero, List.set_cons_succ]; rotate_left
    · have HMX1 := Lib.hid (cell_later hS HMX.out)
      have HPX1 := Lib.hid (pow10_later HPX.out hS)
      clear hS hE
      unfold ag.does
      go_simp
      refine (HSH.out _ HMX1.out HPX1.out).mono ?_
      rintro e W2 ⟨rfl, hb⟩
      exact ⟨_, rfl, rfl, hb, ag.News.none (fun _ _ => trivial) _ _⟩
    refine ag.walk_val (by rfl) (fun W1 hS hE => ?_) ?_
    rotate_left; simp only [Act.put, List.setIfInBounds_toArray, List.set_cons_zero, List.set_cons_succ]; rotate_left
    · obtain ⟨q0, q1, q2⟩ := (F8.out.later hS).tri
      clear hS hE
      unfold ag.does
      go_simp
      try exact ⟨rfl, rfl⟩
    refine ag.walk_sat (by rfl) (fun W1 hS hE => ?_) (fun y4 => ?_)
    rotate_left; simp only [Act.put, List.setIfInBounds_toArray, List.set_cons_zero, List.set_cons_succ]; rotate_left
    · clear hS hE
      unfold ag.does
      go_simp
      refine (HRS.out _).mono ?_
      rintro e W2 ⟨rfl, hb⟩
      exact ⟨_, rfl, rfl, hb, ag.News.none (fun _ _ => trivial) _ _⟩
    refine ag.walk_val (by rfl) (fun W1 hS hE => ?_) ?_
    rotate_left; simp only [Act.put, List.setIfInBounds_toArray, List.set_cons_zero, List.set_cons_succ]; rotate_left
    · have hy4 : y4 = .string R := hE.get (by kernel_rfl)
      subst hy4
      have hy3 : y3 = .string R := hE.tail.get (by kernel_rfl)
      subst hy3
      clear hS hE
      unfold ag.does
      go_simp
      try exact ⟨rfl, rfl⟩
    refine ag.walk_val (by rfl) (fun W1 hS hE => ?_) ?_
    rotate_left; simp only [Act.put, List.setIfInBounds_toArray, List.set_cons_zero, List.set_cons_succ]; rotate_left
    · clear hS hE
      unfold ag.does
      go_simp
      try exact ⟨rfl, rfl⟩
    refine ag.walk_val (by rfl) (fun W1 hS hE => ?_) ?_
    rotate_left; simp only [Act.put, List.setIfInBounds_toArray, List.set_cons_zero, List.set_cons_succ]; rotate_left
    · clear hS hE
      unfold ag.does
      go_simp
      try exact ⟨rfl, rfl⟩
    refine ag.walk_val (by rfl) (fun W1 hS hE => ?_) ?_
    rotate_left; simp only [Act.put, List.setIfInBounds_toArray, List.set_cons_zero, List.set_cons_succ]; rotate_left
    · obtain ⟨q0, q1, q2⟩ := (F7.out.later hS).tri
      clear hS hE
      unfold ag.does
      go_simp
      try exact ⟨rfl, rfl⟩
    refine ag.walk_sat (by rfl) (fun W1 hS hE => ?_) (fun y5 => ?_)
    rotate_left; simp only [Act.put, List.setIfInBounds_toArray, List.set_cons_zero, List.set_cons_succ]; rotate_left
    · clear hS hE
      unfold ag.does
      go_simp
      refine (HT.out _).mono ?_
      rintro e W2 ⟨rfl, hb⟩
      exact ⟨_, rfl, rfl, hb, ag.News.none (fun _ _ => trivial) _ _⟩
    refine ag.walk_val (by rfl) (fun W1 hS hE => ?_) ?_
    rotate_left; simp only [Act.put, List.setIfInBounds_toArray, List.set_cons_zero, List.set_cons_succ]; rotate_left
    · clear hS hE
      unfold ag.does
      go_simp
      try exact ⟨rfl, rfl⟩
    refine ag.walk_val (by rfl) (fun W1 hS hE => ?_) ?_
    rotate_left; simp only [Act.put, List.setIfInBounds_toArray, List.set_cons_zero, List.set_cons_succ]; rotate_left
    · clear hS hE
      unfold ag.does
      go_simp
      try exact ⟨rfl, rfl⟩
    refine ag.walk_val (by rfl) (fun W1 hS hE => ?_) ?_
    rotate_left; simp only [Act.put, List.setIfInBounds_toArray, List.set_cons_zero, List.set_cons_succ]; rotate_left
    · clear hS hE
      unfold ag.does
      go_simp
      try exact ⟨rfl, rfl⟩
    refine ag.walk_skip (by rfl) ?_
    simp only [Act.put, List.setIfInBounds_toArray, List.set_cons_zero, List.set_cons_succ]
    refine ag.walk_skip (by rfl) ?_
    simp only [Act.put, List.setIfInBounds_toArray, List.set_cons_zero, List.set_cons_succ]
    refine ag.walk_val (by rfl) (fun W1 hS hE => ?_) ?_
    rotate_left; simp only [Act.put, List.setIfInBounds_toArray, List.set_cons_zero, List.set_cons_succ]; rotate_left
    · clear hS hE
      unfold ag.does
      go_simp
      try exact ⟨rfl, rfl⟩
    refine ag.walk_val (by rfl) (fun W1 hS hE => ?_) ?_
    rotate_left; simp only [Act.put, List.setIfInBounds_toArray, List.set_cons_zero, List.set_cons_succ]; rotate_left
    · clear hS hE
      unfold ag.does
      go_simp
      try exact ⟨rfl, rfl⟩
    refine ag.walk_skip (by rfl) ?_
    simp only [Act.put, List.setIfInBounds_toArray, List.set_cons_zero, List.set_cons_succ]
    refine ag.walk_skip (by rfl) ?_
    simp only [Act.put, List.setIfInBounds_toArray, List.set_cons_zero, List.set_cons_succ]
    refine ag.walk_val (by rfl) (fun W1 hS hE => ?_) ?_
    rotate_left; simp only [Act.put, List.setIfInBounds_toArray, List.set_cons_zero, List.set_cons_succ]; rotate_left
    · clear hS hE
      unfold ag.does
      go_simp
      try exact ⟨rfl, rfl⟩
    refine ag.walk_val (by rfl) (fun W1 hS hE => ?_) ?_
    rotate_left; simp only [Act.put, List.setIfInBounds_toArray, List.set_cons_zero, List.set_cons_succ]; rotate_left
    · have hy5 : y5 = .bool false := hE.get (by kernel_rfl)
      subst hy5
      clear hS hE
      unfold ag.does
      go_simp
      try exact ⟨rfl, rfl⟩
    refine ag.walk_val (by rfl) (fun W1 hS hE => ?_) ?_
    rotate_left; simp only [Act.put, List.setIfInBounds_toArray, List.set_cons_zero, List.set_cons_succ]; rotate_left
    · clear hS hE
      unfold ag.does
      go_simp
      try exact ⟨rfl, rfl⟩
    refine ag.walk_nil (fun w7 hS hF' hP => ?_)
    clear hF' hP
    have HS := Lib.hid hS
    clear hS
    have hv1 : veq6 3 0 nob 3 0 nob = true := veq_same 3 0 nob
    have hv2 : veq6 2 0 ByteArray.empty 2 0 ⟨#[]⟩ = true := veq_same 2 0 ⟨#[]⟩
    obtain ⟨Z, hZ⟩ : ∃ Z, Z = w7 := ⟨_, rfl⟩
    subst hZ
    go_upto_region 10 with (first | (go_at_call 21; ((with_reducible refine (ofText_any _ _).mono ?_); rintro e wq ⟨rfl, hbq⟩; have hBq : Below Z.heap.size Z wq := after (by first | assumption | exact Below.refl _ _) hbq; clear hbq)) | (go_at_call 22; ((with_reducible refine (ofInt_any _ _).mono ?_); rintro e wq ⟨rfl, hbq⟩; have hBq : Below Z.heap.size Z wq := after (by first | assumption | exact Below.refl _ _) hbq; clear hbq)) | (go_at_call 23; ((with_reducible refine (ofBool_any _ _).mono ?_); rintro e wq ⟨rfl, hbq⟩; have hBq : Below Z.heap.size Z wq := after (by first | assumption | exact Below.refl _ _) hbq; clear hbq)) | (go_at_call 20; ((with_reducible refine (true_ofB _ _).mono ?_); rintro e wq ⟨rfl, hbq⟩; have hBq : Below Z.heap.size Z wq := after (by first | assumption | exact Below.refl _ _) hbq; clear hbq)))
    have hq := HS.out.trans (hBq.mono HS.out.size)
    obtain ⟨q0, q1, q2⟩ := (F8.out.later hq).tri
    have HQ := Lib.hid hq
    clear hq hBq hv1 hv2
    go_wp2_with fail
    (with_reducible refine (HRG.out _).mono ?_); rintro e wr ⟨rfl, hbr⟩
    have hr := HQ.out.trans (hbr.mono HQ.out.size)
    clear q0 q1 q2 hbr
    obtain ⟨q0, q1, q2⟩ := (F7.out.later hr).tri
    have HR1 := Lib.hid hr
    clear hr
    go_wp2_with fail
    (with_reducible refine (HNOT.out _).mono ?_); rintro e ws ⟨rfl, hbs⟩
    have hs1 := HR1.out.trans (hbs.mono HR1.out.size)
    have F7a := Lib.hid ((F7.out.later hs1).alloc (.cells #[.int .i64 0, .int .i64 0, .string nob] TV))
    have F9a := Lib.hid (Flds.new ws TV [.int .i64 0, .int .i64 0, .string nob])
    have HBa := Lib.hid (hs1.alloc hs1.size (.cells #[.int .i64 0, .int .i64 0, .string nob] TV))
    clear q0 q1 q2 hbs hs1
    go_upto_region 13 with fail
    generalize ws.alloc (.cells #[.int .i64 0, .int .i64 0, .string nob] TV) = A1 at *
    generalize ws.heap.size = g9 at *
    obtain ⟨q0, q1, q2⟩ := F7a.out.tri
    go_wp2_with fail
    (with_reducible refine (HNEG.out _).mono ?_); rintro e wt ⟨rfl, hbt⟩
    have F7b := Lib.hid ((F7a.out.later hbt).alloc (.cells #[.int .i64 0, .int .i64 0, .string nob] TV))
    have F9b := Lib.hid ((F9a.out.later hbt).alloc (.cells #[.int .i64 0, .int .i64 0, .string nob] TV))
    have F11 := Lib.hid (Flds.new wt TV [.int .i64 0, .int .i64 0, .string nob])
    have ht1 := HBa.out.trans (hbt.mono HBa.out.size)
    have HBb := Lib.hid (ht1.alloc ht1.size (.cells #[.int .i64 0, .int .i64 0, .string nob] TV))
    clear q0 q1 q2 hbt ht1
    go_upto_region 14 with fail
    generalize wt.alloc (.cells #[.int .i64 0, .int .i64 0, .string nob] TV) = A2 at *
    generalize wt.heap.size = g11 at *
    obtain ⟨q0, q1, q2⟩ := F7b.out.tri
    obtain ⟨r0, r1, r2⟩ := F9b.out.tri
    obtain ⟨x0, x1, x2⟩ := F11.out.tri
    have l7 := F7b.out.lt
    have l9 := F9b.out.lt
    have l11 := F11.out.lt
    have hv0 : veq6 0 0 nob 0 0 nob = true := veq_same 0 0 nob
    go_wp2
    go_ret
    exact ⟨rfl, after HBW.out HBb.out⟩
set_option maxRecDepth 100000 in
set_option maxHeartbeats 4000000 in
theorem ones_c10 (s S : ByteArray) (hS : s.extract 0 (min (s.size : Int) 70).toNat = S) (hSn : S = nob) (hs : s.size ≤ maxLen)
    (m : Int) (W : World) (hm : W.cell? ⟨gMax, 0, none⟩ = some (.int .i64 m)) (hp : Pow10 W) :
    Calls Tryd.prog 5 #[.int .i64 1, .int .i64 0, .string s] W fun e w' => e = .returned (.bool true) ∧ Below W.heap.size W w' := by
  have HOB := Lib.hid (ofT_lit)
  have HNOT : Hid (∀ W, Calls Tryd.prog 24 #[ag3 1 0 S] W fun e w' => e = .returned (.tuple #[ag3 1 1 nob, .int .i64 0]) ∧ Below W.heap.size W w') := Lib.hid (fun W => by have h := not_any 1 0 S W; rw [show notV ⟨1, 0, S⟩ = (ofB true, 0) from rfl] at h; exact h)
  have HNEG : Hid (∀ W, Calls Tryd.prog 25 #[ag3 1 0 S] W fun e w' => e = .returned (.tuple #[ag3 0 0 nob, .int .i64 5]) ∧ Below W.heap.size W w') := Lib.hid (fun W => by have h := neg_any 1 0 S (by decide) W; rw [show negV ⟨1, 0, S⟩ = (null, 5) from rfl] at h; exact h)
  have HM := Lib.hid hm
  have HP := Lib.hid hp
  have HS := Lib.hid hS
  have hsz : S.size ≤ 70 := by rw [← hS, ByteArray.size_extract]; omega
  have HG := Lib.hid (fun W => good_any 1 0 S W)
  have HRG := Lib.hid (fun W => rgood_any 1 0 S W)
  have HSH := Lib.hid (fun W h1 h2 => show_any 1 0 S (by decide) m W h1 h2)
  have HRS := Lib.hid (fun W => rshow_any 1 0 S (by decide) W)
  have HT := Lib.hid (fun W => true_any 1 0 S W)
  have hgb : gB 1 0 S = true := by unfold gB; rw [hSn, ← emp_eq]; simp
  have htb : veq6 1 0 S (ofB true).k (ofB true).n (ofB true).s = false := rfl
  rw [hgb] at HG HRG
  rw [htb] at HT
  obtain ⟨R, hR⟩ : ∃ R, showV 1 0 S = R := ⟨_, rfl⟩
  rw [hR] at HSH HRS
  clear hm hp hS hgb htb hR
  subst hSn
  go_enter Tryd.func5, Tryd.ntmps5
  go_wp2_with (go_at_call 10; ((with_reducible refine (speaks m _ HM.out).mono ?_); rintro e w1 ⟨rfl, hw1⟩))
  have hm1 := cell_later hw1 HM.out
  have hp1 := pow10_later HP.out hw1
  have HB1 := Lib.hid hw1
  have HM1 := Lib.hid hm1; have HP1 := Lib.hid hp1
  clear hw1 hm1 hp1
  rw [HS.out]
  have F7 := Lib.hid ((Flds.new w1 TV [.int .i64 1, .int .i64 0, .string nob]).alloc (.cells #[.int .i64 1, .int .i64 0, .string nob] TR))
  have F8 : Hid (Flds ((w1.alloc (.cells #[.int .i64 1, .int .i64 0, .string nob] TV)).alloc (.cells #[.int .i64 1, .int .i64 0, .string nob] TR)) (w1.heap.size + 1) TR [.int .i64 1, .int .i64 0, .string nob]) := Lib.hid (by
    have := Flds.new (w1.alloc (.cells #[.int .i64 1, .int .i64 0, .string nob] TV)) TR [.int .i64 1, .int .i64 0, .string nob]
    rw [World.size_alloc] at this
    exact this)
  have HBX := Lib.hid (below_alloc2 w1 (.cells #[.int .i64 1, .int .i64 0, .string nob] TV) (.cells #[.int .i64 1, .int .i64 0, .string nob] TR))
  have HMX := Lib.hid (cell_later HBX.out HM1.out)
  have HPX := Lib.hid (pow10_later HP1.out HBX.out)
  have HBW := Lib.hid (after HB1.out HBX.out)
  clear HBX HM1 HP1
  generalize (w1.alloc (.cells #[.int .i64 1, .int .i64 0, .string nob] TV)).alloc (.cells #[.int .i64 1, .int .i64 0, .string nob] TR) = X at *
  generalize w1.heap.size + 1 = g8 at *
  generalize w1.heap.size = g7 at *
  go_wp2_with fail
  refine ag.region_ag (fun W1 => Below X.heap.size X W1) (fun _ _ _ _ => True)
    [.val (.agg #[.int .i64 1, .int .i64 0, .string nob]), .sat (fun v _ => v = .bool true) (fun _ w w' => Below w.heap.size w w'), .val (.agg #[.int .i64 1, .int .i64 0, .string nob]), .sat (fun v _ => v = .bool true) (fun _ w w' => Below w.heap.size w w'), .val (.bool false), .val (.bool false), .val (.agg #[.int .i64 1, .int .i64 0, .string nob]), .sat (fun v _ => v = .string R) (fun _ w w' => Below w.heap.size w w'), .val (.agg #[.int .i64 1, .int .i64 0, .string nob]), .sat (fun v _ => v = .string R) (fun _ w w' => Below w.heap.size w w'), .val (.bool false), .val (.bool false), .val (.bool false), .val (.agg #[.int .i64 1, .int .i64 0, .string nob]), .sat (fun v _ => v = .bool false) (fun _ w w' => Below w.heap.size w w'), .val (.int .i64 1), .val (.bool true), .val (.bool true), .val (.int .i64 0), .val (.bool false), .val (.bool false), .val (.bool false), .val undef, .val undef, .val (.bool false), .val (.bool false), .val (.bool false)]
    (by kernel_rfl) (by kernel_rfl) rfl (⟨rfl, rfl, rfl, Nat.le_refl _, fun _ _ => rfl⟩) ?hst6 ?hk6 ?hwalk6
  case hst6 =>
    simp only [ag.Stab, ag.Row2, ag.Ok2, and_true]
    repeat' apply And.intro
    all_goals first
      | exact fun h => absurd rfl h
      | exact fun _ _ f v W W' hS hv _ ht => hv
      | trivial
  case hk6 =>
    simp only [ag.Keeps, and_true]
    exact ⟨fun f W1 W2 hS _ ht => hS.trans (ht.mono hS.size), fun f W1 W2 hS _ ht => hS.trans (ht.mono hS.size), fun f W1 W2 hS _ ht => hS.trans (ht.mono hS.size), fun f W1 W2 hS _ ht => hS.trans (ht.mono hS.size), fun f W1 W2 hS _ ht => hS.trans (ht.mono hS.size)⟩
  case hwalk6 =>
    refine ag.walk_val (by rfl) (fun W1 hS hE => ?_) ?_
    rotate_left; simp only [Act.put, List.setIfInBounds_toArray, List.set_cons_zero, List.set_cons_succ]; rotate_left
    · obtain ⟨q0, q1, q2⟩ := (F7.out.later hS).tri
      clear hS hE
      unfold ag.does
      go_simp
      try exact ⟨rfl, rfl⟩
    refine ag.walk_sat (by rfl) (fun W1 hS hE => ?_) (fun y1 => ?_)
    rotate_left; simp only [Act.put, List.setIfInBounds_toArray, List.set_cons_zero, List.set_cons_succ]; rotate_left
    · clear hS hE
      unfold ag.does
      go_simp
      refine (HG.out _).mono ?_
      rintro e W2 ⟨rfl, hb⟩
      exact ⟨_, rfl, rfl, hb, ag.News.none (fun _ _ => trivial) _ _⟩
    refine ag.walk_val (by rfl) (fun W1 hS hE => ?_) ?_
    rotate_left; simp only [Act.put, List.setIfInBounds_toArray, List.set_cons_zero, List.set_cons_succ]; rotate_left
    · obtain ⟨q0, q1, q2⟩ := (F8.out.later hS).tri
      clear hS hE
      unfold ag.does
      go_simp
      try exact ⟨rfl, rfl⟩
    refine ag.walk_sat (by rfl) (fun W1 hS hE => ?_) (fun y2 => ?_)
    rotate_left; simp only [Act.put, List.setIfInBounds_toArray, List.set_cons_zero, List.set_cons_succ]; rotate_left
    · clear hS hE
      unfold ag.does
      go_simp
      refine (HRG.out _).mono ?_
      rintro e W2 ⟨rfl, hb⟩
      exact ⟨_, rfl, rfl, hb, ag.News.none (fun _ _ => trivial) _ _⟩
    refine ag.walk_val (by rfl) (fun W1 hS hE => ?_) ?_
    rotate_left; simp only [Act.put, List.setIfInBounds_toArray, List.set_cons_zero, List.set_cons_succ]; rotate_left
    · have hy2 : y2 = .bool true := hE.get (by kernel_rfl)
      subst hy2
      have hy1 : y1 = .bool true := hE.tail.get (by kernel_rfl)
      subst hy1
      clear hS hE
      unfold ag.does
      go_simp
      try exact ⟨rfl, rfl⟩
    refine ag.walk_val (by rfl) (fun W1 hS hE => ?_) ?_
    rotate_left; simp only [Act.put, List.setIfInBounds_toArray, List.set_cons_zero, List.set_cons_succ]; rotate_left
    · clear hS hE
      unfold ag.does
      go_simp
      try exact ⟨rfl, rfl⟩
    refine ag.walk_val (by rfl) (fun W1 hS hE => ?_) ?_
    rotate_left; simp only [Act.put, List.setIfInBounds_toArray, List.set_cons_zero, List.set_cons_succ]; rotate_left
    · obtain ⟨q0, q1, q2⟩ := (F7.out.later hS).tri
      clear hS hE
      unfold ag.does
      go_simp
      try exact ⟨rfl, rfl⟩
    refine ag.walk_sat (by rfl) (fun W1 hS hE => ?_) (fun y3 => ?_)
    rotate_left; simp only [Act.put, List.setIfInBounds_toArray, List.set_cons_zero, List.set_cons_succ]; rotate_left
    · have HMX1 := Lib.hid (cell_later hS HMX.out)
      have HPX1 := Lib.hid (pow10_later HPX.out hS)
      clear hS hE
      unfold ag.does
      go_simp
      refine (HSH.out _ HMX1.out HPX1.out).mono ?_
      rintro e W2 ⟨rfl, hb⟩
      exact ⟨_, rfl, rfl, hb, ag.News.none (fun _ _ => trivial) _ _⟩
    refine ag.walk_val (by rfl) (fun W1 hS hE => ?_) ?_
    rotate_left; simp only [Act.put, List.setIfInBounds_toArray, List.set_cons_zero, List.set_cons_succ]; rotate_left
    · obtain ⟨q0, q1, q2⟩ := (F8.out.later hS).tri
      clear hS hE
      unfold ag.does
      go_simp
      try exact ⟨rfl, rfl⟩
    refine ag.walk_sat (by rfl) (fun W1 hS hE => ?_) (fun y4 => ?_)
    rotate_left; simp only [Act.put, List.setIfInBounds_toArray, List.set_cons_zero, List.set_cons_succ]; rotate_left
    · clear hS hE
      unfold ag.does
      go_simp
      refine (HRS.out _).mono ?_
      rintro e W2 ⟨rfl, hb⟩
      exact ⟨_, rfl, rfl, hb, ag.News.none (fun _ _ => trivial) _ _⟩
    refine ag.walk_val (by rfl) (fun W1 hS hE => ?_) ?_
    rotate_left; simp only [Act.put, List.setIfInBounds_toArray, List.set_cons_zero, List.set_cons_succ]; rotate_left
    · have hy4 : y4 = .string R := hE.get (by kernel_rfl)
      subst hy4
      have hy3 : y3 = .string R := hE.tail.get (by kernel_rfl)
      subst hy3
      clear hS hE
      unfold ag.does
      go_simp
      try exact ⟨rfl, rfl⟩
    refine ag.walk_val (by rfl) (fun W1 hS hE => ?_) ?_
    rotate_left; simp only [Act.put, List.setIfInBounds_toArray, List.set_cons_zero, List.set_cons_succ]; rotate_left
    · clear hS hE
      unfold ag.does
      go_simp
      try exact ⟨rfl, rfl⟩
    refine ag.walk_val (by rfl) (fun W1 hS hE => ?_) ?_
    rotate_left; simp only [Act.put, List.setIfInBounds_toArray, List.set_cons_zero, List.set_cons_succ]; rotate_left
    · clear hS hE
      unfold ag.does
      go_simp
      try exact ⟨rfl, rfl⟩
    refine ag.walk_val (by rfl) (fun W1 hS hE => ?_) ?_
    rotate_left; simp only [Act.put, List.setIfInBounds_toArray, List.set_cons_zero, List.set_cons_succ]; rotate_left
    · obtain ⟨q0, q1, q2⟩ := (F7.out.later hS).tri
      clear hS hE
      unfold ag.does
      go_simp
      try exact ⟨rfl, rfl⟩
    refine ag.walk_sat (by rfl) (fun W1 hS hE => ?_) (fun y5 => ?_)
    rotate_left; simp only [Act.put, List.setIfInBounds_toArray, List.set_cons_zero, List.set_cons_succ]; rotate_left
    · clear hS hE
      unfold ag.does
      go_simp
      refine (HT.out _).mono ?_
      rintro e W2 ⟨rfl, hb⟩
      exact ⟨_, rfl, rfl, hb, ag.News.none (fun _ _ => trivial) _ _⟩
    refine ag.walk_val (by rfl) (fun W1 hS hE => ?_) ?_
    rotate_left; simp only [Act.put, List.setIfInBounds_toArray, List.set_cons_zero, List.set_cons_succ]; rotate_left
    · clear hS hE
      unfold ag.does
      go_simp
      try exact ⟨rfl, rfl⟩
    refine ag.walk_val (by rfl) (fun W1 hS hE => ?_) ?_
    rotate_left; simp only [Act.put, List.setIfInBounds_toArray, List.set_cons_zero, List.set_cons_succ]; rotate_left
    · clear hS hE
      unfold ag.does
      go_simp
      try exact ⟨rfl, rfl⟩
    refine ag.walk_val (by rfl) (fun W1 hS hE => ?_) ?_
    rotate_left; simp only [Act.put, List.setIfInBounds_toArray, List.set_cons_zero, List.set_cons_succ]; rotate_left
    · clear hS hE
      unfold ag.does
      go_simp
      try exact ⟨rfl, rfl⟩
    refine ag.walk_val (by rfl) (fun W1 hS hE => ?_) ?_
    rotate_left; simp only [Act.put, List.setIfInBounds_toArray, List.set_cons_zero, List.set_cons_succ]; rotate_left
    · clear hS hE
      unfold ag.does
      go_simp
      try exact ⟨rfl, rfl⟩
    refine ag.walk_val (by rfl) (fun W1 hS hE => ?_) ?_
    rotate_left; simp only [Act.put, List.setIfInBounds_toArray, List.set_cons_zero, List.set_cons_succ]; rotate_left
    · clear hS hE
      unfold ag.does
      go_simp
      try exact ⟨rfl, rfl⟩
    refine ag.walk_val (by rfl) (fun W1 hS hE => ?_) ?_
    rotate_left; simp only [Act.put, List.setIfInBounds_toArray, List.set_cons_zero, List.set_cons_succ]; rotate_left
    · clear hS hE
      unfold ag.does
      go_simp
      try exact ⟨rfl, rfl⟩
    refine ag.walk_val (by rfl) (fun W1 hS hE => ?_) ?_
    rotate_left; simp only [Act.put, List.setIfInBounds_toArray, List.set_cons_zero, List.set_cons_succ]; rotate_left
    · clear hS hE
      unfold ag.does
      go_simp
      try exact ⟨rfl, rfl⟩
    refine ag.walk_skip (by rfl) ?_
    simp only [Act.put, List.setIfInBounds_toArray, List.set_cons_zero, List.set_cons_succ]
    refine ag.walk_skip (by rfl) ?_
    simp only [Act.put, List.setIfInBounds_toArray, List.set_cons_zero, List.set_cons_succ]
    refine ag.walk_val (by rfl) (fun W1 hS hE => ?_) ?_
    rotate_left; simp only [Act.put, List.setIfInBounds_toArray, List.set_cons_zero, List.set_cons_succ]; rotate_left
    · clear hS hE
      unfold ag.does
      go_simp
      try exact ⟨rfl, rfl⟩
    refine ag.walk_val (by rfl) (fun W1 hS hE => ?_) ?_
    rotate_left; simp only [Act.put, List.setIfInBounds_toArray, List.set_cons_zero, List.set_cons_succ]; rotate_left
    · have hy5 : y5 = .bool false := hE.get (by kernel_rfl)
      subst hy5
      clear hS hE
      unfold ag.does
      go_simp
      try exact ⟨rfl, rfl⟩
    refine ag.walk_val (by rfl) (fun W1 hS hE => ?_) ?_
    rotate_left; simp only [Act.put, List.setIfInBounds_toArray, List.set_cons_zero, List.set_cons_succ]; rotate_left
    · clear hS hE
      unfold ag.does
      go_simp
      try exact ⟨rfl, rfl⟩
    refine ag.walk_nil (fun w7 hS hF' hP => ?_)
    clear hF' hP
    have HS := Lib.hid hS
    clear hS
    have hv1 : veq6 3 0 nob 3 0 nob = true := veq_same 3 0 nob
    have hv2 : veq6 2 0 ByteArray.empty 2 0 ⟨#[]⟩ = true := veq_same 2 0 ⟨#[]⟩
    obtain ⟨Z, hZ⟩ : ∃ Z, Z = w7 := ⟨_, rfl⟩
    subst hZ
    go_upto_region 10 with (first | (go_at_call 21; ((with_reducible refine (ofText_any _ _).mono ?_); rintro e wq ⟨rfl, hbq⟩; have hBq : Below Z.heap.size Z wq := after (by first | assumption | exact Below.refl _ _) hbq; clear hbq)) | (go_at_call 22; ((with_reducible refine (ofInt_any _ _).mono ?_); rintro e wq ⟨rfl, hbq⟩; have hBq : Below Z.heap.size Z wq := after (by first | assumption | exact Below.refl _ _) hbq; clear hbq)) | (go_at_call 23; ((with_reducible refine (ofBool_any _ _).mono ?_); rintro e wq ⟨rfl, hbq⟩; have hBq : Below Z.heap.size Z wq := after (by first | assumption | exact Below.refl _ _) hbq; clear hbq)) | (go_at_call 20; ((with_reducible refine (true_ofB _ _).mono ?_); rintro e wq ⟨rfl, hbq⟩; have hBq : Below Z.heap.size Z wq := after (by first | assumption | exact Below.refl _ _) hbq; clear hbq)))
    have hq := HS.out.trans (hBq.mono HS.out.size)
    obtain ⟨q0, q1, q2⟩ := (F8.out.later hq).tri
    have HQ := Lib.hid hq
    clear hq hBq hv1 hv2
    go_wp2_with fail
    (with_reducible refine (HRG.out _).mono ?_); rintro e wr ⟨rfl, hbr⟩
    have hr := HQ.out.trans (hbr.mono HQ.out.size)
    clear q0 q1 q2 hbr
    obtain ⟨q0, q1, q2⟩ := (F7.out.later hr).tri
    have HR1 := Lib.hid hr
    clear hr
    go_wp2_with fail
    (with_reducible refine (HNOT.out _).mono ?_); rintro e ws ⟨rfl, hbs⟩
    have hs1 := HR1.out.trans (hbs.mono HR1.out.size)
    have F7a := Lib.hid ((F7.out.later hs1).alloc (.cells #[.int .i64 1, .int .i64 1, .string nob] TV))
    have F9a := Lib.hid (Flds.new ws TV [.int .i64 1, .int .i64 1, .string nob])
    have HBa := Lib.hid (hs1.alloc hs1.size (.cells #[.int .i64 1, .int .i64 1, .string nob] TV))
    clear q0 q1 q2 hbs hs1
    go_upto_region 13 with fail
    generalize ws.alloc (.cells #[.int .i64 1, .int .i64 1, .string nob] TV) = A1 at *
    generalize ws.heap.size = g9 at *
    obtain ⟨q0, q1, q2⟩ := F7a.out.tri
    go_wp2_with fail
    (with_reducible refine (HNEG.out _).mono ?_); rintro e wt ⟨rfl, hbt⟩
    have F7b := Lib.hid ((F7a.out.later hbt).alloc (.cells #[.int .i64 0, .int .i64 0, .string nob] TV))
    have F9b := Lib.hid ((F9a.out.later hbt).alloc (.cells #[.int .i64 0, .int .i64 0, .string nob] TV))
    have F11 := Lib.hid (Flds.new wt TV [.int .i64 0, .int .i64 0, .string nob])
    have ht1 := HBa.out.trans (hbt.mono HBa.out.size)
    have HBb := Lib.hid (ht1.alloc ht1.size (.cells #[.int .i64 0, .int .i64 0, .string nob] TV))
    clear q0 q1 q2 hbt ht1
    go_upto_region 14 with fail
    generalize wt.alloc (.cells #[.int .i64 0, .int .i64 0, .string nob] TV) = A2 at *
    generalize wt.heap.size = g11 at *
    have HVV := Lib.hid (veq_same 1 1 nob)
    go_wp2_with fail
    refine ag.region_ag (fun W1 => Below A2.heap.size A2 W1) (fun _ _ _ _ => True)
      [.val (.int .i64 0), .val (.bool true), .val (.bool true), .val (.int .i64 5), .val (.bool true), .val (.bool true), .val (.bool true), .val (.agg #[.int .i64 1, .int .i64 1, .string nob]), .val (.int .i64 0), .val (.bool true), .sat (fun v _ => v = ag3 1 1 nob) (fun _ w w' => Below w.heap.size w w'), .val (.bool true), .val (.bool true), .val (.bool true)]
      (by kernel_rfl) (by kernel_rfl) rfl (⟨rfl, rfl, rfl, Nat.le_refl _, fun _ _ => rfl⟩) ?hst9 ?hk9 ?hwalk9
    case hst9 =>
      simp only [ag.Stab, ag.Row2, ag.Ok2, and_true]
      repeat' apply And.intro
      all_goals first
        | exact fun h => absurd rfl h
        | exact fun _ _ f v W W' hS hv _ ht => hv
        | trivial
    case hk9 =>
      simp only [ag.Keeps, and_true]
      exact fun f W1 W2 hS _ ht => hS.trans (ht.mono hS.size)
    case hwalk9 =>
      refine ag.walk_val (by rfl) (fun W1 hS hE => ?_) ?_
      rotate_left; simp only [Act.put, List.setIfInBounds_toArray, List.set_cons_zero, List.set_cons_succ]; rotate_left
      · clear hS hE
        unfold ag.does
        go_simp
        try exact ⟨rfl, rfl⟩
      refine ag.walk_val (by rfl) (fun W1 hS hE => ?_) ?_
      rotate_left; simp only [Act.put, List.setIfInBounds_toArray, List.set_cons_zero, List.set_cons_succ]; rotate_left
      · clear hS hE
        unfold ag.does
        go_simp
        try exact ⟨rfl, rfl⟩
      refine ag.walk_val (by rfl) (fun W1 hS hE => ?_) ?_
      rotate_left; simp only [Act.put, List.setIfInBounds_toArray, List.set_cons_zero, List.set_cons_succ]; rotate_left
      · clear hS hE
        unfold ag.does
        go_simp
        try exact ⟨rfl, rfl⟩
      refine ag.walk_val (by rfl) (fun W1 hS hE => ?_) ?_
      rotate_left; simp only [Act.put, List.setIfInBounds_toArray, List.set_cons_zero, List.set_cons_succ]; rotate_left
      · clear hS hE
        unfold ag.does
        go_simp
        try exact ⟨rfl, rfl⟩
      refine ag.walk_val (by rfl) (fun W1 hS hE => ?_) ?_
      rotate_left; simp only [Act.put, List.setIfInBounds_toArray, List.set_cons_zero, List.set_cons_succ]; rotate_left
      · clear hS hE
        unfold ag.does
        go_simp
        try exact ⟨rfl, rfl⟩
      refine ag.walk_val (by rfl) (fun W1 hS hE => ?_) ?_
      rotate_left; simp only [Act.put, List.setIfInBounds_toArray, List.set_cons_zero, List.set_cons_succ]; rotate_left
      · clear hS hE
        unfold ag.does
        go_simp
        try exact ⟨rfl, rfl⟩
      refine ag.walk_val (by rfl) (fun W1 hS hE => ?_) ?_
      rotate_left; simp only [Act.put, List.setIfInBounds_toArray, List.set_cons_zero, List.set_cons_succ]; rotate_left
      · clear hS hE
        unfold ag.does
        go_simp
        try exact ⟨rfl, rfl⟩
      refine ag.walk_val (by rfl) (fun W1 hS hE => ?_) ?_
      rotate_left; simp only [Act.put, List.setIfInBounds_toArray, List.set_cons_zero, List.set_cons_succ]; rotate_left
      · obtain ⟨q0, q1, q2⟩ := (F9b.out.later hS).tri
        clear hS hE
        unfold ag.does
        go_simp
        try exact ⟨rfl, rfl⟩
      refine ag.walk_val (by rfl) (fun W1 hS hE => ?_) ?_
      rotate_left; simp only [Act.put, List.setIfInBounds_toArray, List.set_cons_zero, List.set_cons_succ]; rotate_left
      · clear hS hE
        unfold ag.does
        go_simp
        try exact ⟨rfl, rfl⟩
      refine ag.walk_val (by rfl) (fun W1 hS hE => ?_) ?_
      rotate_left; simp only [Act.put, List.setIfInBounds_toArray, List.set_cons_zero, List.set_cons_succ]; rotate_left
      · clear hS hE
        unfold ag.does
        go_simp
        try exact ⟨rfl, rfl⟩
      refine ag.walk_sat (by rfl) (fun W1 hS hE => ?_) (fun y1 => ?_)
      rotate_left; simp only [Act.put, List.setIfInBounds_toArray, List.set_cons_zero, List.set_cons_succ]; rotate_left
      · clear hS hE
        unfold ag.does
        go_simp
        refine (HOB.out _).mono ?_
        rintro e W2 ⟨rfl, hb⟩
        exact ⟨_, rfl, rfl, hb, ag.News.none (fun _ _ => trivial) _ _⟩
      refine ag.walk_val (by rfl) (fun W1 hS hE => ?_) ?_
      rotate_left; simp only [Act.put, List.setIfInBounds_toArray, List.set_cons_zero, List.set_cons_succ]; rotate_left
      · have hy1 : y1 = ag3 1 1 nob := hE.get (by kernel_rfl)
        subst hy1
        clear hS hE
        unfold ag.does
        go_simp
        first | exact HVV.out | exact congrArg Value.bool HVV.out | exact ⟨congrArg Value.bool HVV.out, rfl⟩
      refine ag.walk_val (by rfl) (fun W1 hS hE => ?_) ?_
      rotate_left; simp only [Act.put, List.setIfInBounds_toArray, List.set_cons_zero, List.set_cons_succ]; rotate_left
      · clear hS hE
        unfold ag.does
        go_simp
        try exact ⟨rfl, rfl⟩
      refine ag.walk_val (by rfl) (fun W1 hS hE => ?_) ?_
      rotate_left; simp only [Act.put, List.setIfInBounds_toArray, List.set_cons_zero, List.set_cons_succ]; rotate_left
      · clear hS hE
        unfold ag.does
        go_simp
        try exact ⟨rfl, rfl⟩
      refine ag.walk_nil (fun w7 hS hF' hP => ?_)
      clear hF' hP
      have HS := Lib.hid hS
      clear hS
      go_wp2
      go_ret
      exact ⟨rfl, after (after HBW.out HBb.out) HS.out⟩
    
set_option maxRecDepth 100000 in
set_option maxHeartbeats 4000000 in
theorem ones_c11 (s S : ByteArray) (hS : s.extract 0 (min (s.size : Int) 70).toNat = S) (hSn : S = nob) (hs : s.size ≤ maxLen)
    (m : Int) (W : World) (hm : W.cell? ⟨gMax, 0, none⟩ = some (.int .i64 m)) (hp : Pow10 W) :
    Calls Tryd.prog 5 #[.int .i64 1, .int .i64 1, .string s] W fun e w' => e = .returned (.bool true) ∧ Below W.heap.size W w' := by
  have HOB := Lib.hid (ofF_lit)
  have HNOT : Hid (∀ W, Calls Tryd.prog 24 #[ag3 1 1 S] W fun e w' => e = .returned (.tuple #[ag3 1 0 nob, .int .i64 0]) ∧ Below W.heap.size W w') := Lib.hid (fun W => by have h := not_any 1 1 S W; rw [show notV ⟨1, 1, S⟩ = (ofB false, 0) by rw [hSn]; unfold notV; rw [if_neg (by decide), if_pos rfl, show veq (⟨1, 1, nob⟩ : V) (ofB true) = true from veq_self (ofB true)]; rfl] at h; exact h)
  have HNEG : Hid (∀ W, Calls Tryd.prog 25 #[ag3 1 1 S] W fun e w' => e = .returned (.tuple #[ag3 0 0 nob, .int .i64 5]) ∧ Below W.heap.size W w') := Lib.hid (fun W => by have h := neg_any 1 1 S (by decide) W; rw [show negV ⟨1, 1, S⟩ = (null, 5) from rfl] at h; exact h)
  have HM := Lib.hid hm
  have HP := Lib.hid hp
  have HS := Lib.hid hS
  have hsz : S.size ≤ 70 := by rw [← hS, ByteArray.size_extract]; omega
  have HG := Lib.hid (fun W => good_any 1 1 S W)
  have HRG := Lib.hid (fun W => rgood_any 1 1 S W)
  have HSH := Lib.hid (fun W h1 h2 => show_any 1 1 S (by decide) m W h1 h2)
  have HRS := Lib.hid (fun W => rshow_any 1 1 S (by decide) W)
  have HT := Lib.hid (fun W => true_any 1 1 S W)
  have hgb : gB 1 1 S = true := by unfold gB; rw [hSn, ← emp_eq]; simp
  have htb : veq6 1 1 S (ofB true).k (ofB true).n (ofB true).s = true := by rw [hSn]; exact veq_self (ofB true)
  rw [hgb] at HG HRG
  rw [htb] at HT
  obtain ⟨R, hR⟩ : ∃ R, showV 1 1 S = R := ⟨_, rfl⟩
  rw [hR] at HSH HRS
  clear hm hp hS hgb htb hR
  subst hSn
  go_enter Tryd.func5, Tryd.ntmps5
  go_wp2_with (go_at_call 10; ((with_reducible refine (speaks m _ HM.out).mono ?_); rintro e w1 ⟨rfl, hw1⟩))
  have hm1 := cell_later hw1 HM.out
  have hp1 := pow10_later HP.out hw1
  have HB1 := Lib.hid hw1
  have HM1 := Lib.hid hm1; have HP1 := Lib.hid hp1
  clear hw1 hm1 hp1
  rw [HS.out]
  have F7 := Lib.hid ((Flds.new w1 TV [.int .i64 1, .int .i64 1, .string nob]).alloc (.cells #[.int .i64 1, .int .i64 1, .string nob] TR))
  have F8 : Hid (Flds ((w1.alloc (.cells #[.int .i64 1, .int .i64 1, .string nob] TV)).alloc (.cells #[.int .i64 1, .int .i64 1, .string nob] TR)) (w1.heap.size + 1) TR [.int .i64 1, .int .i64 1, .string nob]) := Lib.hid (by
    have := Flds.new (w1.alloc (.cells #[.int .i64 1, .int .i64 1, .string nob] TV)) TR [.int .i64 1, .int .i64 1, .string nob]
    rw [World.size_alloc] at this
    exact this)
  have HBX := Lib.hid (below_alloc2 w1 (.cells #[.int .i64 1, .int .i64 1, .string nob] TV) (.cells #[.int .i64 1, .int .i64 1, .string nob] TR))
  have HMX := Lib.hid (cell_later HBX.out HM1.out)
  have HPX := Lib.hid (pow10_later HP1.out HBX.out)
  have HBW := Lib.hid (after HB1.out HBX.out)
  clear HBX HM1 HP1
  generalize (w1.alloc (.cells #[.int .i64 1, .int .i64 1, .string nob] TV)).alloc (.cells #[.int .i64 1, .int .i64 1, .string nob] TR) = X at *
  generalize w1.heap.size + 1 = g8 at *
  generalize w1.heap.size = g7 at *
  go_wp2_with fail
  refine ag.region_ag (fun W1 => Below X.heap.size X W1) (fun _ _ _ _ => True)
    [.val (.agg #[.int .i64 1, .int .i64 1, .string nob]), .sat (fun v _ => v = .bool true) (fun _ w w' => Below w.heap.size w w'), .val (.agg #[.int .i64 1, .int .i64 1, .string nob]), .sat (fun v _ => v = .bool true) (fun _ w w' => Below w.heap.size w w'), .val (.bool false), .val (.bool false), .val (.agg #[.int .i64 1, .int .i64 1, .string nob]), .sat (fun v _ => v = .string R) (fun _ w w' => Below w.heap.size w w'), .val (.agg #[.int .i64 1, .int .i64 1, .string nob]), .sat (fun v _ => v = .string R) (fun _ w w' => Below w.heap.size w w'), .val (.bool false), .val (.bool false), .val (.bool false), .val (.agg #[.int .i64 1, .int .i64 1, .string nob]), .sat (fun v _ => v = .bool true) (fun _ w w' => Below w.heap.size w w'), .val (.int .i64 1), .val (.bool true), .val (.bool true), .val (.int .i64 1), .val (.bool true), .val (.bool true), .val (.bool true), .val (.string nob), .val (.bool true), .val (.bool true), .val (.bool false), .val (.bool false)]
    (by kernel_rfl) (by kernel_rfl) rfl (⟨rfl, rfl, rfl, Nat.le_refl _, fun _ _ => rfl⟩) ?hst6 ?hk6 ?hwalk6
  case hst6 =>
    simp only [ag.Stab, ag.Row2, ag.Ok2, and_true]
    repeat' apply And.intro
    all_goals first
      | exact fun h => absurd rfl h
      | exact fun _ _ f v W W' hS hv _ ht => hv
      | trivial
  case hk6 =>
    simp only [ag.Keeps, and_true]
    exact ⟨fun f W1 W2 hS _ ht => hS.trans (ht.mono hS.size), fun f W1 W2 hS _ ht => hS.trans (ht.mono hS.size), fun f W1 W2 hS _ ht => hS.trans (ht.mono hS.size), fun f W1 W2 hS _ ht => hS.trans (ht.mono hS.size), fun f W1 W2 hS _ ht => hS.trans (ht.mono hS.size)⟩
  case hwalk6 =>
    refine ag.walk_val (by rfl) (fun W1 hS hE => ?_) ?_
    rotate_left; simp only [Act.put, List.setIfInBounds_toArray, List.set_cons_zero, List.set_cons_succ]; rotate_left
    · obtain ⟨q0, q1, q2⟩ := (F7.out.later hS).tri
      clear hS hE
      unfold ag.does
      go_simp
      try exact ⟨rfl, rfl⟩
    refine ag.walk_sat (by rfl) (fun W1 hS hE => ?_) (fun y1 => ?_)
    rotate_left; simp only [Act.put, List.setIfInBounds_toArray, List.set_cons_zero, List.set_cons_succ]; rotate_left
    · clear hS hE
      unfold ag.does
      go_simp
      refine (HG.out _).mono ?_
      rintro e W2 ⟨rfl, hb⟩
      exact ⟨_, rfl, rfl, hb, ag.News.none (fun _ _ => trivial) _ _⟩
    refine ag.walk_val (by rfl) (fun W1 hS hE => ?_) ?_
    rotate_left; simp only [Act.put, List.setIfInBounds_toArray, List.set_cons_zero, List.set_cons_succ]; rotate_left
    · obtain ⟨q0, q1, q2⟩ := (F8.out.later hS).tri
      clear hS hE
      unfold ag.does
      go_simp
      try exact ⟨rfl, rfl⟩
    refine ag.walk_sat (by rfl) (fun W1 hS hE => ?_) (fun y2 => ?_)
    rotate_left; simp only [Act.put, List.setIfInBounds_toArray, List.set_cons_zero, List.set_cons_succ]; rotate_left
    · clear hS hE
      unfold ag.does
      go_simp
      refine (HRG.out _).mono ?_
      rintro e W2 ⟨rfl, hb⟩
      exact ⟨_, rfl, rfl, hb, ag.News.none (fun _ _ => trivial) _ _⟩
    refine ag.walk_val (by rfl) (fun W1 hS hE => ?_) ?_
    rotate_left; simp only [Act.put, List.setIfInBounds_toArray, List.set_cons_zero, List.set_cons_succ]; rotate_left
    · have hy2 : y2 = .bool true := hE.get (by kernel_rfl)
      subst hy2
      have hy1 : y1 = .bool true := hE.tail.get (by kernel_rfl)
      subst hy1
      clear hS hE
      unfold ag.does
      go_simp
      try exact ⟨rfl, rfl⟩
    refine ag.walk_val (by rfl) (fun W1 hS hE => ?_) ?_
    rotate_left; simp only [Act.put, List.setIfInBounds_toArray, List.set_cons_zero, List.set_cons_succ]; rotate_left
    · clear hS hE
      unfold ag.does
      go_simp
      try exact ⟨rfl, rfl⟩
    refine ag.walk_val (by rfl) (fun W1 hS hE => ?_) ?_
    rotate_left; simp only [Act.put, List.setIfInBounds_toArray, List.set_cons_zero, List.set_cons_succ]; rotate_left
    · obtain ⟨q0, q1, q2⟩ := (F7.out.later hS).tri
      clear hS hE
      unfold ag.does
      go_simp
      try exact ⟨rfl, rfl⟩
    refine ag.walk_sat (by rfl) (fun W1 hS hE => ?_) (fun y3 => ?_)
    rotate_left; simp only [Act.put, List.setIfInBounds_toArray, List.set_cons_zero, List.set_cons_succ]; rotate_left
    · have HMX1 := Lib.hid (cell_later hS HMX.out)
      have HPX1 := Lib.hid (pow10_later HPX.out hS)
      clear hS hE
      unfold ag.does
      go_simp
      refine (HSH.out _ HMX1.out HPX1.out).mono ?_
      rintro e W2 ⟨rfl, hb⟩
      exact ⟨_, rfl, rfl, hb, ag.News.none (fun _ _ => trivial) _ _⟩
    refine ag.walk_val (by rfl) (fun W1 hS hE => ?_) ?_
    rotate_left; simp only [Act.put, List.setIfInBounds_toArray, List.set_cons_zero, List.set_cons_succ]; rotate_left
    · obtain ⟨q0, q1, q2⟩ := (F8.out.later hS).tri
      clear hS hE
      unfold ag.does
      go_simp
      try exact ⟨rfl, rfl⟩
    refine ag.walk_sat (by rfl) (fun W1 hS hE => ?_) (fun y4 => ?_)
    rotate_left; simp only [Act.put, List.setIfInBounds_toArray, List.set_cons_zero, List.set_cons_succ]; rotate_left
    · clear hS hE
      unfold ag.does
      go_simp
      refine (HRS.out _).mono ?_
      rintro e W2 ⟨rfl, hb⟩
      exact ⟨_, rfl, rfl, hb, ag.News.none (fun _ _ => trivial) _ _⟩
    refine ag.walk_val (by rfl) (fun W1 hS hE => ?_) ?_
    rotate_left; simp only [Act.put, List.setIfInBounds_toArray, List.set_cons_zero, List.set_cons_succ]; rotate_left
    · have hy4 : y4 = .string R := hE.get (by kernel_rfl)
      subst hy4
      have hy3 : y3 = .string R := hE.tail.get (by kernel_rfl)
      subst hy3
      clear hS hE
      unfold ag.does
      go_simp
      try exact ⟨rfl, rfl⟩
    refine ag.walk_val (by rfl) (fun W1 hS hE => ?_) ?_
    rotate_left; simp only [Act.put, List.setIfInBounds_toArray, List.set_cons_zero, List.set_cons_succ]; rotate_left
    · clear hS hE
      unfold ag.does
      go_simp
      try exact ⟨rfl, rfl⟩
    refine ag.walk_val (by rfl) (fun W1 hS hE => ?_) ?_
    rotate_left; simp only [Act.put, List.setIfInBounds_toArray, List.set_cons_zero, List.set_cons_succ]; rotate_left
    · clear hS hE
      unfold ag.does
      go_simp
      try exact ⟨rfl, rfl⟩
    refine ag.walk_val (by rfl) (fun W1 hS hE => ?_) ?_
    rotate_left; simp only [Act.put, List.setIfInBounds_toArray, List.set_cons_zero, List.set_cons_succ]; rotate_left
    · obtain ⟨q0, q1, q2⟩ := (F7.out.later hS).tri
      clear hS hE
      unfold ag.does
      go_simp
      try exact ⟨rfl, rfl⟩
    refine ag.walk_sat (by rfl) (fun W1 hS hE => ?_) (fun y5 => ?_)
    rotate_left; simp only [Act.put, List.setIfInBounds_toArray, List.set_cons_zero, List.set_cons_succ]; rotate_left
    · clear hS hE
      unfold ag.does
      go_simp
      refine (HT.out _).mono ?_
      rintro e W2 ⟨rfl, hb⟩
      exact ⟨_, rfl, rfl, hb, ag.News.none (fun _ _ => trivial) _ _⟩
    refine ag.walk_val (by rfl) (fun W1 hS hE => ?_) ?_
    rotate_left; simp only [Act.put, List.setIfInBounds_toArray, List.set_cons_zero, List.set_cons_succ]; rotate_left
    · clear hS hE
      unfold ag.does
      go_simp
      try exact ⟨rfl, rfl⟩
    refine ag.walk_val (by rfl) (fun W1 hS hE => ?_) ?_
    rotate_left; simp only [Act.put, List.setIfInBounds_toArray, List.set_cons_zero, List.set_cons_succ]; rotate_left
    · clear hS hE
      unfold ag.does
      go_simp
      try exact ⟨rfl, rfl⟩
    refine ag.walk_val (by rfl) (fun W1 hS hE => ?_) ?_
    rotate_left; simp only [Act.put, List.setIfInBounds_toArray, List.set_cons_zero, List.set_cons_succ]; rotate_left
    · clear hS hE
      unfold ag.does
      go_simp
      try exact ⟨rfl, rfl⟩
    refine ag.walk_val (by rfl) (fun W1 hS hE => ?_) ?_
    rotate_left; simp only [Act.put, List.setIfInBounds_toArray, List.set_cons_zero, List.set_cons_succ]; rotate_left
    · clear hS hE
      unfold ag.does
      go_simp
      try exact ⟨rfl, rfl⟩
    refine ag.walk_val (by rfl) (fun W1 hS hE => ?_) ?_
    rotate_left; simp only [Act.put, List.setIfInBounds_toArray, List.set_cons_zero, List.set_cons_succ]; rotate_left
    · clear hS hE
      unfold ag.does
      go_simp
      try exact ⟨rfl, rfl⟩
    refine ag.walk_val (by rfl) (fun W1 hS hE => ?_) ?_
    rotate_left; simp only [Act.put, List.setIfInBounds_toArray, List.set_cons_zero, List.set_cons_succ]; rotate_left
    · clear hS hE
      unfold ag.does
      go_simp
      try exact ⟨rfl, rfl⟩
    refine ag.walk_val (by rfl) (fun W1 hS hE => ?_) ?_
    rotate_left; simp only [Act.put, List.setIfInBounds_toArray, List.set_cons_zero, List.set_cons_succ]; rotate_left
    · clear hS hE
      unfold ag.does
      go_simp
      try exact ⟨rfl, rfl⟩
    refine ag.walk_val (by rfl) (fun W1 hS hE => ?_) ?_
    rotate_left; simp only [Act.put, List.setIfInBounds_toArray, List.set_cons_zero, List.set_cons_succ]; rotate_left
    · clear hS hE
      unfold ag.does
      go_simp
      try exact ⟨rfl, rfl⟩
    refine ag.walk_val (by rfl) (fun W1 hS hE => ?_) ?_
    rotate_left; simp only [Act.put, List.setIfInBounds_toArray, List.set_cons_zero, List.set_cons_succ]; rotate_left
    · clear hS hE
      unfold ag.does
      go_simp
      try exact ⟨rfl, rfl⟩
    refine ag.walk_val (by rfl) (fun W1 hS hE => ?_) ?_
    rotate_left; simp only [Act.put, List.setIfInBounds_toArray, List.set_cons_zero, List.set_cons_succ]; rotate_left
    · clear hS hE
      unfold ag.does
      go_simp
      try exact ⟨rfl, rfl⟩
    refine ag.walk_val (by rfl) (fun W1 hS hE => ?_) ?_
    rotate_left; simp only [Act.put, List.setIfInBounds_toArray, List.set_cons_zero, List.set_cons_succ]; rotate_left
    · have hy5 : y5 = .bool true := hE.get (by kernel_rfl)
      subst hy5
      clear hS hE
      unfold ag.does
      go_simp
      try exact ⟨rfl, rfl⟩
    refine ag.walk_val (by rfl) (fun W1 hS hE => ?_) ?_
    rotate_left; simp only [Act.put, List.setIfInBounds_toArray, List.set_cons_zero, List.set_cons_succ]; rotate_left
    · clear hS hE
      unfold ag.does
      go_simp
      try exact ⟨rfl, rfl⟩
    refine ag.walk_nil (fun w7 hS hF' hP => ?_)
    clear hF' hP
    have HS := Lib.hid hS
    clear hS
    have hv1 : veq6 3 0 nob 3 0 nob = true := veq_same 3 0 nob
    have hv2 : veq6 2 1 ByteArray.empty 2 1 ⟨#[]⟩ = true := veq_same 2 1 ⟨#[]⟩
    obtain ⟨Z, hZ⟩ : ∃ Z, Z = w7 := ⟨_, rfl⟩
    subst hZ
    go_upto_region 10 with (first | (go_at_call 21; ((with_reducible refine (ofText_any _ _).mono ?_); rintro e wq ⟨rfl, hbq⟩; have hBq : Below Z.heap.size Z wq := after (by first | assumption | exact Below.refl _ _) hbq; clear hbq)) | (go_at_call 22; ((with_reducible refine (ofInt_any _ _).mono ?_); rintro e wq ⟨rfl, hbq⟩; have hBq : Below Z.heap.size Z wq := after (by first | assumption | exact Below.refl _ _) hbq; clear hbq)) | (go_at_call 23; ((with_reducible refine (ofBool_any _ _).mono ?_); rintro e wq ⟨rfl, hbq⟩; have hBq : Below Z.heap.size Z wq := after (by first | assumption | exact Below.refl _ _) hbq; clear hbq)) | (go_at_call 20; ((with_reducible refine (true_ofB _ _).mono ?_); rintro e wq ⟨rfl, hbq⟩; have hBq : Below Z.heap.size Z wq := after (by first | assumption | exact Below.refl _ _) hbq; clear hbq)))
    have hq := HS.out.trans (hBq.mono HS.out.size)
    obtain ⟨q0, q1, q2⟩ := (F8.out.later hq).tri
    have HQ := Lib.hid hq
    clear hq hBq hv1 hv2
    go_wp2_with fail
    (with_reducible refine (HRG.out _).mono ?_); rintro e wr ⟨rfl, hbr⟩
    have hr := HQ.out.trans (hbr.mono HQ.out.size)
    clear q0 q1 q2 hbr
    obtain ⟨q0, q1, q2⟩ := (F7.out.later hr).tri
    have HR1 := Lib.hid hr
    clear hr
    go_wp2_with fail
    (with_reducible refine (HNOT.out _).mono ?_); rintro e ws ⟨rfl, hbs⟩
    have hs1 := HR1.out.trans (hbs.mono HR1.out.size)
    have F7a := Lib.hid ((F7.out.later hs1).alloc (.cells #[.int .i64 1, .int .i64 0, .string nob] TV))
    have F9a := Lib.hid (Flds.new ws TV [.int .i64 1, .int .i64 0, .string nob])
    have HBa := Lib.hid (hs1.alloc hs1.size (.cells #[.int .i64 1, .int .i64 0, .string nob] TV))
    clear q0 q1 q2 hbs hs1
    go_upto_region 13 with fail
    generalize ws.alloc (.cells #[.int .i64 1, .int .i64 0, .string nob] TV) = A1 at *
    generalize ws.heap.size = g9 at *
    obtain ⟨q0, q1, q2⟩ := F7a.out.tri
    go_wp2_with fail
    (with_reducible refine (HNEG.out _).mono ?_); rintro e wt ⟨rfl, hbt⟩
    have F7b := Lib.hid ((F7a.out.later hbt).alloc (.cells #[.int .i64 0, .int .i64 0, .string nob] TV))
    have F9b := Lib.hid ((F9a.out.later hbt).alloc (.cells #[.int .i64 0, .int .i64 0, .string nob] TV))
    have F11 := Lib.hid (Flds.new wt TV [.int .i64 0, .int .i64 0, .string nob])
    have ht1 := HBa.out.trans (hbt.mono HBa.out.size)
    have HBb := Lib.hid (ht1.alloc ht1.size (.cells #[.int .i64 0, .int .i64 0, .string nob] TV))
    clear q0 q1 q2 hbt ht1
    go_upto_region 14 with fail
    generalize wt.alloc (.cells #[.int .i64 0, .int .i64 0, .string nob] TV) = A2 at *
    generalize wt.heap.size = g11 at *
    have HVV := Lib.hid (veq_same 1 0 nob)
    go_wp2_with fail
    refine ag.region_ag (fun W1 => Below A2.heap.size A2 W1) (fun _ _ _ _ => True)
      [.val (.int .i64 0), .val (.bool true), .val (.bool true), .val (.int .i64 5), .val (.bool true), .val (.bool true), .val (.bool true), .val (.agg #[.int .i64 1, .int .i64 0, .string nob]), .val (.int .i64 1), .val (.bool false), .sat (fun v _ => v = ag3 1 0 nob) (fun _ w w' => Below w.heap.size w w'), .val (.bool true), .val (.bool true), .val (.bool true)]
      (by kernel_rfl) (by kernel_rfl) rfl (⟨rfl, rfl, rfl, Nat.le_refl _, fun _ _ => rfl⟩) ?hst9 ?hk9 ?hwalk9
    case hst9 =>
      simp only [ag.Stab, ag.Row2, ag.Ok2, and_true]
      repeat' apply And.intro
      all_goals first
        | exact fun h => absurd rfl h
        | exact fun _ _ f v W W' hS hv _ ht => hv
        | trivial
    case hk9 =>
      simp only [ag.Keeps, and_true]
      exact fun f W1 W2 hS _ ht => hS.trans (ht.mono hS.size)
    case hwalk9 =>
      refine ag.walk_val (by rfl) (fun W1 hS hE => ?_) ?_
      rotate_left; simp only [Act.put, List.setIfInBounds_toArray, List.set_cons_zero, List.set_cons_succ]; rotate_left
      · clear hS hE
        unfold ag.does
        go_simp
        try exact ⟨rfl, rfl⟩
      refine ag.walk_val (by rfl) (fun W1 hS hE => ?_) ?_
      rotate_left; simp only [Act.put, List.setIfInBounds_toArray, List.set_cons_zero, List.set_cons_succ]; rotate_left
      · clear hS hE
        unfold ag.does
        go_simp
        try exact ⟨rfl, rfl⟩
      refine ag.walk_val (by rfl) (fun W1 hS hE => ?_) ?_
      rotate_left; simp only [Act.put, List.setIfInBounds_toArray, List.set_cons_zero, List.set_cons_succ]; rotate_left
      · clear hS hE
        unfold ag.does
        go_simp
        try exact ⟨rfl, rfl⟩
      refine ag.walk_val (by rfl) (fun W1 hS hE => ?_) ?_
      rotate_left; simp only [Act.put, List.setIfInBounds_toArray, List.set_cons_zero, List.set_cons_succ]; rotate_left
      · clear hS hE
        unfold ag.does
        go_simp
        try exact ⟨rfl, rfl⟩
      refine ag.walk_val (by rfl) (fun W1 hS hE => ?_) ?_
      rotate_left; simp only [Act.put, List.setIfInBounds_toArray, List.set_cons_zero, List.set_cons_succ]; rotate_left
      · clear hS hE
        unfold ag.does
        go_simp
        try exact ⟨rfl, rfl⟩
      refine ag.walk_val (by rfl) (fun W1 hS hE => ?_) ?_
      rotate_left; simp only [Act.put, List.setIfInBounds_toArray, List.set_cons_zero, List.set_cons_succ]; rotate_left
      · clear hS hE
        unfold ag.does
        go_simp
        try exact ⟨rfl, rfl⟩
      refine ag.walk_val (by rfl) (fun W1 hS hE => ?_) ?_
      rotate_left; simp only [Act.put, List.setIfInBounds_toArray, List.set_cons_zero, List.set_cons_succ]; rotate_left
      · clear hS hE
        unfold ag.does
        go_simp
        try exact ⟨rfl, rfl⟩
      refine ag.walk_val (by rfl) (fun W1 hS hE => ?_) ?_
      rotate_left; simp only [Act.put, List.setIfInBounds_toArray, List.set_cons_zero, List.set_cons_succ]; rotate_left
      · obtain ⟨q0, q1, q2⟩ := (F9b.out.later hS).tri
        clear hS hE
        unfold ag.does
        go_simp
        try exact ⟨rfl, rfl⟩
      refine ag.walk_val (by rfl) (fun W1 hS hE => ?_) ?_
      rotate_left; simp only [Act.put, List.setIfInBounds_toArray, List.set_cons_zero, List.set_cons_succ]; rotate_left
      · clear hS hE
        unfold ag.does
        go_simp
        try exact ⟨rfl, rfl⟩
      refine ag.walk_val (by rfl) (fun W1 hS hE => ?_) ?_
      rotate_left; simp only [Act.put, List.setIfInBounds_toArray, List.set_cons_zero, List.set_cons_succ]; rotate_left
      · clear hS hE
        unfold ag.does
        go_simp
        try exact ⟨rfl, rfl⟩
      refine ag.walk_sat (by rfl) (fun W1 hS hE => ?_) (fun y1 => ?_)
      rotate_left; simp only [Act.put, List.setIfInBounds_toArray, List.set_cons_zero, List.set_cons_succ]; rotate_left
      · clear hS hE
        unfold ag.does
        go_simp
        refine (HOB.out _).mono ?_
        rintro e W2 ⟨rfl, hb⟩
        exact ⟨_, rfl, rfl, hb, ag.News.none (fun _ _ => trivial) _ _⟩
      refine ag.walk_val (by rfl) (fun W1 hS hE => ?_) ?_
      rotate_left; simp only [Act.put, List.setIfInBounds_toArray, List.set_cons_zero, List.set_cons_succ]; rotate_left
      · have hy1 : y1 = ag3 1 0 nob := hE.get (by kernel_rfl)
        subst hy1
        clear hS hE
        unfold ag.does
        go_simp
        first | exact HVV.out | exact congrArg Value.bool HVV.out | exact ⟨congrArg Value.bool HVV.out, rfl⟩
      refine ag.walk_val (by rfl) (fun W1 hS hE => ?_) ?_
      rotate_left; simp only [Act.put, List.setIfInBounds_toArray, List.set_cons_zero, List.set_cons_succ]; rotate_left
      · clear hS hE
        unfold ag.does
        go_simp
        try exact ⟨rfl, rfl⟩
      refine ag.walk_val (by rfl) (fun W1 hS hE => ?_) ?_
      rotate_left; simp only [Act.put, List.setIfInBounds_toArray, List.set_cons_zero, List.set_cons_succ]; rotate_left
      · clear hS hE
        unfold ag.does
        go_simp
        try exact ⟨rfl, rfl⟩
      refine ag.walk_nil (fun w7 hS hF' hP => ?_)
      clear hF' hP
      have HS := Lib.hid hS
      clear hS
      go_wp2
      go_ret
      exact ⟨rfl, after (after HBW.out HBb.out) HS.out⟩
    
set_option maxRecDepth 100000 in
set_option maxHeartbeats 4000000 in
theorem ones_c2m (s S : ByteArray) (hS : s.extract 0 (min (s.size : Int) 70).toNat = S) (hSn : S = nob) (hs : s.size ≤ maxLen)
    (m : Int) (W : World) (hm : W.cell? ⟨gMax, 0, none⟩ = some (.int .i64 m)) (hp : Pow10 W) :
    Calls Tryd.prog 5 #[.int .i64 2, .int .i64 (-9223372036854775808), .string s] W fun e w' => e = .returned (.bool true) ∧ Below W.heap.size W w' := by
  have HNOT : Hid (∀ W, Calls Tryd.prog 24 #[ag3 2 (-9223372036854775808) S] W fun e w' => e = .returned (.tuple #[ag3 0 0 nob, .int .i64 5]) ∧ Below W.heap.size W w') := Lib.hid (fun W => by have h := not_any 2 (-9223372036854775808) S W; rw [show notV ⟨2, -9223372036854775808, S⟩ = (null, 5) from rfl] at h; exact h)
  have HNEG : Hid (∀ W, Calls Tryd.prog 25 #[ag3 2 (-9223372036854775808) S] W fun e w' => e = .returned (.tuple #[ag3 0 0 nob, .int .i64 8]) ∧ Below W.heap.size W w') := Lib.hid (fun W => by have h := neg_any 2 (-9223372036854775808) S (by decide) W; rw [show negV ⟨2, -9223372036854775808, S⟩ = (null, 8) from rfl] at h; exact h)
  have HM := Lib.hid hm
  have HP := Lib.hid hp
  have HS := Lib.hid hS
  have hsz : S.size ≤ 70 := by rw [← hS, ByteArray.size_extract]; omega
  have HG := Lib.hid (fun W => good_any 2 (-9223372036854775808) S W)
  have HRG := Lib.hid (fun W => rgood_any 2 (-9223372036854775808) S W)
  have HSH := Lib.hid (fun W h1 h2 => show_any 2 (-9223372036854775808) S (by decide) m W h1 h2)
  have HRS := Lib.hid (fun W => rshow_any 2 (-9223372036854775808) S (by decide) W)
  have HT := Lib.hid (fun W => true_any 2 (-9223372036854775808) S W)
  have hgb : gB 2 (-9223372036854775808) S = true := by unfold gB; rw [hSn, ← emp_eq]; simp
  have htb : veq6 2 (-9223372036854775808) S (ofB true).k (ofB true).n (ofB true).s = false := rfl
  rw [hgb] at HG HRG
  rw [htb] at HT
  obtain ⟨R, hR⟩ : ∃ R, showV 2 (-9223372036854775808) S = R := ⟨_, rfl⟩
  rw [hR] at HSH HRS
  clear hm hp hS hgb htb hR
  subst hSn
  go_enter Tryd.func5, Tryd.ntmps5
  go_wp2_with (go_at_call 10; ((with_reducible refine (speaks m _ HM.out).mono ?_); rintro e w1 ⟨rfl, hw1⟩))
  have hm1 := cell_later hw1 HM.out
  have hp1 := pow10_later HP.out hw1
  have HB1 := Lib.hid hw1
  have HM1 := Lib.hid hm1; have HP1 := Lib.hid hp1
  clear hw1 hm1 hp1
  rw [HS.out]
  have F7 := Lib.hid ((Flds.new w1 TV [.int .i64 2, .int .i64 (-9223372036854775808), .string nob]).alloc (.cells #[.int .i64 2, .int .i64 (-9223372036854775808), .string nob] TR))
  have F8 : Hid (Flds ((w1.alloc (.cells #[.int .i64 2, .int .i64 (-9223372036854775808), .string nob] TV)).alloc (.cells #[.int .i64 2, .int .i64 (-9223372036854775808), .string nob] TR)) (w1.heap.size + 1) TR [.int .i64 2, .int .i64 (-9223372036854775808), .string nob]) := Lib.hid (by
    have := Flds.new (w1.alloc (.cells #[.int .i64 2, .int .i64 (-9223372036854775808), .string nob] TV)) TR [.int .i64 2, .int .i64 (-9223372036854775808), .string nob]
    rw [World.size_alloc] at this
    exact this)
  have HBX := Lib.hid (below_alloc2 w1 (.cells #[.int .i64 2, .int .i64 (-9223372036854775808), .string nob] TV) (.cells #[.int .i64 2, .int .i64 (-9223372036854775808), .string nob] TR))
  have HMX := Lib.hid (cell_later HBX.out HM1.out)
  have HPX := Lib.hid (pow10_later HP1.out HBX.out)
  have HBW := Lib.hid (after HB1.out HBX.out)
  clear HBX HM1 HP1
  generalize (w1.alloc (.cells #[.int .i64 2, .int .i64 (-9223372036854775808), .string nob] TV)).alloc (.cells #[.int .i64 2, .int .i64 (-9223372036854775808), .string nob] TR) = X at *
  generalize w1.heap.size + 1 = g8 at *
  generalize w1.heap.size = g7 at *
  go_wp2_with fail
  refine ag.region_ag (fun W1 => Below X.heap.size X W1) (fun _ _ _ _ => True)
    [.val (.agg #[.int .i64 2, .int .i64 (-9223372036854775808), .string nob]), .sat (fun v _ => v = .bool true) (fun _ w w' => Below w.heap.size w w'), .val (.agg #[.int .i64 2, .int .i64 (-9223372036854775808), .string nob]), .sat (fun v _ => v = .bool true) (fun _ w w' => Below w.heap.size w w'), .val (.bool false), .val (.bool false), .val (.agg #[.int .i64 2, .int .i64 (-9223372036854775808), .string nob]), .sat (fun v _ => v = .string R) (fun _ w w' => Below w.heap.size w w'), .val (.agg #[.int .i64 2, .int .i64 (-9223372036854775808), .string nob]), .sat (fun v _ => v = .string R) (fun _ w w' => Below w.heap.size w w'), .val (.bool false), .val (.bool false), .val (.bool false), .val (.agg #[.int .i64 2, .int .i64 (-9223372036854775808), .string nob]), .sat (fun v _ => v = .bool false) (fun _ w w' => Below w.heap.size w w'), .val (.int .i64 2), .val (.bool false), .val (.bool false), .val undef, .val undef, .val (.bool false), .val (.bool false), .val undef, .val undef, .val (.bool false), .val (.bool false), .val (.bool false)]
    (by kernel_rfl) (by kernel_rfl) rfl (⟨rfl, rfl, rfl, Nat.le_refl _, fun _ _ => rfl⟩) ?hst6 ?hk6 ?hwalk6
  case hst6 =>
    simp only [ag.Stab, ag.Row2, ag.Ok2, and_true]
    repeat' apply And.intro
    all_goals first
      | exact fun h => absurd rfl h
      | exact fun _ _ f v W W' hS hv _ ht => hv
      | trivial
  case hk6 =>
    simp only [ag.Keeps, and_true]
    exact ⟨fun f W1 W2 hS _ ht => hS.trans (ht.mono hS.size), fun f W1 W2 hS _ ht => hS.trans (ht.mono hS.size), fun f W1 W2 hS _ ht => hS.trans (ht.mono hS.size), fun f W1 W2 hS _ ht => hS.trans (ht.mono hS.size), fun f W1 W2 hS _ ht => hS.trans (ht.mono hS.size)⟩
  case hwalk6 =>
    refine ag.walk_val (by rfl) (fun W1 hS hE => ?_) ?_
    rotate_left; simp only [Act.put, List.setIfInBounds_toArray, List.set_cons_zero, List.set_cons_succ]; rotate_left
    · obtain ⟨q0, q1, q2⟩ := (F7.out.later hS).tri
      clear hS hE
      unfold ag.does
      go_simp
      try exact ⟨rfl, rfl⟩
    refine ag.walk_sat (by rfl) (fun W1 hS hE => ?_) (fun y1 => ?_)
    rotate_left; simp only [Act.put, List.setIfInBounds_toArray, List.set_cons_zero, List.set_cons_succ]; rotate_left
    · clear hS hE
      unfold ag.does
      go_simp
      refine (HG.out _).mono ?_
      rintro e W2 ⟨rfl, hb⟩
      exact ⟨_, rfl, rfl, hb, ag.News.none (fun _ _ => trivial) _ _⟩
    refine ag.walk_val (by rfl) (fun W1 hS hE => ?_) ?_
    rotate_left; simp only [Act.put, List.setIfInBounds_toArray, List.set_cons_zero, List.set_cons_succ]; rotate_left
    · obtain ⟨q0, q1, q2⟩ := (F8.out.later hS).tri
      clear hS hE
      unfold ag.does
      go_simp
      try exact ⟨rfl, rfl⟩
    refine ag.walk_sat (by rfl) (fun W1 hS hE => ?_) (fun y2 => ?_)
    rotate_left; simp only [Act.put, List.setIfInBounds_toArray, List.set_cons_zero, List.set_cons_succ]; rotate_left
    · clear hS hE
      unfold ag.does
      go_simp
      refine (HRG.out _).mono ?_
      rintro e W2 ⟨rfl, hb⟩
      exact ⟨_, rfl, rfl, hb, ag.News.none (fun _ _ => trivial) _ _⟩
    refine ag.walk_val (by rfl) (fun W1 hS hE => ?_) ?_
    rotate_left; simp only [Act.put, List.setIfInBounds_toArray, List.set_cons_zero, List.set_cons_succ]; rotate_left
    · have hy2 : y2 = .bool true := hE.get (by kernel_rfl)
      subst hy2
      have hy1 : y1 = .bool true := hE.tail.get (by kernel_rfl)
      subst hy1
      clear hS hE
      unfold ag.does
      go_simp
      try exact ⟨rfl, rfl⟩
    refine ag.walk_val (by rfl) (fun W1 hS hE => ?_) ?_
    rotate_left; simp only [Act.put, List.setIfInBounds_toArray, List.set_cons_zero, List.set_cons_succ]; rotate_left
    · clear hS hE
      unfold ag.does
      go_simp
      try exact ⟨rfl, rfl⟩
    refine ag.walk_val (by rfl) (fun W1 hS hE => ?_) ?_
    rotate_left; simp only [Act.put, List.setIfInBounds_toArray, List.set_cons_zero, List.set_cons_succ]; rotate_left
    · obtain ⟨q0, q1, q2⟩ := (F7.out.later hS).tri
      clear hS hE
      unfold ag.does
      go_simp
      try exact ⟨rfl, rfl⟩
    refine ag.walk_sat (by rfl) (fun W1 hS hE => ?_) (fun y3 => ?_)
    rotate_left; simp only [Act.put, List.setIfInBounds_toArray, List.set_cons_zero, List.set_cons_succ]; rotate_left
    · have HMX1 := Lib.hid (cell_later hS HMX.out)
      have HPX1 := Lib.hid (pow10_later HPX.out hS)
      clear hS hE
      unfold ag.does
      go_simp
      refine (HSH.out _ HMX1.out HPX1.out).mono ?_
      rintro e W2 ⟨rfl, hb⟩
      exact ⟨_, rfl, rfl, hb, ag.News.none (fun _ _ => trivial) _ _⟩
    refine ag.walk_val (by rfl) (fun W1 hS hE => ?_) ?_
    rotate_left; simp only [Act.put, List.setIfInBounds_toArray, List.set_cons_zero, List.set_cons_succ]; rotate_left
    · obtain ⟨q0, q1, q2⟩ := (F8.out.later hS).tri
      clear hS hE
      unfold ag.does
      go_simp
      try exact ⟨rfl, rfl⟩
    refine ag.walk_sat (by rfl) (fun W1 hS hE => ?_) (fun y4 => ?_)
    rotate_left; simp only [Act.put, List.setIfInBounds_toArray, List.set_cons_zero, List.set_cons_succ]; rotate_left
    · clear hS hE
      unfold ag.does
      go_simp
      refine (HRS.out _).mono ?_
      rintro e W2 ⟨rfl, hb⟩
      exact ⟨_, rfl, rfl, hb, ag.News.none (fun _ _ => trivial) _ _⟩
    refine ag.walk_val (by rfl) (fun W1 hS hE => ?_) ?_
    rotate_left; simp only [Act.put, List.setIfInBounds_toArray, List.set_cons_zero, List.set_cons_succ]; rotate_left
    · have hy4 : y4 = .string R := hE.get (by kernel_rfl)
      subst hy4
      have hy3 : y3 = .string R := hE.tail.get (by kernel_rfl)
      subst hy3
      clear hS hE
      unfold ag.does
      go_simp
      try exact ⟨rfl, rfl⟩
    refine ag.walk_val (by rfl) (fun W1 hS hE => ?_) ?_
    rotate_left; simp only [Act.put, List.setIfInBounds_toArray, List.set_cons_zero, List.set_cons_succ]; rotate_left
    · clear hS hE
      unfold ag.does
      go_simp
      try exact ⟨rfl, rfl⟩
    refine ag.walk_val (by rfl) (fun W1 hS hE => ?_) ?_
    rotate_left; simp only [Act.put, List.setIfInBounds_toArray, List.set_cons_zero, List.set_cons_succ]; rotate_left
    · clear hS hE
      unfold ag.does
      go_simp
      try exact ⟨rfl, rfl⟩
    refine ag.walk_val (by rfl) (fun W1 hS hE => ?_) ?_
    rotate_left; simp only [Act.put, List.setIfInBounds_toArray, List.set_cons_zero, List.set_cons_succ]; rotate_left
    · obtain ⟨q0, q1, q2⟩ := (F7.out.later hS).tri
      clear hS hE
      unfold ag.does
      go_simp
      try exact ⟨rfl, rfl⟩
    refine ag.walk_sat (by rfl) (fun W1 hS hE => ?_) (fun y5 => ?_)
    rotate_left; simp only [Act.put, List.setIfInBounds_toArray, List.set_cons_zero, List.set_cons_succ]; rotate_left
    · clear hS hE
      unfold ag.does
      go_simp
      refine (HT.out _).mono ?_
      rintro e W2 ⟨rfl, hb⟩
      exact ⟨_, rfl, rfl, hb, ag.News.none (fun _ _ => trivial) _ _⟩
    refine ag.walk_val (by rfl) (fun W1 hS hE => ?_) ?_
    rotate_left; simp only [Act.put, List.setIfInBounds_toArray, List.set_cons_zero, List.set_cons_succ]; rotate_left
    · clear hS hE
      unfold ag.does
      go_simp
      try exact ⟨rfl, rfl⟩
    refine ag.walk_val (by rfl) (fun W1 hS hE => ?_) ?_
    rotate_left; simp only [Act.put, List.setIfInBounds_toArray, List.set_cons_zero, List.set_cons_succ]; rotate_left
    · clear hS hE
      unfold ag.does
      go_simp
      try exact ⟨rfl, rfl⟩
    refine ag.walk_val (by rfl) (fun W1 hS hE => ?_) ?_
    rotate_left; simp only [Act.put, List.setIfInBounds_toArray, List.set_cons_zero, List.set_cons_succ]; rotate_left
    · clear hS hE
      unfold ag.does
      go_simp
      try exact ⟨rfl, rfl⟩
    refine ag.walk_skip (by rfl) ?_
    simp only [Act.put, List.setIfInBounds_toArray, List.set_cons_zero, List.set_cons_succ]
    refine ag.walk_skip (by rfl) ?_
    simp only [Act.put, List.setIfInBounds_toArray, List.set_cons_zero, List.set_cons_succ]
    refine ag.walk_val (by rfl) (fun W1 hS hE => ?_) ?_
    rotate_left; simp only [Act.put, List.setIfInBounds_toArray, List.set_cons_zero, List.set_cons_succ]; rotate_left
    · clear hS hE
      unfold ag.does
      go_simp
      try exact ⟨rfl, rfl⟩
    refine ag.walk_val (by rfl) (fun W1 hS hE => ?_) ?_
    rotate_left; simp only [Act.put, List.setIfInBounds_toArray, List.set_cons_zero, List.set_cons_succ]; rotate_left
    · clear hS hE
      unfold ag.does
      go_simp
      try exact ⟨rfl, rfl⟩
    refine ag.walk_skip (by rfl) ?_
    simp only [Act.put, List.setIfInBounds_toArray, List.set_cons_zero, List.set_cons_succ]
    refine ag.walk_skip (by rfl) ?_
    simp only [Act.put, List.setIfInBounds_toArray, List.set_cons_zero, List.set_cons_succ]
    refine ag.walk_val (by rfl) (fun W1 hS hE => ?_) ?_
    rotate_left; simp only [Act.put, List.setIfInBounds_toArray, List.set_cons_zero, List.set_cons_succ]; rotate_left
    · clear hS hE
      unfold ag.does
      go_simp
      try exact ⟨rfl, rfl⟩
    refine ag.walk_val (by rfl) (fun W1 hS hE => ?_) ?_
    rotate_left; simp only [Act.put, List.setIfInBounds_toArray, List.set_cons_zero, List.set_cons_succ]; rotate_left
    · have hy5 : y5 = .bool false := hE.get (by kernel_rfl)
      subst hy5
      clear hS hE
      unfold ag.does
      go_simp
      try exact ⟨rfl, rfl⟩
    refine ag.walk_val (by rfl) (fun W1 hS hE => ?_) ?_
    rotate_left; simp only [Act.put, List.setIfInBounds_toArray, List.set_cons_zero, List.set_cons_succ]; rotate_left
    · clear hS hE
      unfold ag.does
      go_simp
      try exact ⟨rfl, rfl⟩
    refine ag.walk_nil (fun w7 hS hF' hP => ?_)
    clear hF' hP
    have HS := Lib.hid hS
    clear hS
    have hv1 : veq6 3 0 nob 3 0 nob = true := veq_same 3 0 nob
    have hv2 : veq6 2 (-9223372036854775808) ByteArray.empty 2 (-9223372036854775808) ⟨#[]⟩ = true := veq_same 2 (-9223372036854775808) ⟨#[]⟩
    obtain ⟨Z, hZ⟩ : ∃ Z, Z = w7 := ⟨_, rfl⟩
    subst hZ
    go_upto_region 10 with (first | (go_at_call 21; ((with_reducible refine (ofText_any _ _).mono ?_); rintro e wq ⟨rfl, hbq⟩; have hBq : Below Z.heap.size Z wq := after (by first | assumption | exact Below.refl _ _) hbq; clear hbq)) | (go_at_call 22; ((with_reducible refine (ofInt_any _ _).mono ?_); rintro e wq ⟨rfl, hbq⟩; have hBq : Below Z.heap.size Z wq := after (by first | assumption | exact Below.refl _ _) hbq; clear hbq)) | (go_at_call 23; ((with_reducible refine (ofBool_any _ _).mono ?_); rintro e wq ⟨rfl, hbq⟩; have hBq : Below Z.heap.size Z wq := after (by first | assumption | exact Below.refl _ _) hbq; clear hbq)) | (go_at_call 20; ((with_reducible refine (true_ofB _ _).mono ?_); rintro e wq ⟨rfl, hbq⟩; have hBq : Below Z.heap.size Z wq := after (by first | assumption | exact Below.refl _ _) hbq; clear hbq)))
    have hq := HS.out.trans (hBq.mono HS.out.size)
    obtain ⟨q0, q1, q2⟩ := (F8.out.later hq).tri
    have HQ := Lib.hid hq
    clear hq hBq hv1 hv2
    go_wp2_with fail
    (with_reducible refine (HRG.out _).mono ?_); rintro e wr ⟨rfl, hbr⟩
    have hr := HQ.out.trans (hbr.mono HQ.out.size)
    clear q0 q1 q2 hbr
    obtain ⟨q0, q1, q2⟩ := (F7.out.later hr).tri
    have HR1 := Lib.hid hr
    clear hr
    go_wp2_with fail
    (with_reducible refine (HNOT.out _).mono ?_); rintro e ws ⟨rfl, hbs⟩
    have hs1 := HR1.out.trans (hbs.mono HR1.out.size)
    have F7a := Lib.hid ((F7.out.later hs1).alloc (.cells #[.int .i64 0, .int .i64 0, .string nob] TV))
    have F9a := Lib.hid (Flds.new ws TV [.int .i64 0, .int .i64 0, .string nob])
    have HBa := Lib.hid (hs1.alloc hs1.size (.cells #[.int .i64 0, .int .i64 0, .string nob] TV))
    clear q0 q1 q2 hbs hs1
    go_upto_region 13 with fail
    generalize ws.alloc (.cells #[.int .i64 0, .int .i64 0, .string nob] TV) = A1 at *
    generalize ws.heap.size = g9 at *
    obtain ⟨q0, q1, q2⟩ := F7a.out.tri
    go_wp2_with fail
    (with_reducible refine (HNEG.out _).mono ?_); rintro e wt ⟨rfl, hbt⟩
    have F7b := Lib.hid ((F7a.out.later hbt).alloc (.cells #[.int .i64 0, .int .i64 0, .string nob] TV))
    have F9b := Lib.hid ((F9a.out.later hbt).alloc (.cells #[.int .i64 0, .int .i64 0, .string nob] TV))
    have F11 := Lib.hid (Flds.new wt TV [.int .i64 0, .int .i64 0, .string nob])
    have ht1 := HBa.out.trans (hbt.mono HBa.out.size)
    have HBb := Lib.hid (ht1.alloc ht1.size (.cells #[.int .i64 0, .int .i64 0, .string nob] TV))
    clear q0 q1 q2 hbt ht1
    go_upto_region 14 with fail
    generalize wt.alloc (.cells #[.int .i64 0, .int .i64 0, .string nob] TV) = A2 at *
    generalize wt.heap.size = g11 at *
    obtain ⟨q0, q1, q2⟩ := F7b.out.tri
    obtain ⟨r0, r1, r2⟩ := F9b.out.tri
    obtain ⟨x0, x1, x2⟩ := F11.out.tri
    have l7 := F7b.out.lt
    have l9 := F9b.out.lt
    have l11 := F11.out.lt
    have hv0 : veq6 0 0 nob 0 0 nob = true := veq_same 0 0 nob
    go_wp2
    go_ret
    exact ⟨rfl, after HBW.out HBb.out⟩
set_option maxRecDepth 100000 in
set_option maxHeartbeats 4000000 in
theorem ones_c2 (n : Int) (s S : ByteArray) (hS : s.extract 0 (min (s.size : Int) 70).toNat = S) (hSn : S = nob) (nm : (n == -9223372036854775808) = false) (hn : -9223372036854775808 ≤ n ∧ n ≤ 9223372036854775807) (hs : s.size ≤ maxLen)
    (m : Int) (W : World) (hm : W.cell? ⟨gMax, 0, none⟩ = some (.int .i64 m)) (hp : Pow10 W) :
    Calls Tryd.prog 5 #[.int .i64 2, .int .i64 n, .string s] W fun e w' => e = .returned (.bool true) ∧ Below W.heap.size W w' := by
  have HNOT : Hid (∀ W, Calls Tryd.prog 24 #[ag3 2 n S] W fun e w' => e = .returned (.tuple #[ag3 0 0 nob, .int .i64 5]) ∧ Below W.heap.size W w') := Lib.hid (fun W => by have h := not_any 2 n S W; rw [show notV ⟨2, n, S⟩ = (null, 5) from rfl] at h; exact h)
  have HNEG : Hid (∀ W, Calls Tryd.prog 25 #[ag3 2 n S] W fun e w' => e = .returned (.tuple #[ag3 2 (-n) nob, .int .i64 0]) ∧ Below W.heap.size W w') := Lib.hid (fun W => by have h := neg_any 2 n S hn W; rw [show negV ⟨2, n, S⟩ = (ofN (-n), 0) by unfold negV; rw [if_neg (by simp), if_neg (by simp), if_neg (by simpa using nm)]] at h; exact h)
  have HM := Lib.hid hm
  have HP := Lib.hid hp
  have HS := Lib.hid hS
  have hsz : S.size ≤ 70 := by rw [← hS, ByteArray.size_extract]; omega
  have HG := Lib.hid (fun W => good_any 2 n S W)
  have HRG := Lib.hid (fun W => rgood_any 2 n S W)
  have HSH := Lib.hid (fun W h1 h2 => show_any 2 n S hn m W h1 h2)
  have HRS := Lib.hid (fun W => rshow_any 2 n S hn W)
  have HT := Lib.hid (fun W => true_any 2 n S W)
  have hgb : gB 2 n S = true := by unfold gB; rw [hSn, ← emp_eq]; simp
  have htb : veq6 2 n S (ofB true).k (ofB true).n (ofB true).s = false := rfl
  rw [hgb] at HG HRG
  rw [htb] at HT
  obtain ⟨R, hR⟩ : ∃ R, showV 2 n S = R := ⟨_, rfl⟩
  rw [hR] at HSH HRS
  clear hm hp hS hgb htb hR
  subst hSn
  have b1 : -9223372036854775808 ≤ -n := by have := beq_eq_false_iff_ne.1 nm; omega
  have b2 : -n ≤ 9223372036854775807 := by have := beq_eq_false_iff_ne.1 nm; omega
  clear hn
  go_enter Tryd.func5, Tryd.ntmps5
  go_wp2_with (go_at_call 10; ((with_reducible refine (speaks m _ HM.out).mono ?_); rintro e w1 ⟨rfl, hw1⟩))
  have hm1 := cell_later hw1 HM.out
  have hp1 := pow10_later HP.out hw1
  have HB1 := Lib.hid hw1
  have HM1 := Lib.hid hm1; have HP1 := Lib.hid hp1
  clear hw1 hm1 hp1
  rw [HS.out]
  have F7 := Lib.hid ((Flds.new w1 TV [.int .i64 2, .int .i64 n, .string nob]).alloc (.cells #[.int .i64 2, .int .i64 n, .string nob] TR))
  have F8 : Hid (Flds ((w1.alloc (.cells #[.int .i64 2, .int .i64 n, .string nob] TV)).alloc (.cells #[.int .i64 2, .int .i64 n, .string nob] TR)) (w1.heap.size + 1) TR [.int .i64 2, .int .i64 n, .string nob]) := Lib.hid (by
    have := Flds.new (w1.alloc (.cells #[.int .i64 2, .int .i64 n, .string nob] TV)) TR [.int .i64 2, .int .i64 n, .string nob]
    rw [World.size_alloc] at this
    exact this)
  have HBX := Lib.hid (below_alloc2 w1 (.cells #[.int .i64 2, .int .i64 n, .string nob] TV) (.cells #[.int .i64 2, .int .i64 n, .string nob] TR))
  have HMX := Lib.hid (cell_later HBX.out HM1.out)
  have HPX := Lib.hid (pow10_later HP1.out HBX.out)
  have HBW := Lib.hid (after HB1.out HBX.out)
  clear HBX HM1 HP1
  generalize (w1.alloc (.cells #[.int .i64 2, .int .i64 n, .string nob] TV)).alloc (.cells #[.int .i64 2, .int .i64 n, .string nob] TR) = X at *
  generalize w1.heap.size + 1 = g8 at *
  generalize w1.heap.size = g7 at *
  go_wp2_with fail
  refine ag.region_ag (fun W1 => Below X.heap.size X W1) (fun _ _ _ _ => True)
    [.val (.agg #[.int .i64 2, .int .i64 n, .string nob]), .sat (fun v _ => v = .bool true) (fun _ w w' => Below w.heap.size w w'), .val (.agg #[.int .i64 2, .int .i64 n, .string nob]), .sat (fun v _ => v = .bool true) (fun _ w w' => Below w.heap.size w w'), .val (.bool false), .val (.bool false), .val (.agg #[.int .i64 2, .int .i64 n, .string nob]), .sat (fun v _ => v = .string R) (fun _ w w' => Below w.heap.size w w'), .val (.agg #[.int .i64 2, .int .i64 n, .string nob]), .sat (fun v _ => v = .string R) (fun _ w w' => Below w.heap.size w w'), .val (.bool false), .val (.bool false), .val (.bool false), .val (.agg #[.int .i64 2, .int .i64 n, .string nob]), .sat (fun v _ => v = .bool false) (fun _ w w' => Below w.heap.size w w'), .val (.int .i64 2), .val (.bool false), .val (.bool false), .val undef, .val undef, .val (.bool false), .val (.bool false), .val undef, .val undef, .val (.bool false), .val (.bool false), .val (.bool false)]
    (by kernel_rfl) (by kernel_rfl) rfl (⟨rfl, rfl, rfl, Nat.le_refl _, fun _ _ => rfl⟩) ?hst6 ?hk6 ?hwalk6
  case hst6 =>
    simp only [ag.Stab, ag.Row2, ag.Ok2, and_true]
    repeat' apply And.intro
    all_goals first
      | exact fun h => absurd rfl h
      | exact fun _ _ f v W W' hS hv _ ht => hv
      | trivial
  case hk6 =>
    simp only [ag.Keeps, and_true]
    exact ⟨fun f W1 W2 hS _ ht => hS.trans (ht.mono hS.size), fun f W1 W2 hS _ ht => hS.trans (ht.mono hS.size), fun f W1 W2 hS _ ht => hS.trans (ht.mono hS.size), fun f W1 W2 hS _ ht => hS.trans (ht.mono hS.size), fun f W1 W2 hS _ ht => hS.trans (ht.mono hS.size)⟩
  case hwalk6 =>
    refine ag.walk_val (by rfl) (fun W1 hS hE => ?_) ?_
    rotate_left; simp only [Act.put, List.setIfInBounds_toArray, List.set_cons_zero, List.set_cons_succ]; rotate_left
    · obtain ⟨q0, q1, q2⟩ := (F7.out.later hS).tri
      clear hS hE
      unfold ag.does
      go_simp
      try exact ⟨rfl, rfl⟩
    refine ag.walk_sat (by rfl) (fun W1 hS hE => ?_) (fun y1 => ?_)
    rotate_left; simp only [Act.put, List.setIfInBounds_toArray, List.set_cons_zero, List.set_cons_succ]; rotate_left
    · clear hS hE
      unfold ag.does
      go_simp
      refine (HG.out _).mono ?_
      rintro e W2 ⟨rfl, hb⟩
      exact ⟨_, rfl, rfl, hb, ag.News.none (fun _ _ => trivial) _ _⟩
    refine ag.walk_val (by rfl) (fun W1 hS hE => ?_) ?_
    rotate_left; simp only [Act.put, List.setIfInBounds_toArray, List.set_cons_zero, List.set_cons_succ]; rotate_left
    · obtain ⟨q0, q1, q2⟩ := (F8.out.later hS).tri
      clear hS hE
      unfold ag.does
      go_simp
      try exact ⟨rfl, rfl⟩
    refine ag.walk_sat (by rfl) (fun W1 hS hE => ?_) (fun y2 => ?_)
    rotate_left; simp only [Act.put, List.setIfInBounds_toArray, List.set_cons_zero, List.set_cons_succ]; rotate_left
    · clear hS hE
      unfold ag.does
      go_simp
      refine (HRG.out _).mono ?_
      rintro e W2 ⟨rfl, hb⟩
      exact ⟨_, rfl, rfl, hb, ag.News.none (fun _ _ => trivial) _ _⟩
    refine ag.walk_val (by rfl) (fun W1 hS hE => ?_) ?_
    rotate_left; simp only [Act.put, List.setIfInBounds_toArray, List.set_cons_zero, List.set_cons_succ]; rotate_left
    · have hy2 : y2 = .bool true := hE.get (by kernel_rfl)
      subst hy2
      have hy1 : y1 = .bool true := hE.tail.get (by kernel_rfl)
      subst hy1
      clear hS hE
      unfold ag.does
      go_simp
      try exact ⟨rfl, rfl⟩
    refine ag.walk_val (by rfl) (fun W1 hS hE => ?_) ?_
    rotate_left; simp only [Act.put, List.setIfInBounds_toArray, List.set_cons_zero, List.set_cons_succ]; rotate_left
    · clear hS hE
      unfold ag.does
      go_simp
      try exact ⟨rfl, rfl⟩
    refine ag.walk_val (by rfl) (fun W1 hS hE => ?_) ?_
    rotate_left; simp only [Act.put, List.setIfInBounds_toArray, List.set_cons_zero, List.set_cons_succ]; rotate_left
    · obtain ⟨q0, q1, q2⟩ := (F7.out.later hS).tri
      clear hS hE
      unfold ag.does
      go_simp
      try exact ⟨rfl, rfl⟩
    refine ag.walk_sat (by rfl) (fun W1 hS hE => ?_) (fun y3 => ?_)
    rotate_left; simp only [Act.put, List.setIfInBounds_toArray, List.set_cons_zero, List.set_cons_succ]; rotate_left
    · have HMX1 := Lib.hid (cell_later hS HMX.out)
      have HPX1 := Lib.hid (pow10_later HPX.out hS)
      clear hS hE
      unfold ag.does
      go_simp
      refine (HSH.out _ HMX1.out HPX1.out).mono ?_
      rintro e W2 ⟨rfl, hb⟩
      exact ⟨_, rfl, rfl, hb, ag.News.none (fun _ _ => trivial) _ _⟩
    refine ag.walk_val (by rfl) (fun W1 hS hE => ?_) ?_
    rotate_left; simp only [Act.put, List.setIfInBounds_toArray, List.set_cons_zero, List.set_cons_succ]; rotate_left
    · obtain ⟨q0, q1, q2⟩ := (F8.out.later hS).tri
      clear hS hE
      unfold ag.does
      go_simp
      try exact ⟨rfl, rfl⟩
    refine ag.walk_sat (by rfl) (fun W1 hS hE => ?_) (fun y4 => ?_)
    rotate_left; simp only [Act.put, List.setIfInBounds_toArray, List.set_cons_zero, List.set_cons_succ]; rotate_left
    · clear hS hE
      unfold ag.does
      go_simp
      refine (HRS.out _).mono ?_
      rintro e W2 ⟨rfl, hb⟩
      exact ⟨_, rfl, rfl, hb, ag.News.none (fun _ _ => trivial) _ _⟩
    refine ag.walk_val (by rfl) (fun W1 hS hE => ?_) ?_
    rotate_left; simp only [Act.put, List.setIfInBounds_toArray, List.set_cons_zero, List.set_cons_succ]; rotate_left
    · have hy4 : y4 = .string R := hE.get (by kernel_rfl)
      subst hy4
      have hy3 : y3 = .string R := hE.tail.get (by kernel_rfl)
      subst hy3
      clear hS hE
      unfold ag.does
      go_simp
      try exact ⟨rfl, rfl⟩
    refine ag.walk_val (by rfl) (fun W1 hS hE => ?_) ?_
    rotate_left; simp only [Act.put, List.setIfInBounds_toArray, List.set_cons_zero, List.set_cons_succ]; rotate_left
    · clear hS hE
      unfold ag.does
      go_simp
      try exact ⟨rfl, rfl⟩
    refine ag.walk_val (by rfl) (fun W1 hS hE => ?_) ?_
    rotate_left; simp only [Act.put, List.setIfInBounds_toArray, List.set_cons_zero, List.set_cons_succ]; rotate_left
    · clear hS hE
      unfold ag.does
      go_simp
      try exact ⟨rfl, rfl⟩
    refine ag.walk_val (by rfl) (fun W1 hS hE => ?_) ?_
    rotate_left; simp only [Act.put, List.setIfInBounds_toArray, List.set_cons_zero, List.set_cons_succ]; rotate_left
    · obtain ⟨q0, q1, q2⟩ := (F7.out.later hS).tri
      clear hS hE
      unfold ag.does
      go_simp
      try exact ⟨rfl, rfl⟩
    refine ag.walk_sat (by rfl) (fun W1 hS hE => ?_) (fun y5 => ?_)
    rotate_left; simp only [Act.put, List.setIfInBounds_toArray, List.set_cons_zero, List.set_cons_succ]; rotate_left
    · clear hS hE
      unfold ag.does
      go_simp
      refine (HT.out _).mono ?_
      rintro e W2 ⟨rfl, hb⟩
      exact ⟨_, rfl, rfl, hb, ag.News.none (fun _ _ => trivial) _ _⟩
    refine ag.walk_val (by rfl) (fun W1 hS hE => ?_) ?_
    rotate_left; simp only [Act.put, List.setIfInBounds_toArray, List.set_cons_zero, List.set_cons_succ]; rotate_left
    · clear hS hE
      unfold ag.does
      go_simp
      try exact ⟨rfl, rfl⟩
    refine ag.walk_val (by rfl) (fun W1 hS hE => ?_) ?_
    rotate_left; simp only [Act.put, List.setIfInBounds_toArray, List.set_cons_zero, List.set_cons_succ]; rotate_left
    · clear hS hE
      unfold ag.does
      go_simp
      try exact ⟨rfl, rfl⟩
    refine ag.walk_val (by rfl) (fun W1 hS hE => ?_) ?_
    rotate_left; simp only [Act.put, List.setIfInBounds_toArray, List.set_cons_zero, List.set_cons_succ]; rotate_left
    · clear hS hE
      unfold ag.does
      go_simp
      try exact ⟨rfl, rfl⟩
    refine ag.walk_skip (by rfl) ?_
    simp only [Act.put, List.setIfInBounds_toArray, List.set_cons_zero, List.set_cons_succ]
    refine ag.walk_skip (by rfl) ?_
    simp only [Act.put, List.setIfInBounds_toArray, List.set_cons_zero, List.set_cons_succ]
    refine ag.walk_val (by rfl) (fun W1 hS hE => ?_) ?_
    rotate_left; simp only [Act.put, List.setIfInBounds_toArray, List.set_cons_zero, List.set_cons_succ]; rotate_left
    · clear hS hE
      unfold ag.does
      go_simp
      try exact ⟨rfl, rfl⟩
    refine ag.walk_val (by rfl) (fun W1 hS hE => ?_) ?_
    rotate_left; simp only [Act.put, List.setIfInBounds_toArray, List.set_cons_zero, List.set_cons_succ]; rotate_left
    · clear hS hE
      unfold ag.does
      go_simp
      try exact ⟨rfl, rfl⟩
    refine ag.walk_skip (by rfl) ?_
    simp only [Act.put, List.setIfInBounds_toArray, List.set_cons_zero, List.set_cons_succ]
    refine ag.walk_skip (by rfl) ?_
    simp only [Act.put, List.setIfInBounds_toArray, List.set_cons_zero, List.set_cons_succ]
    refine ag.walk_val (by rfl) (fun W1 hS hE => ?_) ?_
    rotate_left; simp only [Act.put, List.setIfInBounds_toArray, List.set_cons_zero, List.set_cons_succ]; rotate_left
    · clear hS hE
      unfold ag.does
      go_simp
      try exact ⟨rfl, rfl⟩
    refine ag.walk_val (by rfl) (fun W1 hS hE => ?_) ?_
    rotate_left; simp only [Act.put, List.setIfInBounds_toArray, List.set_cons_zero, List.set_cons_succ]; rotate_left
    · have hy5 : y5 = .bool false := hE.get (by kernel_rfl)
      subst hy5
      clear hS hE
      unfold ag.does
      go_simp
      try exact ⟨rfl, rfl⟩
    refine ag.walk_val (by rfl) (fun W1 hS hE => ?_) ?_
    rotate_left; simp only [Act.put, List.setIfInBounds_toArray, List.set_cons_zero, List.set_cons_succ]; rotate_left
    · clear hS hE
      unfold ag.does
      go_simp
      try exact ⟨rfl, rfl⟩
    refine ag.walk_nil (fun w7 hS hF' hP => ?_)
    clear hF' hP
    have HS := Lib.hid hS
    clear hS
    have hv1 : veq6 3 0 nob 3 0 nob = true := veq_same 3 0 nob
    have hv2 : veq6 2 n ByteArray.empty 2 n ⟨#[]⟩ = true := veq_same 2 n ⟨#[]⟩
    obtain ⟨Z, hZ⟩ : ∃ Z, Z = w7 := ⟨_, rfl⟩
    subst hZ
    go_upto_region 10 with (first | (go_at_call 21; ((with_reducible refine (ofText_any _ _).mono ?_); rintro e wq ⟨rfl, hbq⟩; have hBq : Below Z.heap.size Z wq := after (by first | assumption | exact Below.refl _ _) hbq; clear hbq)) | (go_at_call 22; ((with_reducible refine (ofInt_any _ _).mono ?_); rintro e wq ⟨rfl, hbq⟩; have hBq : Below Z.heap.size Z wq := after (by first | assumption | exact Below.refl _ _) hbq; clear hbq)) | (go_at_call 23; ((with_reducible refine (ofBool_any _ _).mono ?_); rintro e wq ⟨rfl, hbq⟩; have hBq : Below Z.heap.size Z wq := after (by first | assumption | exact Below.refl _ _) hbq; clear hbq)) | (go_at_call 20; ((with_reducible refine (true_ofB _ _).mono ?_); rintro e wq ⟨rfl, hbq⟩; have hBq : Below Z.heap.size Z wq := after (by first | assumption | exact Below.refl _ _) hbq; clear hbq)))
    have hq := HS.out.trans (hBq.mono HS.out.size)
    obtain ⟨q0, q1, q2⟩ := (F8.out.later hq).tri
    have HQ := Lib.hid hq
    clear hq hBq hv1 hv2
    go_wp2_with fail
    (with_reducible refine (HRG.out _).mono ?_); rintro e wr ⟨rfl, hbr⟩
    have hr := HQ.out.trans (hbr.mono HQ.out.size)
    clear q0 q1 q2 hbr
    obtain ⟨q0, q1, q2⟩ := (F7.out.later hr).tri
    have HR1 := Lib.hid hr
    clear hr
    go_wp2_with fail
    (with_reducible refine (HNOT.out _).mono ?_); rintro e ws ⟨rfl, hbs⟩
    have hs1 := HR1.out.trans (hbs.mono HR1.out.size)
    have F7a := Lib.hid ((F7.out.later hs1).alloc (.cells #[.int .i64 0, .int .i64 0, .string nob] TV))
    have F9a := Lib.hid (Flds.new ws TV [.int .i64 0, .int .i64 0, .string nob])
    have HBa := Lib.hid (hs1.alloc hs1.size (.cells #[.int .i64 0, .int .i64 0, .string nob] TV))
    clear q0 q1 q2 hbs hs1
    go_upto_region 13 with fail
    generalize ws.alloc (.cells #[.int .i64 0, .int .i64 0, .string nob] TV) = A1 at *
    generalize ws.heap.size = g9 at *
    obtain ⟨q0, q1, q2⟩ := F7a.out.tri
    go_wp2_with fail
    (with_reducible refine (HNEG.out _).mono ?_); rintro e wt ⟨rfl, hbt⟩
    have F7b := Lib.hid ((F7a.out.later hbt).alloc (.cells #[.int .i64 2, .int .i64 (-n), .string nob] TV))
    have F9b := Lib.hid ((F9a.out.later hbt).alloc (.cells #[.int .i64 2, .int .i64 (-n), .string nob] TV))
    have F11 := Lib.hid (Flds.new wt TV [.int .i64 2, .int .i64 (-n), .string nob])
    have ht1 := HBa.out.trans (hbt.mono HBa.out.size)
    have HBb := Lib.hid (ht1.alloc ht1.size (.cells #[.int .i64 2, .int .i64 (-n), .string nob] TV))
    clear q0 q1 q2 hbt ht1
    go_upto_region 14 with fail
    generalize wt.alloc (.cells #[.int .i64 2, .int .i64 (-n), .string nob] TV) = A2 at *
    generalize wt.heap.size = g11 at *
    have HVV := Lib.hid (veq_same 2 (-n) nob)
    go_wp2_with fail
    refine ag.region_ag (fun W1 => Below A2.heap.size A2 W1) (fun _ _ _ _ => True)
      [.val (.int .i64 5), .val (.bool true), .val (.bool true), .val (.int .i64 0), .val (.bool true), .val (.bool true), .val (.bool true), .val (.agg #[.int .i64 2, .int .i64 (-n), .string nob]), .val (.int .i64 n), .val (.int .i64 (-n)), .sat (fun v _ => v = ag3 2 (-n) nob) (fun _ w w' => Below w.heap.size w w'), .val (.bool true), .val (.bool true), .val (.bool true)]
      (by kernel_rfl) (by kernel_rfl) rfl (⟨rfl, rfl, rfl, Nat.le_refl _, fun _ _ => rfl⟩) ?hst9 ?hk9 ?hwalk9
    case hst9 =>
      simp only [ag.Stab, ag.Row2, ag.Ok2, and_true]
      repeat' apply And.intro
      all_goals first
        | exact fun h => absurd rfl h
        | exact fun _ _ f v W W' hS hv _ ht => hv
        | trivial
    case hk9 =>
      simp only [ag.Keeps, and_true]
      exact fun f W1 W2 hS _ ht => hS.trans (ht.mono hS.size)
    case hwalk9 =>
      refine ag.walk_val (by rfl) (fun W1 hS hE => ?_) ?_
      rotate_left; simp only [Act.put, List.setIfInBounds_toArray, List.set_cons_zero, List.set_cons_succ]; rotate_left
      · clear hS hE
        unfold ag.does
        go_simp
        try exact ⟨rfl, rfl⟩
      refine ag.walk_val (by rfl) (fun W1 hS hE => ?_) ?_
      rotate_left; simp only [Act.put, List.setIfInBounds_toArray, List.set_cons_zero, List.set_cons_succ]; rotate_left
      · clear hS hE
        unfold ag.does
        go_simp
        try exact ⟨rfl, rfl⟩
      refine ag.walk_val (by rfl) (fun W1 hS hE => ?_) ?_
      rotate_left; simp only [Act.put, List.setIfInBounds_toArray, List.set_cons_zero, List.set_cons_succ]; rotate_left
      · clear hS hE
        unfold ag.does
        go_simp
        try exact ⟨rfl, rfl⟩
      refine ag.walk_val (by rfl) (fun W1 hS hE => ?_) ?_
      rotate_left; simp only [Act.put, List.setIfInBounds_toArray, List.set_cons_zero, List.set_cons_succ]; rotate_left
      · clear hS hE
        unfold ag.does
        go_simp
        try exact ⟨rfl, rfl⟩
      refine ag.walk_val (by rfl) (fun W1 hS hE => ?_) ?_
      rotate_left; simp only [Act.put, List.setIfInBounds_toArray, List.set_cons_zero, List.set_cons_succ]; rotate_left
      · clear hS hE
        unfold ag.does
        go_simp
        try exact ⟨rfl, rfl⟩
      refine ag.walk_val (by rfl) (fun W1 hS hE => ?_) ?_
      rotate_left; simp only [Act.put, List.setIfInBounds_toArray, List.set_cons_zero, List.set_cons_succ]; rotate_left
      · clear hS hE
        unfold ag.does
        go_simp
        try exact ⟨rfl, rfl⟩
      refine ag.walk_val (by rfl) (fun W1 hS hE => ?_) ?_
      rotate_left; simp only [Act.put, List.setIfInBounds_toArray, List.set_cons_zero, List.set_cons_succ]; rotate_left
      · clear hS hE
        unfold ag.does
        go_simp
        try exact ⟨rfl, rfl⟩
      refine ag.walk_val (by rfl) (fun W1 hS hE => ?_) ?_
      rotate_left; simp only [Act.put, List.setIfInBounds_toArray, List.set_cons_zero, List.set_cons_succ]; rotate_left
      · obtain ⟨q0, q1, q2⟩ := (F11.out.later hS).tri
        clear hS hE
        unfold ag.does
        go_simp
        try exact ⟨rfl, rfl⟩
      refine ag.walk_val (by rfl) (fun W1 hS hE => ?_) ?_
      rotate_left; simp only [Act.put, List.setIfInBounds_toArray, List.set_cons_zero, List.set_cons_succ]; rotate_left
      · clear hS hE
        unfold ag.does
        go_simp
        try exact ⟨rfl, rfl⟩
      refine ag.walk_val (by rfl) (fun W1 hS hE => ?_) ?_
      rotate_left; simp only [Act.put, List.setIfInBounds_toArray, List.set_cons_zero, List.set_cons_succ]; rotate_left
      · clear hS hE
        unfold ag.does
        go_simp
        first | exact ⟨rfl, rfl⟩ | exact IntWalk.i64_in _ (by omega) | trivial
      refine ag.walk_sat (by rfl) (fun W1 hS hE => ?_) (fun y1 => ?_)
      rotate_left; simp only [Act.put, List.setIfInBounds_toArray, List.set_cons_zero, List.set_cons_succ]; rotate_left
      · clear hS hE
        unfold ag.does
        go_simp
        refine (ofI_lit _ _).mono ?_
        rintro e W2 ⟨rfl, hb⟩
        exact ⟨_, rfl, rfl, hb, ag.News.none (fun _ _ => trivial) _ _⟩
      refine ag.walk_val (by rfl) (fun W1 hS hE => ?_) ?_
      rotate_left; simp only [Act.put, List.setIfInBounds_toArray, List.set_cons_zero, List.set_cons_succ]; rotate_left
      · have hy1 : y1 = ag3 2 (-n) nob := hE.get (by kernel_rfl)
        subst hy1
        clear hS hE
        unfold ag.does
        go_simp
        first | exact HVV.out | exact congrArg Value.bool HVV.out | exact ⟨congrArg Value.bool HVV.out, rfl⟩
      refine ag.walk_val (by rfl) (fun W1 hS hE => ?_) ?_
      rotate_left; simp only [Act.put, List.setIfInBounds_toArray, List.set_cons_zero, List.set_cons_succ]; rotate_left
      · clear hS hE
        unfold ag.does
        go_simp
        try exact ⟨rfl, rfl⟩
      refine ag.walk_val (by rfl) (fun W1 hS hE => ?_) ?_
      rotate_left; simp only [Act.put, List.setIfInBounds_toArray, List.set_cons_zero, List.set_cons_succ]; rotate_left
      · clear hS hE
        unfold ag.does
        go_simp
        try exact ⟨rfl, rfl⟩
      refine ag.walk_nil (fun w7 hS hF' hP => ?_)
      clear hF' hP
      have HS := Lib.hid hS
      clear hS
      go_wp2
      go_ret
      exact ⟨rfl, after (after HBW.out HBb.out) HS.out⟩
    
set_option maxRecDepth 100000 in
set_option maxHeartbeats 4000000 in
theorem ones_c3 (s S : ByteArray) (hS : s.extract 0 (min (s.size : Int) 70).toNat = S) (h64 : (S.size : Int) ≤ 64) (hs : s.size ≤ maxLen)
    (m : Int) (W : World) (hm : W.cell? ⟨gMax, 0, none⟩ = some (.int .i64 m)) (hp : Pow10 W) :
    Calls Tryd.prog 5 #[.int .i64 3, .int .i64 0, .string s] W fun e w' => e = .returned (.bool true) ∧ Below W.heap.size W w' := by
  have HNOT : Hid (∀ W, Calls Tryd.prog 24 #[ag3 3 0 S] W fun e w' => e = .returned (.tuple #[ag3 0 0 nob, .int .i64 5]) ∧ Below W.heap.size W w') := Lib.hid (fun W => by have h := not_any 3 0 S W; rw [show notV ⟨3, 0, S⟩ = (null, 5) from rfl] at h; exact h)
  have HNEG : Hid (∀ W, Calls Tryd.prog 25 #[ag3 3 0 S] W fun e w' => e = .returned (.tuple #[ag3 0 0 nob, .int .i64 5]) ∧ Below W.heap.size W w') := Lib.hid (fun W => by have h := neg_any 3 0 S (by decide) W; rw [show negV ⟨3, 0, S⟩ = (null, 5) from rfl] at h; exact h)
  have HM := Lib.hid hm
  have HP := Lib.hid hp
  have HS := Lib.hid hS
  have hsz : S.size ≤ 70 := by rw [← hS, ByteArray.size_extract]; omega
  have HG := Lib.hid (fun W => good_any 3 0 S W)
  have HRG := Lib.hid (fun W => rgood_any 3 0 S W)
  have HSH := Lib.hid (fun W h1 h2 => show_any 3 0 S (by decide) m W h1 h2)
  have HRS := Lib.hid (fun W => rshow_any 3 0 S (by decide) W)
  have HT := Lib.hid (fun W => true_any 3 0 S W)
  have hgb : gB 3 0 S = true := by unfold gB; simp; omega
  have htb : veq6 3 0 S (ofB true).k (ofB true).n (ofB true).s = false := rfl
  rw [hgb] at HG HRG
  rw [htb] at HT
  obtain ⟨R, hR⟩ : ∃ R, showV 3 0 S = R := ⟨_, rfl⟩
  rw [hR] at HSH HRS
  clear hm hp hS hgb htb hR
  go_enter Tryd.func5, Tryd.ntmps5
  go_wp2_with (go_at_call 10; ((with_reducible refine (speaks m _ HM.out).mono ?_); rintro e w1 ⟨rfl, hw1⟩))
  have hm1 := cell_later hw1 HM.out
  have hp1 := pow10_later HP.out hw1
  have HB1 := Lib.hid hw1
  have HM1 := Lib.hid hm1; have HP1 := Lib.hid hp1
  clear hw1 hm1 hp1
  rw [HS.out]
  have F7 := Lib.hid ((Flds.new w1 TV [.int .i64 3, .int .i64 0, .string S]).alloc (.cells #[.int .i64 3, .int .i64 0, .string S] TR))
  have F8 : Hid (Flds ((w1.alloc (.cells #[.int .i64 3, .int .i64 0, .string S] TV)).alloc (.cells #[.int .i64 3, .int .i64 0, .string S] TR)) (w1.heap.size + 1) TR [.int .i64 3, .int .i64 0, .string S]) := Lib.hid (by
    have := Flds.new (w1.alloc (.cells #[.int .i64 3, .int .i64 0, .string S] TV)) TR [.int .i64 3, .int .i64 0, .string S]
    rw [World.size_alloc] at this
    exact this)
  have HBX := Lib.hid (below_alloc2 w1 (.cells #[.int .i64 3, .int .i64 0, .string S] TV) (.cells #[.int .i64 3, .int .i64 0, .string S] TR))
  have HMX := Lib.hid (cell_later HBX.out HM1.out)
  have HPX := Lib.hid (pow10_later HP1.out HBX.out)
  have HBW := Lib.hid (after HB1.out HBX.out)
  clear HBX HM1 HP1
  generalize (w1.alloc (.cells #[.int .i64 3, .int .i64 0, .string S] TV)).alloc (.cells #[.int .i64 3, .int .i64 0, .string S] TR) = X at *
  generalize w1.heap.size + 1 = g8 at *
  generalize w1.heap.size = g7 at *
  go_wp2_with fail
  refine ag.region_ag (fun W1 => Below X.heap.size X W1) (fun _ _ _ _ => True)
    [.val (.agg #[.int .i64 3, .int .i64 0, .string S]), .sat (fun v _ => v = .bool true) (fun _ w w' => Below w.heap.size w w'), .val (.agg #[.int .i64 3, .int .i64 0, .string S]), .sat (fun v _ => v = .bool true) (fun _ w w' => Below w.heap.size w w'), .val (.bool false), .val (.bool false), .val (.agg #[.int .i64 3, .int .i64 0, .string S]), .sat (fun v _ => v = .string R) (fun _ w w' => Below w.heap.size w w'), .val (.agg #[.int .i64 3, .int .i64 0, .string S]), .sat (fun v _ => v = .string R) (fun _ w w' => Below w.heap.size w w'), .val (.bool false), .val (.bool false), .val (.bool false), .val (.agg #[.int .i64 3, .int .i64 0, .string S]), .sat (fun v _ => v = .bool false) (fun _ w w' => Below w.heap.size w w'), .val (.int .i64 3), .val (.bool false), .val (.bool false), .val undef, .val undef, .val (.bool false), .val (.bool false), .val undef, .val undef, .val (.bool false), .val (.bool false), .val (.bool false)]
    (by kernel_rfl) (by kernel_rfl) rfl (⟨rfl, rfl, rfl, Nat.le_refl _, fun _ _ => rfl⟩) ?hst6 ?hk6 ?hwalk6
  case hst6 =>
    simp only [ag.Stab, ag.Row2, ag.Ok2, and_true]
    repeat' apply And.intro
    all_goals first
      | exact fun h => absurd rfl h
      | exact fun _ _ f v W W' hS hv _ ht => hv
      | trivial
  case hk6 =>
    simp only [ag.Keeps, and_true]
    exact ⟨fun f W1 W2 hS _ ht => hS.trans (ht.mono hS.size), fun f W1 W2 hS _ ht => hS.trans (ht.mono hS.size), fun f W1 W2 hS _ ht => hS.trans (ht.mono hS.size), fun f W1 W2 hS _ ht => hS.trans (ht.mono hS.size), fun f W1 W2 hS _ ht => hS.trans (ht.mono hS.size)⟩
  case hwalk6 =>
    refine ag.walk_val (by rfl) (fun W1 hS hE => ?_) ?_
    rotate_left; simp only [Act.put, List.setIfInBounds_toArray, List.set_cons_zero, List.set_cons_succ]; rotate_left
    · obtain ⟨q0, q1, q2⟩ := (F7.out.later hS).tri
      clear hS hE
      unfold ag.does
      go_simp
      try exact ⟨rfl, rfl⟩
    refine ag.walk_sat (by rfl) (fun W1 hS hE => ?_) (fun y1 => ?_)
    rotate_left; simp only [Act.put, List.setIfInBounds_toArray, List.set_cons_zero, List.set_cons_succ]; rotate_left
    · clear hS hE
      unfold ag.does
      go_simp
      refine (HG.out _).mono ?_
      rintro e W2 ⟨rfl, hb⟩
      exact ⟨_, rfl, rfl, hb, ag.News.none (fun _ _ => trivial) _ _⟩
    refine ag.walk_val (by rfl) (fun W1 hS hE => ?_) ?_
    rotate_left; simp only [Act.put, List.setIfInBounds_toArray, List.set_cons_zero, List.set_cons_succ]; rotate_left
    · obtain ⟨q0, q1, q2⟩ := (F8.out.later hS).tri
      clear hS hE
      unfold ag.does
      go_simp
      try exact ⟨rfl, rfl⟩
    refine ag.walk_sat (by rfl) (fun W1 hS hE => ?_) (fun y2 => ?_)
    rotate_left; simp only [Act.put, List.setIfInBounds_toArray, List.set_cons_zero, List.set_cons_succ]; rotate_left
    · clear hS hE
      unfold ag.does
      go_simp
      refine (HRG.out _).mono ?_
      rintro e W2 ⟨rfl, hb⟩
      exact ⟨_, rfl, rfl, hb, ag.News.none (fun _ _ => trivial) _ _⟩
    refine ag.walk_val (by rfl) (fun W1 hS hE => ?_) ?_
    rotate_left; simp only [Act.put, List.setIfInBounds_toArray, List.set_cons_zero, List.set_cons_succ]; rotate_left
    · have hy2 : y2 = .bool true := hE.get (by kernel_rfl)
      subst hy2
      have hy1 : y1 = .bool true := hE.tail.get (by kernel_rfl)
      subst hy1
      clear hS hE
      unfold ag.does
      go_simp
      try exact ⟨rfl, rfl⟩
    refine ag.walk_val (by rfl) (fun W1 hS hE => ?_) ?_
    rotate_left; simp only [Act.put, List.setIfInBounds_toArray, List.set_cons_zero, List.set_cons_succ]; rotate_left
    · clear hS hE
      unfold ag.does
      go_simp
      try exact ⟨rfl, rfl⟩
    refine ag.walk_val (by rfl) (fun W1 hS hE => ?_) ?_
    rotate_left; simp only [Act.put, List.setIfInBounds_toArray, List.set_cons_zero, List.set_cons_succ]; rotate_left
    · obtain ⟨q0, q1, q2⟩ := (F7.out.later hS).tri
      clear hS hE
      unfold ag.does
      go_simp
      try exact ⟨rfl, rfl⟩
    refine ag.walk_sat (by rfl) (fun W1 hS hE => ?_) (fun y3 => ?_)
    rotate_left; simp only [Act.put, List.setIfInBounds_toArray, List.set_cons_zero, List.set_cons_succ]; rotate_left
    · have HMX1 := Lib.hid (cell_later hS HMX.out)
      have HPX1 := Lib.hid (pow10_later HPX.out hS)
      clear hS hE
      unfold ag.does
      go_simp
      refine (HSH.out _ HMX1.out HPX1.out).mono ?_
      rintro e W2 ⟨rfl, hb⟩
      exact ⟨_, rfl, rfl, hb, ag.News.none (fun _ _ => trivial) _ _⟩
    refine ag.walk_val (by rfl) (fun W1 hS hE => ?_) ?_
    rotate_left; simp only [Act.put, List.setIfInBounds_toArray, List.set_cons_zero, List.set_cons_succ]; rotate_left
    · obtain ⟨q0, q1, q2⟩ := (F8.out.later hS).tri
      clear hS hE
      unfold ag.does
      go_simp
      try exact ⟨rfl, rfl⟩
    refine ag.walk_sat (by rfl) (fun W1 hS hE => ?_) (fun y4 => ?_)
    rotate_left; simp only [Act.put, List.setIfInBounds_toArray, List.set_cons_zero, List.set_cons_succ]; rotate_left
    · clear hS hE
      unfold ag.does
      go_simp
      refine (HRS.out _).mono ?_
      rintro e W2 ⟨rfl, hb⟩
      exact ⟨_, rfl, rfl, hb, ag.News.none (fun _ _ => trivial) _ _⟩
    refine ag.walk_val (by rfl) (fun W1 hS hE => ?_) ?_
    rotate_left; simp only [Act.put, List.setIfInBounds_toArray, List.set_cons_zero, List.set_cons_succ]; rotate_left
    · have hy4 : y4 = .string R := hE.get (by kernel_rfl)
      subst hy4
      have hy3 : y3 = .string R := hE.tail.get (by kernel_rfl)
      subst hy3
      clear hS hE
      unfold ag.does
      go_simp
      try exact ⟨rfl, rfl⟩
    refine ag.walk_val (by rfl) (fun W1 hS hE => ?_) ?_
    rotate_left; simp only [Act.put, List.setIfInBounds_toArray, List.set_cons_zero, List.set_cons_succ]; rotate_left
    · clear hS hE
      unfold ag.does
      go_simp
      try exact ⟨rfl, rfl⟩
    refine ag.walk_val (by rfl) (fun W1 hS hE => ?_) ?_
    rotate_left; simp only [Act.put, List.setIfInBounds_toArray, List.set_cons_zero, List.set_cons_succ]; rotate_left
    · clear hS hE
      unfold ag.does
      go_simp
      try exact ⟨rfl, rfl⟩
    refine ag.walk_val (by rfl) (fun W1 hS hE => ?_) ?_
    rotate_left; simp only [Act.put, List.setIfInBounds_toArray, List.set_cons_zero, List.set_cons_succ]; rotate_left
    · obtain ⟨q0, q1, q2⟩ := (F7.out.later hS).tri
      clear hS hE
      unfold ag.does
      go_simp
      try exact ⟨rfl, rfl⟩
    refine ag.walk_sat (by rfl) (fun W1 hS hE => ?_) (fun y5 => ?_)
    rotate_left; simp only [Act.put, List.setIfInBounds_toArray, List.set_cons_zero, List.set_cons_succ]; rotate_left
    · clear hS hE
      unfold ag.does
      go_simp
      refine (HT.out _).mono ?_
      rintro e W2 ⟨rfl, hb⟩
      exact ⟨_, rfl, rfl, hb, ag.News.none (fun _ _ => trivial) _ _⟩
    refine ag.walk_val (by rfl) (fun W1 hS hE => ?_) ?_
    rotate_left; simp only [Act.put, List.setIfInBounds_toArray, List.set_cons_zero, List.set_cons_succ]; rotate_left
    · clear hS hE
      unfold ag.does
      go_simp
      try exact ⟨rfl, rfl⟩
    refine ag.walk_val (by rfl) (fun W1 hS hE => ?_) ?_
    rotate_left; simp only [Act.put, List.setIfInBounds_toArray, List.set_cons_zero, List.set_cons_succ]; rotate_left
    · clear hS hE
      unfold ag.does
      go_simp
      try exact ⟨rfl, rfl⟩
    refine ag.walk_val (by rfl) (fun W1 hS hE => ?_) ?_
    rotate_left; simp only [Act.put, List.setIfInBounds_toArray, List.set_cons_zero, List.set_cons_succ]; rotate_left
    · clear hS hE
      unfold ag.does
      go_simp
      try exact ⟨rfl, rfl⟩
    refine ag.walk_skip (by rfl) ?_
    simp only [Act.put, List.setIfInBounds_toArray, List.set_cons_zero, List.set_cons_succ]
    refine ag.walk_skip (by rfl) ?_
    simp only [Act.put, List.setIfInBounds_toArray, List.set_cons_zero, List.set_cons_succ]
    refine ag.walk_val (by rfl) (fun W1 hS hE => ?_) ?_
    rotate_left; simp only [Act.put, List.setIfInBounds_toArray, List.set_cons_zero, List.set_cons_succ]; rotate_left
    · clear hS hE
      unfold ag.does
      go_simp
      try exact ⟨rfl, rfl⟩
    refine ag.walk_val (by rfl) (fun W1 hS hE => ?_) ?_
    rotate_left; simp only [Act.put, List.setIfInBounds_toArray, List.set_cons_zero, List.set_cons_succ]; rotate_left
    · clear hS hE
      unfold ag.does
      go_simp
      try exact ⟨rfl, rfl⟩
    refine ag.walk_skip (by rfl) ?_
    simp only [Act.put, List.setIfInBounds_toArray, List.set_cons_zero, List.set_cons_succ]
    refine ag.walk_skip (by rfl) ?_
    simp only [Act.put, List.setIfInBounds_toArray, List.set_cons_zero, List.set_cons_succ]
    refine ag.walk_val (by rfl) (fun W1 hS hE => ?_) ?_
    rotate_left; simp only [Act.put, List.setIfInBounds_toArray, List.set_cons_zero, List.set_cons_succ]; rotate_left
    · clear hS hE
      unfold ag.does
      go_simp
      try exact ⟨rfl, rfl⟩
    refine ag.walk_val (by rfl) (fun W1 hS hE => ?_) ?_
    rotate_left; simp only [Act.put, List.setIfInBounds_toArray, List.set_cons_zero, List.set_cons_succ]; rotate_left
    · have hy5 : y5 = .bool false := hE.get (by kernel_rfl)
      subst hy5
      clear hS hE
      unfold ag.does
      go_simp
      try exact ⟨rfl, rfl⟩
    refine ag.walk_val (by rfl) (fun W1 hS hE => ?_) ?_
    rotate_left; simp only [Act.put, List.setIfInBounds_toArray, List.set_cons_zero, List.set_cons_succ]; rotate_left
    · clear hS hE
      unfold ag.does
      go_simp
      try exact ⟨rfl, rfl⟩
    refine ag.walk_nil (fun w7 hS hF' hP => ?_)
    clear hF' hP
    have HS := Lib.hid hS
    clear hS
    have hv1 : veq6 3 0 S 3 0 S = true := veq_same 3 0 S
    have hv2 : veq6 2 0 ByteArray.empty 2 0 ⟨#[]⟩ = true := veq_same 2 0 ⟨#[]⟩
    obtain ⟨Z, hZ⟩ : ∃ Z, Z = w7 := ⟨_, rfl⟩
    subst hZ
    go_upto_region 10 with (first | (go_at_call 21; ((with_reducible refine (ofText_any _ _).mono ?_); rintro e wq ⟨rfl, hbq⟩; have hBq : Below Z.heap.size Z wq := after (by first | assumption | exact Below.refl _ _) hbq; clear hbq)) | (go_at_call 22; ((with_reducible refine (ofInt_any _ _).mono ?_); rintro e wq ⟨rfl, hbq⟩; have hBq : Below Z.heap.size Z wq := after (by first | assumption | exact Below.refl _ _) hbq; clear hbq)) | (go_at_call 23; ((with_reducible refine (ofBool_any _ _).mono ?_); rintro e wq ⟨rfl, hbq⟩; have hBq : Below Z.heap.size Z wq := after (by first | assumption | exact Below.refl _ _) hbq; clear hbq)) | (go_at_call 20; ((with_reducible refine (true_ofB _ _).mono ?_); rintro e wq ⟨rfl, hbq⟩; have hBq : Below Z.heap.size Z wq := after (by first | assumption | exact Below.refl _ _) hbq; clear hbq)))
    have hq := HS.out.trans (hBq.mono HS.out.size)
    obtain ⟨q0, q1, q2⟩ := (F8.out.later hq).tri
    have HQ := Lib.hid hq
    clear hq hBq hv1 hv2
    go_wp2_with fail
    (with_reducible refine (HRG.out _).mono ?_); rintro e wr ⟨rfl, hbr⟩
    have hr := HQ.out.trans (hbr.mono HQ.out.size)
    clear q0 q1 q2 hbr
    obtain ⟨q0, q1, q2⟩ := (F7.out.later hr).tri
    have HR1 := Lib.hid hr
    clear hr
    go_wp2_with fail
    (with_reducible refine (HNOT.out _).mono ?_); rintro e ws ⟨rfl, hbs⟩
    have hs1 := HR1.out.trans (hbs.mono HR1.out.size)
    have F7a := Lib.hid ((F7.out.later hs1).alloc (.cells #[.int .i64 0, .int .i64 0, .string nob] TV))
    have F9a := Lib.hid (Flds.new ws TV [.int .i64 0, .int .i64 0, .string nob])
    have HBa := Lib.hid (hs1.alloc hs1.size (.cells #[.int .i64 0, .int .i64 0, .string nob] TV))
    clear q0 q1 q2 hbs hs1
    go_upto_region 13 with fail
    generalize ws.alloc (.cells #[.int .i64 0, .int .i64 0, .string nob] TV) = A1 at *
    generalize ws.heap.size = g9 at *
    obtain ⟨q0, q1, q2⟩ := F7a.out.tri
    go_wp2_with fail
    (with_reducible refine (HNEG.out _).mono ?_); rintro e wt ⟨rfl, hbt⟩
    have F7b := Lib.hid ((F7a.out.later hbt).alloc (.cells #[.int .i64 0, .int .i64 0, .string nob] TV))
    have F9b := Lib.hid ((F9a.out.later hbt).alloc (.cells #[.int .i64 0, .int .i64 0, .string nob] TV))
    have F11 := Lib.hid (Flds.new wt TV [.int .i64 0, .int .i64 0, .string nob])
    have ht1 := HBa.out.trans (hbt.mono HBa.out.size)
    have HBb := Lib.hid (ht1.alloc ht1.size (.cells #[.int .i64 0, .int .i64 0, .string nob] TV))
    clear q0 q1 q2 hbt ht1
    go_upto_region 14 with fail
    generalize wt.alloc (.cells #[.int .i64 0, .int .i64 0, .string nob] TV) = A2 at *
    generalize wt.heap.size = g11 at *
    obtain ⟨q0, q1, q2⟩ := F7b.out.tri
    obtain ⟨r0, r1, r2⟩ := F9b.out.tri
    obtain ⟨x0, x1, x2⟩ := F11.out.tri
    have l7 := F7b.out.lt
    have l9 := F9b.out.lt
    have l11 := F11.out.lt
    go_wp2
    go_ret
    exact ⟨rfl, after HBW.out HBb.out⟩
theorem nob_or (S : ByteArray) : S = nob ∨ S.toList.isEmpty = false := by
  cases h : S.toList.isEmpty
  · exact .inr rfl
  · refine .inl (bytes_ext ?_)
    have h0 : nob.toList = [] := by rw [ByteArray.toList_eq]
    rw [h0]; exact List.isEmpty_iff.1 h
/-- THE LAW, at any value -/
theorem ones_walk (k n : Int) (s : ByteArray) (hn : -9223372036854775808 ≤ n ∧ n ≤ 9223372036854775807) (hs : s.size ≤ maxLen) (m : Int) (W : World) (hm : W.cell? ⟨gMax, 0, none⟩ = some (.int .i64 m)) (hp : Pow10 W) :
    Calls Tryd.prog 5 #[.int .i64 k, .int .i64 n, .string s] W fun e w' => e = .returned (.bool true) ∧ Below W.heap.size W w' := by
  obtain ⟨S, hS⟩ : ∃ S, s.extract 0 (min (s.size : Int) 70).toNat = S := ⟨_, rfl⟩
  cases hg : gB k n S
  · by_cases h1 : k = 1
    · subst h1
      by_cases n1 : n = 1
      · subst n1
        have he : S.toList.isEmpty = false := by unfold gB at hg; simpa using hg
        exact ones_bad_c s S hS hg he hs m W hm hp
      · exact ones_bad_b n s S hS hg (by simpa using n1) hn hs m W hm hp
    · exact ones_bad_a k n s S hS hg (by simpa using h1) hn hs m W hm hp
  · rcases gB_true hg with ⟨rfl, rfl, h⟩ | ⟨rfl, rfl | rfl, h⟩ | ⟨rfl, h⟩ | ⟨rfl, rfl, h⟩
    · exact ones_c0 s S hS h hs m W hm hp
    · exact ones_c10 s S hS h hs m W hm hp
    · exact ones_c11 s S hS h hs m W hm hp
    · by_cases hm' : n = -9223372036854775808
      · subst hm'; exact ones_c2m s S hS h hs m W hm hp
      · exact ones_c2 n s S hS h (by simpa using hm') hn hs m W hm hp
    · exact ones_c3 s S hS h hs m W hm hp
end Go.Proofs.YtpkkhbmlclicfaaDoor.val
