/- A text shown; the first test of the laws on values. -/
import Derived.Test.YtpkkhbmlclicfaaDoorValueE
import Derived.Test.YtpkkhbmlclicfaaDoorShelf
import Derived.Lib.SplitLaws
namespace Go.Proofs.YtpkkhbmlclicfaaDoor.val
set_option linter.unusedVariables false
open Go.RowKit
attribute [local go_sem high] run_eqlV run_neqV
attribute [local go_sem] ag.upon_value ag.upon_skip ag.upon_enter
attribute [local go_sem] Oper.semAt_some

abbrev gMax : Nat := 1
abbrev q1 : ByteArray := ⟨#[39]⟩
abbrev q2 : ByteArray := ⟨#[39, 39]⟩
/-- a text between quotes -/
theorem replaceK_len (old new : List UInt8) : ∀ (k : Nat) (s : List UInt8), (Lib.replaceK old new k s).length ≤ s.length + k * new.length
  | 0, s => by simp [Lib.replaceK]
  | k + 1, s => by
    unfold Lib.replaceK
    split
    · omega
    · have ih := replaceK_len old new k (s.drop ((Lib.index s old).toNat + old.length))
      rw [List.length_drop] at ih
      rw [List.length_append, List.length_append, List.length_take, Nat.succ_mul]
      omega
/-- what stands between the quotes -/
def inner (s : ByteArray) : ByteArray := ⟨(Lib.replaceAll s.data.toList [39] [39, 39]).toArray⟩
def quote (s : ByteArray) : ByteArray := q1 ++ inner s ++ q1
theorem inner_len (s : ByteArray) : (inner s).size ≤ 3 * s.size := by
  have h1 := Lib.countB_le q1 (by decide) s.size s (Nat.le_refl _)
  have h2 := replaceK_len [39] [39, 39] (Lib.count s.data.toList [39]) s.data.toList
  have e : Lib.replaceAll s.data.toList [39] [39, 39] = Lib.replaceK [39] [39, 39] (Lib.count s.data.toList [39]) s.data.toList := by
    unfold Lib.replaceAll Lib.replace
    rw [if_neg (by decide)]
    unfold Lib.replaceNum
    rw [if_pos (.inl (by decide))]
  have h3 : (inner s).size = (Lib.replaceAll s.data.toList [39] [39, 39]).length := by unfold inner; rw [← ByteArray.size_data]; simp
  have h4 : s.data.toList.length = s.size := by rw [← ByteArray.size_data]; simp
  have h5 : Lib.countB s q1 = Lib.count s.data.toList [39] := rfl
  rw [h3, e]
  rw [h5] at h1
  rw [h4] at h2
  simp only [List.length_cons, List.length_nil] at h2
  omega
set_option maxHeartbeats 1000000 in
theorem show_txt (s : ByteArray) (hs : (s.size : Int) ≤ 64) (m : Int) (W : World) (hm : W.cell? ⟨gMax, 0, none⟩ = some (.int .i64 m)) :
    Calls Tryd.prog 18 #[ag3 3 0 s] W fun e w' => e = .returned (.string (quote s)) ∧ Below W.heap.size W w' := by
  have hG := Lib.hid (good_txt s hs)
  have hT := Lib.hid (true_any 3 0 s)
  have hv : veq6 3 0 s (ofB true).k (ofB true).n (ofB true).s = false := rfl
  rw [hv] at hT
  have h4 : s.size < 4294967281 := by omega
  have hc := Lib.countB_le q1 (by decide) s.size s (Nat.le_refl _)
  have hl : s.size + Lib.countB s q1 * q2.size ≤ 140737488355328 := by
    have : q2.size = 2 := rfl
    rw [this]; omega
  have HM := Lib.hid hm
  have HR := Lib.hid (fun (w : World) (hw : w.cell? ⟨gMax, 0, none⟩ = some (.int .i64 m)) => Tryd.strings_ReplaceAll s q1 q2 m w h4 hw (by decide) hl)
  have hR' : ∀ (w : World) (hw : w.cell? ⟨gMax, 0, none⟩ = some (.int .i64 m)), Calls Tryd.prog 52 #[.string s, .string q1, .string q2] w fun e w' => e = .returned (.string (inner s)) ∧ Below w.heap.size w w' := HR.out
  have hi := inner_len s
  have hq : quote s = q1 ++ inner s ++ q1 := rfl
  rw [hq]
  clear HR hq
  have HR := Lib.hid hR'
  clear hR'
  generalize inner s = r at *
  have r0 : (0 : Int) ≤ (r.size : Int) := by omega
  have r1 : (r.size : Int) ≤ 192 := by omega
  have r2 : r.size ≤ 192 := by omega
  clear hv h4 hc hl hm hi
  go_enter Tryd.func18, Tryd.ntmps18
  go_wp2_with (first | (go_at_call 16; ((with_reducible refine (hG.out _).mono ?_); rintro e w1 ⟨rfl, hb1⟩; have hB1 : Below W.heap.size W w1 := after (by (repeat' (first | assumption | exact Below.refl _ _ | apply Below.setCell | apply Below.alloc)); all_goals (first | omega | (simp; omega) | (simp; done))) hb1; obtain ⟨hc1, hf1⟩ := bcell hb1; have hz1 := hb1.size; (try simp at hz1); (try simp only [World.size_alloc] at hc1 hf1); have hy0 : W.heap.size < w1.heap.size := (by omega))) | (go_at_call 20; ((with_reducible refine (hT.out _).mono ?_); rintro e w1 ⟨rfl, hb1⟩; have hB1 : Below W.heap.size W w1 := after (by (repeat' (first | assumption | exact Below.refl _ _ | apply Below.setCell | apply Below.alloc)); all_goals (first | omega | (simp; omega) | (simp; done))) hb1; obtain ⟨hc1, hf1⟩ := bcell hb1; have hz1 := hb1.size; (try simp at hz1); (try simp only [World.size_alloc] at hc1 hf1); have hy0 : W.heap.size < w1.heap.size := (by omega))) | (go_at_call 52; ((with_reducible refine (HR.out _ (cell_later hB1 HM.out)).mono ?_); rintro e w1 ⟨rfl, hb1⟩; have hB1 : Below W.heap.size W w1 := after (by (repeat' (first | assumption | exact Below.refl _ _ | apply Below.setCell | apply Below.alloc)); all_goals (first | omega | (simp; omega) | (simp; done))) hb1; obtain ⟨hc1, hf1⟩ := bcell hb1; have hz1 := hb1.size; (try simp at hz1); (try simp only [World.size_alloc] at hc1 hf1); have hy0 : W.heap.size < w1.heap.size := (by omega))))
  go_ret
  exact ⟨rfl, hB1⟩

theorem good_null : Good null := .inl ⟨rfl, rfl, rfl⟩
theorem good_ofB (b : Bool) : Good (ofB b) := by cases b; exact .inr (.inl ⟨rfl, .inl rfl, rfl⟩); exact .inr (.inl ⟨rfl, .inr rfl, rfl⟩)
theorem good_ofN (n : Int) (h : -9223372036854775808 ≤ n ∧ n ≤ 9223372036854775807) : Good (ofN n) := .inr (.inr (.inl ⟨rfl, rfl, h.1, h.2⟩))
theorem do_ab (op : Int) (a b : V) (W : World) (ga : Good a) (gb : Good b) : Calls Tryd.prog 12 #[.int .i64 op, vv a, vv b] W fun e w' => e = .returned (.tuple #[vv (doV op a b).1, .int .i64 (doV op a b).2]) ∧ Below W.heap.size W w' := do_any op a.k a.n b.k b.n a.s b.s W ga gb
abbrev its : ByteArray := ⟨#[105, 116, 39, 115]⟩
abbrev itq : ByteArray := ⟨#[39, 105, 116, 39, 39, 115, 39]⟩
set_option maxRecDepth 100000 in
set_option maxHeartbeats 2000000 in
theorem speaks (m : Int) (W : World) (hm : W.cell? ⟨gMax, 0, none⟩ = some (.int .i64 m)) : Calls Tryd.prog 10 #[] W fun e w' => e = .returned (.bool true) ∧ Below W.heap.size W w' := by
  have e1 : doV 7 (ofN 2) (ofN 3) = (ofN 5, 0) := rfl
  have e2 : doV 13 null (ofB false) = (ofB false, 0) := by
    have hl : logicV 13 null (ofB false) = ofB (13 == (14 : Int)) := logic_yes (.inr (veq_self (ofB false)))
    unfold doV
    rw [if_neg (by decide), if_neg (by decide), if_pos (by decide), hl]
    rfl
  have h1 := fun W => do_ab 7 (ofN 2) (ofN 3) W (good_ofN 2 (by decide)) (good_ofN 3 (by decide))
  have h2 := fun W => do_ab 13 null (ofB false) W good_null (good_ofB false)
  rw [e1] at h1
  rw [e2] at h2
  have h1' : ∀ W, Calls Tryd.prog 12 #[.int .i64 7, ag3 2 2 ByteArray.empty, ag3 2 3 ByteArray.empty] W fun e w' => e = .returned (.tuple #[ag3 2 5 ByteArray.empty, .int .i64 0]) ∧ Below W.heap.size W w' := h1
  have h2' : ∀ W, Calls Tryd.prog 12 #[.int .i64 13, ag3 0 0 ⟨#[]⟩, ag3 1 0 ByteArray.empty] W fun e w' => e = .returned (.tuple #[ag3 1 0 ByteArray.empty, .int .i64 0]) ∧ Below W.heap.size W w' := h2
  have hb' : ∀ W, Calls Tryd.prog 23 #[.bool false] W fun e w' => e = .returned (ag3 1 0 ByteArray.empty) ∧ Below W.heap.size W w' := ofBool_any false
  have H1 := Lib.hid h1'; have H2 := Lib.hid h2'; have HB := Lib.hid hb'
  have HM := Lib.hid hm
  clear e1 e2 h1 h2 hm h1' h2' hb'
  have hb2 : ∀ W, Calls Tryd.prog 21 #[.string its] W fun e w' => e = .returned (ag3 3 0 its) ∧ Below W.heap.size W w' := ofText_any its
  have hq : quote its = itq := by kernel_rfl
  have hs' : ∀ W, W.cell? ⟨gMax, 0, none⟩ = some (.int .i64 m) → Calls Tryd.prog 18 #[ag3 3 0 its] W fun e w' => e = .returned (.string itq) ∧ Below W.heap.size W w' := fun W hm => hq ▸ show_txt its (by decide) m W hm
  have HO := Lib.hid hb2; have HS0 := Lib.hid hs'
  have HV := Lib.hid (veq_same 1 0 ByteArray.empty)
  clear hb2 hq hs'
  go_enter Tryd.func10, Tryd.ntmps10
  go_wp2_with fail
  (with_reducible refine (ofInt_any 2 _).mono ?_); rintro e w1 ⟨rfl, hb1⟩
  go_wp2_with fail
  (with_reducible refine (ofInt_any 3 _).mono ?_); rintro e w2 ⟨rfl, hb2⟩
  go_wp2_with fail
  (with_reducible refine (H1.out _).mono ?_); rintro e w3 ⟨rfl, hb3⟩
  go_wp2_with fail
  (with_reducible refine (HB.out _).mono ?_); rintro e w4 ⟨rfl, hb4⟩
  go_wp2_with fail
  (with_reducible refine (H2.out _).mono ?_); rintro e w5 ⟨rfl, hb5⟩
  go_wp2_with fail
  have hB : Below W.heap.size W (w5.alloc (.cells #[.int .i64 1, .int .i64 0, .string ByteArray.empty] TV)) := by
    have h3 := after (after hb1 hb2) hb3
    have h4 := after (h3.alloc h3.size (.cells #[.int .i64 2, .int .i64 5, .string ByteArray.empty] TV)) hb4
    have h5 := after h4 hb5
    exact h5.alloc h5.size _
  have h35 : Below (w3.alloc (.cells #[.int .i64 2, .int .i64 5, .string ByteArray.empty] TV)).heap.size (w3.alloc (.cells #[.int .i64 2, .int .i64 5, .string ByteArray.empty] TV)) (w5.alloc (.cells #[.int .i64 1, .int .i64 0, .string ByteArray.empty] TV)) := by
    have h5 := after hb4 hb5
    exact h5.alloc h5.size _
  have hX : ∀ W', Below (w5.alloc (.cells #[.int .i64 1, .int .i64 0, .string ByteArray.empty] TV)).heap.size (w5.alloc (.cells #[.int .i64 1, .int .i64 0, .string ByteArray.empty] TV)) W' →
      (W'.cell? ⟨w3.heap.size, 0, none⟩ = some (.int .i64 2) ∧ W'.cell? ⟨w3.heap.size, 1, none⟩ = some (.int .i64 5) ∧ W'.cell? ⟨w3.heap.size, 2, none⟩ = some (.string ByteArray.empty)) ∧
      (W'.cell? ⟨w5.heap.size, 0, none⟩ = some (.int .i64 1) ∧ W'.cell? ⟨w5.heap.size, 1, none⟩ = some (.int .i64 0) ∧ W'.cell? ⟨w5.heap.size, 2, none⟩ = some (.string ByteArray.empty)) := fun W' hS =>
    ⟨box_later w3 2 5 ByteArray.empty W' (after h35 hS), box_later w5 1 0 ByteArray.empty W' hS⟩
  have HX := Lib.hid hX
  have HBX := Lib.hid hB
  have HMX := Lib.hid (cell_later hB HM.out)
  clear hX hB h35 hb1 hb2 hb3 hb4 hb5
  generalize w5.alloc (.cells #[.int .i64 1, .int .i64 0, .string ByteArray.empty] TV) = X at *
  generalize w3.heap.size = p1 at *
  generalize w5.heap.size = p3 at *
  refine ag.region_ag (fun W1 => Below X.heap.size X W1) (fun _ _ _ _ => True)
    [.val (.int .i64 0), .val (.bool true), .val (.bool true), .val (.pointer (some ⟨p1, 1, none⟩)), .val (.int .i64 5), .val (.bool true), .val (.bool true), .val (.bool true), .val (.pointer (some ⟨p1, 0, none⟩)), .val (.int .i64 2), .val (.bool true), .val (.bool true), .val (.bool true), .val (.int .i64 0), .val (.bool true), .val (.bool true), .val (.bool true), .val (ag3 1 0 ByteArray.empty), .sat (fun v _ => v = ag3 1 0 ByteArray.empty) (fun _ w w' => Below w.heap.size w w'), .val (.bool true), .val (.bool true), .val (.bool true), .val (.pointer (some ⟨p3, 0, none⟩)), .val (.int .i64 1), .val (.bool true), .val (.bool true), .val (.bool true), .sat (fun v _ => v = ag3 3 0 its) (fun _ w w' => Below w.heap.size w w'), .sat (fun v _ => v = .string itq) (fun _ w w' => Below w.heap.size w w'), .val (.bool true), .val (.bool true), .val (.bool true)]
    (by kernel_rfl) (by kernel_rfl) rfl (⟨rfl, rfl, rfl, Nat.le_refl _, fun _ _ => rfl⟩) ?hst ?hk ?hwalk
  case hst =>
    simp only [ag.Stab, ag.Row2, ag.Ok2, and_true]
    repeat' apply And.intro
    all_goals first
      | exact fun h => absurd rfl h
      | exact fun _ _ f v W W' hS hv _ ht => hv
      | trivial
  case hk =>
    simp only [ag.Keeps, and_true]
    exact ⟨fun f W1 W2 hS _ ht => hS.trans (ht.mono hS.size), fun f W1 W2 hS _ ht => hS.trans (ht.mono hS.size), fun f W1 W2 hS _ ht => hS.trans (ht.mono hS.size)⟩
  case hwalk =>
    refine ag.walk_val (by rfl) (fun W1 hS hE => ?_) ?_
    rotate_left; simp only [Act.put, List.setIfInBounds_toArray, List.set_cons_zero, List.set_cons_succ]; rotate_left
    · clear hS hE
      unfold ag.does
      go_simp
      try exact ⟨rfl, rfl⟩
    refine ag.walk_val (by rfl) (fun W1 hS hE => ?_) ?_
    rotate_left; simp only [Act.put, List.setIfInBounds_toArray, List.set_cons_zero, List.set_cons_succ]; rotate_left
    · clear hS hE
      unfold ag.does
      go_simp
      try exact ⟨rfl, rfl⟩
    refine ag.walk_val (by rfl) (fun W1 hS hE => ?_) ?_
    rotate_left; simp only [Act.put, List.setIfInBounds_toArray, List.set_cons_zero, List.set_cons_succ]; rotate_left
    · clear hS hE
      unfold ag.does
      go_simp
      try exact ⟨rfl, rfl⟩
    refine ag.walk_val (by rfl) (fun W1 hS hE => ?_) ?_
    rotate_left; simp only [Act.put, List.setIfInBounds_toArray, List.set_cons_zero, List.set_cons_succ]; rotate_left
    · clear hS hE
      unfold ag.does
      go_simp
      try exact ⟨rfl, rfl⟩
    refine ag.walk_val (by rfl) (fun W1 hS hE => ?_) ?_
    rotate_left; simp only [Act.put, List.setIfInBounds_toArray, List.set_cons_zero, List.set_cons_succ]; rotate_left
    · have c3 := HX.out W1 hS
      obtain ⟨⟨c0, c1, c2⟩, d0, d1, d2⟩ := c3
      clear hS hE
      unfold ag.does
      go_simp
      try exact ⟨rfl, rfl⟩
    refine ag.walk_val (by rfl) (fun W1 hS hE => ?_) ?_
    rotate_left; simp only [Act.put, List.setIfInBounds_toArray, List.set_cons_zero, List.set_cons_succ]; rotate_left
    · clear hS hE
      unfold ag.does
      go_simp
      try exact ⟨rfl, rfl⟩
    refine ag.walk_val (by rfl) (fun W1 hS hE => ?_) ?_
    rotate_left; simp only [Act.put, List.setIfInBounds_toArray, List.set_cons_zero, List.set_cons_succ]; rotate_left
    · clear hS hE
      unfold ag.does
      go_simp
      try exact ⟨rfl, rfl⟩
    refine ag.walk_val (by rfl) (fun W1 hS hE => ?_) ?_
    rotate_left; simp only [Act.put, List.setIfInBounds_toArray, List.set_cons_zero, List.set_cons_succ]; rotate_left
    · clear hS hE
      unfold ag.does
      go_simp
      try exact ⟨rfl, rfl⟩
    refine ag.walk_val (by rfl) (fun W1 hS hE => ?_) ?_
    rotate_left; simp only [Act.put, List.setIfInBounds_toArray, List.set_cons_zero, List.set_cons_succ]; rotate_left
    · clear hS hE
      unfold ag.does
      go_simp
      try exact ⟨rfl, rfl⟩
    refine ag.walk_val (by rfl) (fun W1 hS hE => ?_) ?_
    rotate_left; simp only [Act.put, List.setIfInBounds_toArray, List.set_cons_zero, List.set_cons_succ]; rotate_left
    · have c3 := HX.out W1 hS
      obtain ⟨⟨c0, c1, c2⟩, d0, d1, d2⟩ := c3
      clear hS hE
      unfold ag.does
      go_simp
      try exact ⟨rfl, rfl⟩
    refine ag.walk_val (by rfl) (fun W1 hS hE => ?_) ?_
    rotate_left; simp only [Act.put, List.setIfInBounds_toArray, List.set_cons_zero, List.set_cons_succ]; rotate_left
    · clear hS hE
      unfold ag.does
      go_simp
      try exact ⟨rfl, rfl⟩
    refine ag.walk_val (by rfl) (fun W1 hS hE => ?_) ?_
    rotate_left; simp only [Act.put, List.setIfInBounds_toArray, List.set_cons_zero, List.set_cons_succ]; rotate_left
    · clear hS hE
      unfold ag.does
      go_simp
      try exact ⟨rfl, rfl⟩
    refine ag.walk_val (by rfl) (fun W1 hS hE => ?_) ?_
    rotate_left; simp only [Act.put, List.setIfInBounds_toArray, List.set_cons_zero, List.set_cons_succ]; rotate_left
    · clear hS hE
      unfold ag.does
      go_simp
      try exact ⟨rfl, rfl⟩
    refine ag.walk_val (by rfl) (fun W1 hS hE => ?_) ?_
    rotate_left; simp only [Act.put, List.setIfInBounds_toArray, List.set_cons_zero, List.set_cons_succ]; rotate_left
    · clear hS hE
      unfold ag.does
      go_simp
      try exact ⟨rfl, rfl⟩
    refine ag.walk_val (by rfl) (fun W1 hS hE => ?_) ?_
    rotate_left; simp only [Act.put, List.setIfInBounds_toArray, List.set_cons_zero, List.set_cons_succ]; rotate_left
    · clear hS hE
      unfold ag.does
      go_simp
      try exact ⟨rfl, rfl⟩
    refine ag.walk_val (by rfl) (fun W1 hS hE => ?_) ?_
    rotate_left; simp only [Act.put, List.setIfInBounds_toArray, List.set_cons_zero, List.set_cons_succ]; rotate_left
    · clear hS hE
      unfold ag.does
      go_simp
      try exact ⟨rfl, rfl⟩
    refine ag.walk_val (by rfl) (fun W1 hS hE => ?_) ?_
    rotate_left; simp only [Act.put, List.setIfInBounds_toArray, List.set_cons_zero, List.set_cons_succ]; rotate_left
    · clear hS hE
      unfold ag.does
      go_simp
      try exact ⟨rfl, rfl⟩
    refine ag.walk_val (by rfl) (fun W1 hS hE => ?_) ?_
    rotate_left; simp only [Act.put, List.setIfInBounds_toArray, List.set_cons_zero, List.set_cons_succ]; rotate_left
    · have c3 := HX.out W1 hS
      obtain ⟨⟨c0, c1, c2⟩, d0, d1, d2⟩ := c3
      clear hS hE
      unfold ag.does
      go_simp
      try exact ⟨rfl, rfl⟩
    refine ag.walk_sat (by rfl) (fun W1 hS hE => ?_) (fun y1 => ?_)
    rotate_left; simp only [Act.put, List.setIfInBounds_toArray, List.set_cons_zero, List.set_cons_succ]; rotate_left
    · clear hS hE
      unfold ag.does
      go_simp
      refine (HB.out _).mono ?_
      rintro e W2 ⟨rfl, hb⟩
      exact ⟨_, rfl, rfl, hb, ag.News.none (fun _ _ => trivial) _ _⟩
    refine ag.walk_val (by rfl) (fun W1 hS hE => ?_) ?_
    rotate_left; simp only [Act.put, List.setIfInBounds_toArray, List.set_cons_zero, List.set_cons_succ]; rotate_left
    · have h1 : y1 = ag3 1 0 ByteArray.empty := hE.get (by kernel_rfl)
      subst h1
      clear hS hE
      unfold ag.does
      go_simp
      first | exact HV.out | exact ⟨HV.out, rfl⟩
    refine ag.walk_val (by rfl) (fun W1 hS hE => ?_) ?_
    rotate_left; simp only [Act.put, List.setIfInBounds_toArray, List.set_cons_zero, List.set_cons_succ]; rotate_left
    · clear hS hE
      unfold ag.does
      go_simp
      try exact ⟨rfl, rfl⟩
    refine ag.walk_val (by rfl) (fun W1 hS hE => ?_) ?_
    rotate_left; simp only [Act.put, List.setIfInBounds_toArray, List.set_cons_zero, List.set_cons_succ]; rotate_left
    · clear hS hE
      unfold ag.does
      go_simp
      try exact ⟨rfl, rfl⟩
    refine ag.walk_val (by rfl) (fun W1 hS hE => ?_) ?_
    rotate_left; simp only [Act.put, List.setIfInBounds_toArray, List.set_cons_zero, List.set_cons_succ]; rotate_left
    · clear hS hE
      unfold ag.does
      go_simp
      try exact ⟨rfl, rfl⟩
    refine ag.walk_val (by rfl) (fun W1 hS hE => ?_) ?_
    rotate_left; simp only [Act.put, List.setIfInBounds_toArray, List.set_cons_zero, List.set_cons_succ]; rotate_left
    · have c3 := HX.out W1 hS
      obtain ⟨⟨c0, c1, c2⟩, d0, d1, d2⟩ := c3
      clear hS hE
      unfold ag.does
      go_simp
      try exact ⟨rfl, rfl⟩
    refine ag.walk_val (by rfl) (fun W1 hS hE => ?_) ?_
    rotate_left; simp only [Act.put, List.setIfInBounds_toArray, List.set_cons_zero, List.set_cons_succ]; rotate_left
    · clear hS hE
      unfold ag.does
      go_simp
      try exact ⟨rfl, rfl⟩
    refine ag.walk_val (by rfl) (fun W1 hS hE => ?_) ?_
    rotate_left; simp only [Act.put, List.setIfInBounds_toArray, List.set_cons_zero, List.set_cons_succ]; rotate_left
    · clear hS hE
      unfold ag.does
      go_simp
      try exact ⟨rfl, rfl⟩
    refine ag.walk_val (by rfl) (fun W1 hS hE => ?_) ?_
    rotate_left; simp only [Act.put, List.setIfInBounds_toArray, List.set_cons_zero, List.set_cons_succ]; rotate_left
    · clear hS hE
      unfold ag.does
      go_simp
      try exact ⟨rfl, rfl⟩
    refine ag.walk_sat (by rfl) (fun W1 hS hE => ?_) (fun y2 => ?_)
    rotate_left; simp only [Act.put, List.setIfInBounds_toArray, List.set_cons_zero, List.set_cons_succ]; rotate_left
    · clear hS hE
      unfold ag.does
      go_simp
      refine (HO.out _).mono ?_
      rintro e W2 ⟨rfl, hb⟩
      exact ⟨_, rfl, rfl, hb, ag.News.none (fun _ _ => trivial) _ _⟩
    refine ag.walk_sat (by rfl) (fun W1 hS hE => ?_) (fun y3 => ?_)
    rotate_left; simp only [Act.put, List.setIfInBounds_toArray, List.set_cons_zero, List.set_cons_succ]; rotate_left
    · have h1 : y2 = ag3 3 0 its := hE.get (by kernel_rfl)
      subst h1
      have hmm := cell_later hS HMX.out
      clear hS hE
      unfold ag.does
      go_simp
      refine (HS0.out _ hmm).mono ?_
      rintro e W2 ⟨rfl, hb⟩
      exact ⟨_, rfl, rfl, hb, ag.News.none (fun _ _ => trivial) _ _⟩
    refine ag.walk_val (by rfl) (fun W1 hS hE => ?_) ?_
    rotate_left; simp only [Act.put, List.setIfInBounds_toArray, List.set_cons_zero, List.set_cons_succ]; rotate_left
    · have h1 : y3 = .string itq := hE.get (by kernel_rfl)
      subst h1
      clear hS hE
      unfold ag.does
      go_simp
      try exact ⟨rfl, rfl⟩
    refine ag.walk_val (by rfl) (fun W1 hS hE => ?_) ?_
    rotate_left; simp only [Act.put, List.setIfInBounds_toArray, List.set_cons_zero, List.set_cons_succ]; rotate_left
    · clear hS hE
      unfold ag.does
      go_simp
      try exact ⟨rfl, rfl⟩
    refine ag.walk_val (by rfl) (fun W1 hS hE => ?_) ?_
    rotate_left; simp only [Act.put, List.setIfInBounds_toArray, List.set_cons_zero, List.set_cons_succ]; rotate_left
    · clear hS hE
      unfold ag.does
      go_simp
      try exact ⟨rfl, rfl⟩
    refine ag.walk_nil (fun w7 hS hF' hP => ?_)
    clear hF' hP
    have HS := Lib.hid hS
    clear hS
    go_wp2
    go_ret
    exact ⟨rfl, HBX.out.trans (HS.out.mono HBX.out.size)⟩

end Go.Proofs.YtpkkhbmlclicfaaDoor.val
