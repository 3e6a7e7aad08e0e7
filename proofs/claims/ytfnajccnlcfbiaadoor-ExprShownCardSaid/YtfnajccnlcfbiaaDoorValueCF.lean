/- The program's operators on values, walked. -/
import Derived.Test.YtfnajccnlcfbiaaDoorRows
import Derived.Test.YtfnajccnlcfbiaaDoorValueP
import Derived.Test.YtfnajccnlcfbiaaDoorKit
import Derived.WalkLawsBesides
import Derived.Deep.QuietTactic
import Derived.BigQuiet
import Derived.Outline
import Derived.Test.YtfnajccnlcfbiaaDoorAg
import Derived.Deep.RegionHeld3
import Derived.Deep.CutBlock
import Derived.Deep.DeepCutAuto
import Derived.Lib.Strings
import Derived.Test.YtfnajccnlcfbiaaDoorShelf
import Derived.Lib.SplitLaws
import Derived.Lib.Replace
namespace Go.Proofs.YtfnajccnlcfbiaaDoor.val
set_option linter.unusedVariables false
open Go.RowKit
abbrev TV : TypeId := 31
abbrev TR : TypeId := 25
abbrev ag3 (k n : Int) (s : ByteArray) : Value := .agg #[.int .i64 k, .int .i64 n, .string s]
theorem bcell {W w1 : World} (hb : Below W.heap.size W w1) : (∀ b o, b < W.heap.size → w1.cell? ⟨b, o, none⟩ = W.cell? ⟨b, o, none⟩) ∧ (∀ b o, b < W.heap.size → w1.frozen? ⟨b, o, none⟩ = W.frozen? ⟨b, o, none⟩) :=
  ⟨fun b o h => hb.cell (p := ⟨b, o, none⟩) h, fun b o h => hb.frozen (p := ⟨b, o, none⟩) h⟩
theorem below_alloc1 (W : World) (o : Go.Obj) : Below W.heap.size W (W.alloc o) := (Below.refl _ _).alloc (Nat.le_refl _) _
theorem run_eqlV (k n : Int) (s : ByteArray) (k' n' : Int) (s' : ByteArray) (w : World) : (binOp .eql 31 (ag3 k n s) (ag3 k' n' s')).run Tryd.prog w = .ok (.bool (veq6 k n s k' n' s')) w := by
  rw [run_eql_struct]
  go_simp
  unfold veq6
  by_cases h1 : k = k' <;> by_cases h2 : n = n' <;> by_cases h3 : s.toList = s'.toList <;> simp [h1, h2, h3]
theorem run_neqV (k n : Int) (s : ByteArray) (k' n' : Int) (s' : ByteArray) (w : World) : (binOp .neq 31 (ag3 k n s) (ag3 k' n' s')).run Tryd.prog w = .ok (.bool (!veq6 k n s k' n' s')) w := by
  rw [run_neq_struct]
  go_simp
  unfold veq6
  by_cases h1 : k = k' <;> by_cases h2 : n = n' <;> by_cases h3 : s.toList = s'.toList <;> simp [h1, h2, h3]
theorem after {W X w1 : World} (h : Below W.heap.size W X) (hb : Below X.heap.size X w1) : Below W.heap.size W w1 := h.trans (hb.mono h.size)
abbrev vv (v : V) : Value := ag3 v.k v.n v.s
theorem ofBool_any (b : Bool) (W : World) : Calls Tryd.prog 39 #[.bool b] W fun e w' => e = .returned (ag3 (ofB b).k (ofB b).n (ofB b).s) ∧ Below W.heap.size W w' := by
  cases b
  all_goals
    go_enter Tryd.func39, Tryd.ntmps39
    go_wp2
    exact bodyPost_ret (v := ag3 _ _ _) (by simp [results, Tryd.results39, go_sem]; exact ⟨rfl, rfl, rfl⟩) rfl ⟨rfl, below_alloc1 _ _⟩
theorem ofInt_any (n : Int) (W : World) : Calls Tryd.prog 18 #[.int .i64 n] W fun e w' => e = .returned (ag3 2 n ByteArray.empty) ∧ Below W.heap.size W w' := by
  go_enter Tryd.func18, Tryd.ntmps18
  go_wp2
  exact bodyPost_ret (v := ag3 _ _ _) (by simp [results, Tryd.results18, go_sem]; rfl) rfl ⟨rfl, below_alloc1 _ _⟩
theorem ofText_any (s : ByteArray) (W : World) : Calls Tryd.prog 40 #[.string s] W fun e w' => e = .returned (ag3 3 0 s) ∧ Below W.heap.size W w' := by
  go_enter Tryd.func40, Tryd.ntmps40
  go_wp2
  exact bodyPost_ret (v := ag3 _ _ _) (by simp [results, Tryd.results40, go_sem]) rfl ⟨rfl, below_alloc1 _ _⟩
attribute [local go_sem high] run_eqlV run_neqV
end Go.Proofs.YtfnajccnlcfbiaaDoor.val
/- The program's operators on values, walked: arithmetic, comparisons, all of Do. -/
namespace Go.Proofs.YtfnajccnlcfbiaaDoor.val
set_option linter.unusedVariables false
open Go.RowKit
attribute [local go_sem high] run_eqlV run_neqV
attribute [local go_sem] ag.upon_value ag.upon_skip ag.upon_enter
attribute [local go_sem] Oper.semAt_some
/-! ### cmp's -/
/-- three numbers in a new row -/
def three (x y z : Int) (v : Value) (w : World) : Prop := ∃ g cap, v = .slice (some ⟨g, 0, none⟩) 3 cap ∧ w.cell? ⟨g, 0, none⟩ = some (.int .i64 x) ∧ w.cell? ⟨g, 1, none⟩ = some (.int .i64 y) ∧ w.cell? ⟨g, 2, none⟩ = some (.int .i64 z)
end Go.Proofs.YtfnajccnlcfbiaaDoor.val
/- The rest of the program's Do; Not, True; a text shown. -/
namespace Go.Proofs.YtfnajccnlcfbiaaDoor.val
set_option linter.unusedVariables false
open Go.RowKit
attribute [local go_sem high] run_eqlV run_neqV
attribute [local go_sem] ag.upon_value ag.upon_skip ag.upon_enter
attribute [local go_sem] Oper.semAt_some
/-- what a box holds, later -/
theorem box_later (W : World) (k n : Int) (s : ByteArray) (W' : World) (hS : Below (W.alloc (.cells #[.int .i64 k, .int .i64 n, .string s] TV)).heap.size (W.alloc (.cells #[.int .i64 k, .int .i64 n, .string s] TV)) W') :
    W'.cell? ⟨W.heap.size, 0, none⟩ = some (.int .i64 k) ∧ W'.cell? ⟨W.heap.size, 1, none⟩ = some (.int .i64 n) ∧ W'.cell? ⟨W.heap.size, 2, none⟩ = some (.string s) :=
  ⟨cell_later hS (cells_new W [.int .i64 k, .int .i64 n, .string s] TV 0), cell_later hS (cells_new W [.int .i64 k, .int .i64 n, .string s] TV 1), cell_later hS (cells_new W [.int .i64 k, .int .i64 n, .string s] TV 2)⟩
set_option maxRecDepth 100000 in
set_option maxHeartbeats 1000000 in
theorem true_any (k n : Int) (s : ByteArray) (W : World) : Calls Tryd.prog 36 #[ag3 k n s] W fun e w' => e = .returned (.bool (veq6 k n s (ofB true).k (ofB true).n (ofB true).s)) ∧ Below W.heap.size W w' := by
  go_enter Tryd.func36, Tryd.ntmps36
  go_wp2
  have HC := Lib.hid (fun (W' : World) (hS : Below (W.alloc (.cells #[.int .i64 k, .int .i64 n, .string s] TV)).heap.size (W.alloc (.cells #[.int .i64 k, .int .i64 n, .string s] TV)) W') => box_later W k n s W' hS)
  have HBB := Lib.hid (below_alloc1 W (.cells #[.int .i64 k, .int .i64 n, .string s] TV))
  generalize W.alloc (.cells #[.int .i64 k, .int .i64 n, .string s] TV) = X at *
  refine ag.region_ag (fun W1 => Below X.heap.size X W1) (fun _ _ _ _ => True)
    [.val (ag3 k n s), .sat (fun v _ => v = vv (ofB true)) (fun _ w w' => Below w.heap.size w w'), .val (.bool (veq6 k n s (ofB true).k (ofB true).n (ofB true).s)), .val (.bool (veq6 k n s (ofB true).k (ofB true).n (ofB true).s))]
    (by kernel_rfl) (by kernel_rfl) rfl (⟨rfl, rfl, rfl, Nat.le_refl _, fun _ _ => rfl⟩) ?hst ?hk ?hwalk
  case hst =>
    simp only [ag.Stab, ag.Row2, ag.Ok2, and_true]
    repeat' apply And.intro
    all_goals first
      | exact fun h => absurd rfl h
      | exact fun _ _ f v W W' hS hv _ ht => hv
      | trivial
  case hk =>
    simp only [ag.Keeps, and_true]
    exact fun f W1 W2 hS _ ht => hS.trans (ht.mono hS.size)
  case hwalk =>
    refine ag.walk_val (by rfl) (fun W1 hS hE => ?_) ?_
    rotate_left; simp only [Act.put, List.setIfInBounds_toArray, List.set_cons_zero, List.set_cons_succ]; rotate_left
    · have c3 := HC.out W1 hS
      obtain ⟨c0, c1, c2⟩ := c3
      clear hS hE
      unfold ag.does
      go_simp
      try exact ⟨rfl, rfl⟩
    refine ag.walk_sat (by rfl) (fun W1 hS hE => ?_) (fun y1 => ?_)
    rotate_left; simp only [Act.put, List.setIfInBounds_toArray, List.set_cons_zero, List.set_cons_succ]; rotate_left
    · clear hS hE
      unfold ag.does
      go_simp
      refine (ofBool_any _ _).mono ?_
      rintro e W2 ⟨rfl, hb⟩
      exact ⟨_, rfl, rfl, hb, ag.News.none (fun _ _ => trivial) _ _⟩
    refine ag.walk_val (by rfl) (fun W1 hS hE => ?_) ?_
    rotate_left; simp only [Act.put, List.setIfInBounds_toArray, List.set_cons_zero, List.set_cons_succ]; rotate_left
    · have h1 : y1 = vv (ofB true) := hE.get (by kernel_rfl)
      subst h1
      clear hS hE
      unfold ag.does
      go_simp
      try exact ⟨rfl, rfl⟩
    refine ag.walk_val (by rfl) (fun W1 hS hE => ?_) ?_
    rotate_left; simp only [Act.put, List.setIfInBounds_toArray, List.set_cons_zero, List.set_cons_succ]; rotate_left
    · clear hS hE
      unfold ag.does
      go_simp
      try exact ⟨rfl, rfl⟩
    refine ag.walk_nil (fun w7 hS hF' hP => ?_)
    clear hF' hP
    have HS := Lib.hid hS
    clear hS
    go_wp2
    go_ret
    exact ⟨rfl, HBB.out.trans (HS.out.mono HBB.out.size)⟩
/-- a text that may be -/
theorem veq_same (k n : Int) (s : ByteArray) : veq6 k n s k n s = true := veq_self ⟨k, n, s⟩
set_option maxRecDepth 100000 in
set_option maxHeartbeats 2000000 in
theorem good_txt (s : ByteArray) (hs : (s.size : Int) ≤ 64) (W : World) : Calls Tryd.prog 34 #[ag3 3 0 s] W fun e w' => e = .returned (.bool true) ∧ Below W.heap.size W w' := by
  have HV := Lib.hid (veq_same 3 0 s)
  go_enter Tryd.func34, Tryd.ntmps34
  go_wp2
  have HC := Lib.hid (fun (W' : World) (hS : Below (W.alloc (.cells #[.int .i64 3, .int .i64 0, .string s] TV)).heap.size (W.alloc (.cells #[.int .i64 3, .int .i64 0, .string s] TV)) W') => box_later W 3 0 s W' hS)
  have HBB := Lib.hid (below_alloc1 W (.cells #[.int .i64 3, .int .i64 0, .string s] TV))
  generalize W.alloc (.cells #[.int .i64 3, .int .i64 0, .string s] TV) = X at *
  refine ag.region_ag (fun W1 => Below X.heap.size X W1) (fun _ _ _ _ => True)
    [.val (ag3 3 0 s), .val (.pointer (some ⟨W.heap.size, 2, none⟩)), .val (.string s), .sat (fun v _ => v = ag3 3 0 s) (fun _ w w' => Below w.heap.size w w'), .val (.bool true), .val (.bool true), .val (.pointer (some ⟨W.heap.size, 2, none⟩)), .val (.string s), .val (.int .i64 (s.size : Int)), .val (.bool true), .val (.bool true), .val (.bool true)]
    (by kernel_rfl) (by kernel_rfl) rfl (⟨rfl, rfl, rfl, Nat.le_refl _, fun _ _ => rfl⟩) ?hst ?hk ?hwalk
  case hst =>
    simp only [ag.Stab, ag.Row2, ag.Ok2, and_true]
    repeat' apply And.intro
    all_goals first
      | exact fun h => absurd rfl h
      | exact fun _ _ f v W W' hS hv _ ht => hv
      | trivial
  case hk =>
    simp only [ag.Keeps, and_true]
    exact fun f W1 W2 hS _ ht => hS.trans (ht.mono hS.size)
  case hwalk =>
    refine ag.walk_val (by rfl) (fun W1 hS hE => ?_) ?_
    rotate_left; simp only [Act.put, List.setIfInBounds_toArray, List.set_cons_zero, List.set_cons_succ]; rotate_left
    · have c3 := HC.out W1 hS
      obtain ⟨c0, c1, c2⟩ := c3
      clear hS hE
      unfold ag.does
      go_simp
      try exact ⟨rfl, rfl⟩
    refine ag.walk_val (by rfl) (fun W1 hS hE => ?_) ?_
    rotate_left; simp only [Act.put, List.setIfInBounds_toArray, List.set_cons_zero, List.set_cons_succ]; rotate_left
    · clear hS hE
      unfold ag.does
      go_simp
      try exact ⟨rfl, rfl⟩
    refine ag.walk_val (by rfl) (fun W1 hS hE => ?_) ?_
    rotate_left; simp only [Act.put, List.setIfInBounds_toArray, List.set_cons_zero, List.set_cons_succ]; rotate_left
    · have c3 := HC.out W1 hS
      obtain ⟨c0, c1, c2⟩ := c3
      clear hS hE
      unfold ag.does
      go_simp
      try exact ⟨rfl, rfl⟩
    refine ag.walk_sat (by rfl) (fun W1 hS hE => ?_) (fun y1 => ?_)
    rotate_left; simp only [Act.put, List.setIfInBounds_toArray, List.set_cons_zero, List.set_cons_succ]; rotate_left
    · clear hS hE
      unfold ag.does
      go_simp
      refine (ofText_any _ _).mono ?_
      rintro e W2 ⟨rfl, hb⟩
      exact ⟨_, rfl, rfl, hb, ag.News.none (fun _ _ => trivial) _ _⟩
    refine ag.walk_val (by rfl) (fun W1 hS hE => ?_) ?_
    rotate_left; simp only [Act.put, List.setIfInBounds_toArray, List.set_cons_zero, List.set_cons_succ]; rotate_left
    · have h1 : y1 = ag3 3 0 s := hE.get (by kernel_rfl)
      subst h1
      clear hS hE
      unfold ag.does
      go_simp
      first | exact HV.out | exact ⟨HV.out, rfl⟩
    refine ag.walk_val (by rfl) (fun W1 hS hE => ?_) ?_
    rotate_left; simp only [Act.put, List.setIfInBounds_toArray, List.set_cons_zero, List.set_cons_succ]; rotate_left
    · clear hS hE
      unfold ag.does
      go_simp
      try exact ⟨rfl, rfl⟩
    refine ag.walk_val (by rfl) (fun W1 hS hE => ?_) ?_
    rotate_left; simp only [Act.put, List.setIfInBounds_toArray, List.set_cons_zero, List.set_cons_succ]; rotate_left
    · clear hS hE
      unfold ag.does
      go_simp
      try exact ⟨rfl, rfl⟩
    refine ag.walk_val (by rfl) (fun W1 hS hE => ?_) ?_
    rotate_left; simp only [Act.put, List.setIfInBounds_toArray, List.set_cons_zero, List.set_cons_succ]; rotate_left
    · have c3 := HC.out W1 hS
      obtain ⟨c0, c1, c2⟩ := c3
      clear hS hE
      unfold ag.does
      go_simp
      try exact ⟨rfl, rfl⟩
    refine ag.walk_val (by rfl) (fun W1 hS hE => ?_) ?_
    rotate_left; simp only [Act.put, List.setIfInBounds_toArray, List.set_cons_zero, List.set_cons_succ]; rotate_left
    · clear hS hE
      unfold ag.does
      go_simp
      try exact ⟨rfl, rfl⟩
    refine ag.walk_val (by rfl) (fun W1 hS hE => ?_) ?_
    rotate_left; simp only [Act.put, List.setIfInBounds_toArray, List.set_cons_zero, List.set_cons_succ]; rotate_left
    · clear hS hE
      unfold ag.does
      go_simp
      try exact ⟨rfl, rfl⟩
    refine ag.walk_val (by rfl) (fun W1 hS hE => ?_) ?_
    rotate_left; simp only [Act.put, List.setIfInBounds_toArray, List.set_cons_zero, List.set_cons_succ]; rotate_left
    · clear hS hE
      unfold ag.does
      go_simp
      try exact ⟨rfl, rfl⟩
    refine ag.walk_val (by rfl) (fun W1 hS hE => ?_) ?_
    rotate_left; simp only [Act.put, List.setIfInBounds_toArray, List.set_cons_zero, List.set_cons_succ]; rotate_left
    · clear hS hE
      unfold ag.does
      go_simp
      try exact ⟨rfl, rfl⟩
    refine ag.walk_nil (fun w7 hS hF' hP => ?_)
    clear hF' hP
    have HS := Lib.hid hS
    clear hS
    go_wp2
    go_ret
    exact ⟨rfl, HBB.out.trans (HS.out.mono HBB.out.size)⟩
end Go.Proofs.YtfnajccnlcfbiaaDoor.val
/- A text shown; the first test of the laws on values. -/
namespace Go.Proofs.YtfnajccnlcfbiaaDoor.val
set_option linter.unusedVariables false
open Go.RowKit
attribute [local go_sem high] run_eqlV run_neqV
attribute [local go_sem] ag.upon_value ag.upon_skip ag.upon_enter
attribute [local go_sem] Oper.semAt_some
abbrev gMax : Nat := 3
abbrev q1 : ByteArray := ⟨#[39]⟩
abbrev q2 : ByteArray := ⟨#[39, 39]⟩
/-- a text between quotes -/
theorem replaceK_len (old new : List UInt8) : ∀ (k : Nat) (s : List UInt8), (Lib.replaceK old new k s).length ≤ s.length + k * new.length
  | 0, s => by simp [Lib.replaceK]
  | k + 1, s => by
    unfold Lib.replaceK
    split
    · omega
    · have ih := replaceK_len old new k (s.drop ((Lib.index s old).toNat + old.length))
      rw [List.length_drop] at ih
      rw [List.length_append, List.length_append, List.length_take, Nat.succ_mul]
      omega
/-- what stands between the quotes -/
def inner (s : ByteArray) : ByteArray := ⟨(Lib.replaceAll s.data.toList [39] [39, 39]).toArray⟩
def quote (s : ByteArray) : ByteArray := q1 ++ inner s ++ q1
theorem inner_len (s : ByteArray) : (inner s).size ≤ 3 * s.size := by
  have h1 := Lib.countB_le q1 (by decide) s.size s (Nat.le_refl _)
  have h2 := replaceK_len [39] [39, 39] (Lib.count s.data.toList [39]) s.data.toList
  have e : Lib.replaceAll s.data.toList [39] [39, 39] = Lib.replaceK [39] [39, 39] (Lib.count s.data.toList [39]) s.data.toList := by
    unfold Lib.replaceAll Lib.replace
    rw [if_neg (by decide)]
    unfold Lib.replaceNum
    rw [if_pos (.inl (by decide))]
  have h3 : (inner s).size = (Lib.replaceAll s.data.toList [39] [39, 39]).length := by unfold inner; rw [← ByteArray.size_data]; simp
  have h4 : s.data.toList.length = s.size := by rw [← ByteArray.size_data]; simp
  have h5 : Lib.countB s q1 = Lib.count s.data.toList [39] := rfl
  rw [h3, e]
  rw [h5] at h1
  rw [h4] at h2
  simp only [List.length_cons, List.length_nil] at h2
  omega
set_option maxHeartbeats 1000000 in
theorem show_txt (s : ByteArray) (hs : (s.size : Int) ≤ 64) (m : Int) (W : World) (hm : W.cell? ⟨gMax, 0, none⟩ = some (.int .i64 m)) :
    Calls Tryd.prog 32 #[ag3 3 0 s] W fun e w' => e = .returned (.string (quote s)) ∧ Below W.heap.size W w' := by
  have hG := Lib.hid (good_txt s hs)
  have hT := Lib.hid (true_any 3 0 s)
  have hv : veq6 3 0 s (ofB true).k (ofB true).n (ofB true).s = false := rfl
  rw [hv] at hT
  have h4 : s.size < 4294967281 := by omega
  have hc := Lib.countB_le q1 (by decide) s.size s (Nat.le_refl _)
  have hl : s.size + Lib.countB s q1 * q2.size ≤ 140737488355328 := by
    have : q2.size = 2 := rfl
    rw [this]; omega
  have HM := Lib.hid hm
  have HR := Lib.hid (fun (w : World) (hw : w.cell? ⟨gMax, 0, none⟩ = some (.int .i64 m)) => Tryd.strings_ReplaceAll s q1 q2 m w h4 hw (by decide) hl)
  have hR' : ∀ (w : World) (hw : w.cell? ⟨gMax, 0, none⟩ = some (.int .i64 m)), Calls Tryd.prog 38 #[.string s, .string q1, .string q2] w fun e w' => e = .returned (.string (inner s)) ∧ Below w.heap.size w w' := HR.out
  have hi := inner_len s
  have hq : quote s = q1 ++ inner s ++ q1 := rfl
  rw [hq]
  clear HR hq
  have HR := Lib.hid hR'
  clear hR'
  generalize inner s = r at *
  have r0 : (0 : Int) ≤ (r.size : Int) := by omega
  have r1 : (r.size : Int) ≤ 192 := by omega
  have r2 : r.size ≤ 192 := by omega
  clear hv h4 hc hl hm hi
  go_enter Tryd.func32, Tryd.ntmps32
  go_wp2_with (first | (go_at_call 34; ((with_reducible refine (hG.out _).mono ?_); rintro e w1 ⟨rfl, hb1⟩; have hB1 : Below W.heap.size W w1 := after (by (repeat' (first | assumption | exact Below.refl _ _ | apply Below.setCell | apply Below.alloc)); all_goals (first | omega | (simp; omega) | (simp; done))) hb1; obtain ⟨hc1, hf1⟩ := bcell hb1; have hz1 := hb1.size; (try simp at hz1); (try simp only [World.size_alloc] at hc1 hf1); have hy0 : W.heap.size < w1.heap.size := (by omega))) | (go_at_call 36; ((with_reducible refine (hT.out _).mono ?_); rintro e w1 ⟨rfl, hb1⟩; have hB1 : Below W.heap.size W w1 := after (by (repeat' (first | assumption | exact Below.refl _ _ | apply Below.setCell | apply Below.alloc)); all_goals (first | omega | (simp; omega) | (simp; done))) hb1; obtain ⟨hc1, hf1⟩ := bcell hb1; have hz1 := hb1.size; (try simp at hz1); (try simp only [World.size_alloc] at hc1 hf1); have hy0 : W.heap.size < w1.heap.size := (by omega))) | (go_at_call 38; ((with_reducible refine (HR.out _ (cell_later hB1 HM.out)).mono ?_); rintro e w1 ⟨rfl, hb1⟩; have hB1 : Below W.heap.size W w1 := after (by (repeat' (first | assumption | exact Below.refl _ _ | apply Below.setCell | apply Below.alloc)); all_goals (first | omega | (simp; omega) | (simp; done))) hb1; obtain ⟨hc1, hf1⟩ := bcell hb1; have hz1 := hb1.size; (try simp at hz1); (try simp only [World.size_alloc] at hc1 hf1); have hy0 : W.heap.size < w1.heap.size := (by omega))))
  go_ret
  exact ⟨rfl, hB1⟩
abbrev its : ByteArray := ⟨#[105, 116, 39, 115]⟩
end Go.Proofs.YtfnajccnlcfbiaaDoor.val
