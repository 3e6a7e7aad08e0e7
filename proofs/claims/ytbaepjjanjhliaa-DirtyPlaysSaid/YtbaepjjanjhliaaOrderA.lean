/- The list of stamps: its calls over the arena of links. -/
import Derived.Test.YtbaepjjanjhliaaArenaK
import Derived.LoopTactic
import Derived.StillTailTactics
import Derived.Deep.RegionHeld3
import Derived.Outline
import Derived.Deep.DeepCutAuto
import Derived.Deep.CutBlock
namespace Go.Proofs.Ytbaepjjanjhliaa.ord
set_option linter.unusedVariables false
open Go.RowKit arK

abbrev TO : TypeId := 90
/-- the list at bl, whose arena at b holds s -/
structure LI (own : Nat → Prop) (bl b : Nat) (s : Ar Lk) (w : World) : Prop where
  is : Is own b s w
  fl : Flds w bl TO [.pointer (some ⟨b, 0, none⟩)]
  nown : ¬ own bl
variable {own : Nat → Prop} {bl b : Nat} {s s' : Ar Lk} {w w' : World}
theorem LI.cell (h : LI own bl b s w) : w.cell? ⟨bl, 0, none⟩ = some (.pointer (some ⟨b, 0, none⟩)) := h.fl.cell 0
theorem LI.lt (h : LI own bl b s w) : bl < w.heap.size := h.fl.lt
theorem LI.later (h : LI own bl b s w) (hb : Below w.heap.size w w') : LI own bl b s w' := ⟨h.is.later hb, h.fl.later hb, h.nown⟩
theorem LI.drewN (h : LI own bl b s w) (n : Nat) : LI own bl b s (w.drewN n) := ⟨h.is, h.fl, h.nown⟩
theorem LI.step (h : LI own bl b s w) (h' : Is own b s' w') (ho : Only own w w') : LI own bl b s' w' := ⟨h', h.fl.only ho h.nown, h.nown⟩
theorem after {B : Nat} {a w w' : World} (h : Below B a w) (hb : Below w.heap.size w w') (hB : B ≤ w.heap.size) : Below B a w' := h.trans (hb.mono hB)
theorem LI.get (h : LI own bl b s w) (i : Int) : Calls Try.prog 51 #[.pointer (some ⟨b, 0, none⟩), .int .i64 i] w fun e w' => e = .returned (.tuple #[(getAt s i).agg, .bool (s.has i)]) ∧ Below w.heap.size w w' := get_any own b s w h.is i
theorem tag_l (h : LI own bl b s w) (i : Int) : Calls Try.prog 54 #[.pointer (some ⟨bl, 0, none⟩), .int .i64 i] w fun e w' => e = .returned (.int .i64 (getAt s i).t) ∧ Below w.heap.size w w' := by
  have c := h.cell
  have HG := Lib.hid (h.get i)
  clear h
  go_enter Try.func54, Try.ntmps54
  go_wp2_with (go_at_call 51; ((with_reducible refine HG.out.mono ?_); rintro e w1 ⟨rfl, hb⟩))
  go_ret
  exact ⟨rfl, after hb ((Below.refl _ _).alloc (Nat.le_refl _) _) hb.size⟩
theorem prev_l (h : LI own bl b s w) (i : Int) : Calls Try.prog 65 #[.pointer (some ⟨bl, 0, none⟩), .int .i64 i] w fun e w' => e = .returned (.int .i64 (getAt s i).p) ∧ Below w.heap.size w w' := by
  have c := h.cell
  have HG := Lib.hid (h.get i)
  clear h
  go_enter Try.func65, Try.ntmps65
  go_wp2_with (go_at_call 51; ((with_reducible refine HG.out.mono ?_); rintro e w1 ⟨rfl, hb⟩))
  go_ret
  exact ⟨rfl, after hb ((Below.refl _ _).alloc (Nat.le_refl _) _) hb.size⟩
theorem next_l (h : LI own bl b s w) (i : Int) : Calls Try.prog 66 #[.pointer (some ⟨bl, 0, none⟩), .int .i64 i] w fun e w' => e = .returned (.int .i64 (getAt s i).n) ∧ Below w.heap.size w w' := by
  have c := h.cell
  have HG := Lib.hid (h.get i)
  clear h
  go_enter Try.func66, Try.ntmps66
  go_wp2_with (go_at_call 51; ((with_reducible refine HG.out.mono ?_); rintro e w1 ⟨rfl, hb⟩))
  go_ret
  exact ⟨rfl, after hb ((Below.refl _ _).alloc (Nat.le_refl _) _) hb.size⟩
theorem has_l (h : LI own bl b s w) (i : Int) : Calls Try.prog 29 #[.pointer (some ⟨bl, 0, none⟩), .int .i64 i] w fun e w' => e = .returned (.bool (s.has i)) ∧ Below w.heap.size w w' := by
  have c := h.cell
  have HG := Lib.hid (h.get i)
  clear h
  go_enter Try.func29, Try.ntmps29
  go_wp2_with (go_at_call 51; ((with_reducible refine HG.out.mono ?_); rintro e w1 ⟨rfl, hb⟩))
  go_ret
  exact ⟨rfl, after hb ((Below.refl _ _).alloc (Nat.le_refl _) _) hb.size⟩
theorem has_nil (i : Int) (w : World) : Calls Try.prog 29 #[.pointer none, .int .i64 i] w fun e w' => e = .returned (.bool false) ∧ Below w.heap.size w w' := by
  go_enter Try.func29, Try.ntmps29
  go_wp2
  go_ret
  exact ⟨rfl, Below.refl _ _⟩
theorem len_l (h : LI own bl b s w) : Calls Try.prog 32 #[.pointer (some ⟨bl, 0, none⟩)] w fun e w' => e = .returned (.int .i64 s.live) ∧ Below w.heap.size w w' := by
  have c := h.cell
  have HG := Lib.hid (live_any own b s w h.is)
  clear h
  go_enter Try.func32, Try.ntmps32
  go_wp2_with (go_at_call 55; ((with_reducible refine HG.out.mono ?_); rintro e w1 ⟨rfl, hb⟩))
  go_ret
  obtain ⟨n, rfl⟩ := hb
  exact ⟨rfl, ⟨rfl, rfl, rfl, Nat.le_refl _, fun _ _ => rfl⟩⟩
theorem len_nil (w : World) : Calls Try.prog 32 #[.pointer none] w fun e w' => e = .returned (.int .i64 0) ∧ Below w.heap.size w w' := by
  go_enter Try.func32, Try.ntmps32
  go_wp2
  go_ret
  exact ⟨rfl, Below.refl _ _⟩
theorem keep2B {w W W' : World} {p q : Addr} {a b : Value} (hh : W.cell? p = some a ∧ W.cell? q = some b ∧ Below w.heap.size w W) (hb : Below W.heap.size W W') : W'.cell? p = some a ∧ W'.cell? q = some b ∧ Below w.heap.size w W' :=
  ⟨cell_later hb hh.1, cell_later hb hh.2.1, hh.2.2.trans (hb.mono hh.2.2.size)⟩
/-- the gap behind a stamp -/
def gapF (s : Ar Lk) (i : Int) : Int := if (getAt s i).n = -1 then 4611686018427387904 - (getAt s i).t else (getAt s (getAt s i).n).t - (getAt s i).t
def Lk.Bd (x : Lk) : Prop := 0 ≤ x.t ∧ x.t ≤ 4611686018427387904
theorem gap_l (h : LI own bl b s w) (i : Int) (h1 : Lk.Bd (getAt s i)) (h2 : Lk.Bd (getAt s (getAt s i).n)) : Calls Try.prog 56 #[.pointer (some ⟨bl, 0, none⟩), .int .i64 i] w fun e w' => e = .returned (.int .i64 (gapF s i)) ∧ Below w.heap.size w w' := by
  have c := h.cell
  have l0 := h.lt
  have HG := Lib.hid (h.get i)
  have HT := Lib.hid (fun w' hb => tag_l (w := w') (h.later hb) (getAt s i).n)
  have HC := Lib.hid (fun w' hb => (h.later (w' := w') hb).cell)
  obtain ⟨a1, a2⟩ := h1
  obtain ⟨b1, b2⟩ := h2
  clear h
  unfold gapF
  generalize (getAt s (getAt s i).n).t = u at *
  generalize getAt s i = x at *
  by_cases hn : x.n = -1
  · rw [if_pos hn]
    have q : (x.n == -1) = true := by simpa using hn
    clear hn HT HC
    go_enter Try.func56, Try.ntmps56
    go_wp2_with (go_at_call 51; ((with_reducible refine HG.out.mono ?_); rintro e w1 ⟨rfl, hb⟩))
    go_ret
    exact ⟨rfl, after hb ((Below.refl _ _).alloc (Nat.le_refl _) _) hb.size⟩
  · rw [if_neg hn]
    have q : (x.n == -1) = false := by simpa using hn
    clear hn
    go_enter Try.func56, Try.ntmps56
    go_wp2_with (go_at_call 51; ((with_reducible refine HG.out.mono ?_); rintro e w1 ⟨rfl, hb⟩))
    have HB1 := Lib.hid (after hb ((Below.refl w1.heap.size w1).alloc (Nat.le_refl _) (.cells #[.int .i64 x.p, .int .i64 x.n, .int .i64 x.t] TL)) hb.size)
    have F5 := Flds.new w1 TL [.int .i64 x.p, .int .i64 x.n, .int .i64 x.t]
    have c1 := F5.cell 1; have c2 := F5.cell 2
    simp only [List.getElem?_cons_zero, List.getElem?_cons_succ] at c1 c2
    have l5 := F5.lt
    clear F5 hb
    have HTS : Hid (∀ X : World, (X.cell? ⟨w1.heap.size, 1, none⟩ = some (.int .i64 x.n) ∧ X.cell? ⟨w1.heap.size, 2, none⟩ = some (.int .i64 x.t) ∧ Below w.heap.size w X) → Calls Try.prog 54 #[.pointer (some ⟨bl, 0, none⟩), .int .i64 x.n] X fun e w' => e = .returned (.int .i64 u) ∧ Below X.heap.size X w') := Lib.hid (fun X hX => HT.out X hX.2.2)
    clear HT HC HG
    generalize w1.alloc (.cells #[.int .i64 x.p, .int .i64 x.n, .int .i64 x.t] TL) = Y at *
    generalize w1.heap.size = g5 at *
    go_region_held3 (fun X => X.cell? ⟨g5, 1, none⟩ = some (.int .i64 x.n) ∧ X.cell? ⟨g5, 2, none⟩ = some (.int .i64 x.t) ∧ Below w.heap.size w X)
      (first | exact ⟨c1, c2, HB1.out.drew⟩ | exact keep2B (by assumption) hb')
      (first | (go_at_call 54; refine (HTS.out _ (by assumption)).mono ?_; rintro e w' ⟨rfl, hb'⟩))
    go_wp2
    go_ret
    exact ⟨(show Ending.returned (.int .i64 (IntKind.i64.wrap (u - x.t))) = _ from ret_i64 (IntWalk.i64_in _ (by omega))), And.right (And.right (by assumption))⟩
/-- does a stamp stand ahead of another one, by their tags? -/
def lessF (s : Ar Lk) (a c : Int) : Bool := s.has a && (s.has c && decide ((getAt s a).t < (getAt s c).t))
set_option maxHeartbeats 1000000 in
theorem less_l (h : LI own bl b s w) (i j : Int) : Calls Try.prog 28 #[.pointer (some ⟨bl, 0, none⟩), .int .i64 i, .int .i64 j] w fun e w' => e = .returned (.bool (lessF s i j)) ∧ Below w.heap.size w w' := by
  have H1 := Lib.hid (fun w' hb => has_l (w := w') (h.later hb) i)
  have H2 := Lib.hid (fun w' hb => has_l (w := w') (h.later hb) j)
  have H3 := Lib.hid (fun w' hb => tag_l (w := w') (h.later hb) i)
  have H4 := Lib.hid (fun w' hb => tag_l (w := w') (h.later hb) j)
  clear h
  unfold lessF
  generalize (getAt s i).t = u at *
  generalize (getAt s j).t = v at *
  cases h1 : s.has i
  all_goals cases h2 : s.has j
  all_goals
    rw [h1] at H1
    rw [h2] at H2
    clear h1 h2
    go_enter Try.func28, Try.ntmps28
    go_wp2_with fail
    (with_reducible refine (H1.out _ (Below.refl _ _)).mono ?_); rintro e w1 ⟨rfl, hb1⟩
    go_wp2_with fail
  · go_ret
    exact ⟨rfl, hb1⟩
  · go_ret
    exact ⟨rfl, hb1⟩
  · (with_reducible refine (H2.out _ hb1).mono ?_); rintro e w2 ⟨rfl, hb2⟩
    go_wp2_with fail
    go_ret
    exact ⟨rfl, after hb1 hb2 hb1.size⟩
  · (with_reducible refine (H2.out _ hb1).mono ?_); rintro e w2 ⟨rfl, hb2⟩
    have hB2 := after hb1 hb2 hb1.size
    go_wp2_with fail
    (with_reducible refine (H3.out _ hB2).mono ?_); rintro e w3 ⟨rfl, hb3⟩
    have hB3 := after hB2 hb3 hB2.size
    go_wp2_with fail
    (with_reducible refine (H4.out _ hB3).mono ?_); rintro e w4 ⟨rfl, hb4⟩
    go_wp2
    go_ret
    exact ⟨rfl, after hB3 hb4 hB3.size⟩
theorem less_nil (i j : Int) (w : World) : Calls Try.prog 28 #[.pointer none, .int .i64 i, .int .i64 j] w fun e w' => e = .returned (.bool false) ∧ Below w.heap.size w w' := by
  have H1 := Lib.hid (has_nil i)
  go_enter Try.func28, Try.ntmps28
  go_wp2_with fail
  (with_reducible refine (H1.out _).mono ?_); rintro e w1 ⟨rfl, hb1⟩
  go_wp2_with fail
  go_ret
  exact ⟨rfl, hb1⟩

theorem LI.set (h : LI own bl b s w) (i : Int) (x : Lk) : Calls Try.prog 64 #[.pointer (some ⟨b, 0, none⟩), .int .i64 i, x.agg] w fun e w' => e = .returned (.bool (s.has i)) ∧ LI own bl b (if s.has i then s.put i x else s) w' ∧ Only own w w' :=
  (set_any own b s w h.is i x).mono fun e w' ⟨he, h1, h2⟩ => ⟨he, h.step h1 h2, h2⟩
/-- a stamp's neighbours set -/
def setN (s : Ar Lk) (a v : Int) : Ar Lk := if s.has a then s.put a { getAt s a with n := v } else s
def setP (s : Ar Lk) (c v : Int) : Ar Lk := if s.has c then s.put c { getAt s c with p := v } else s
def joinF (s : Ar Lk) (a c : Int) : Ar Lk := setP (setN s a c) c a
theorem LI.only (h : LI own bl b s w) {own' : Nat → Prop} {P : Nat → Prop} (ho : Only P w w') (hn : ∀ k, own k → ¬ P k) (hb : ¬ P bl) : LI own bl b s w' := ⟨h.is.only ho hn, h.fl.only ho hb, h.nown⟩
theorem has_put (s : Ar Lk) (i : Int) (x : Lk) (hi : s.has i = true) (j : Int) : (s.put i x).has j = s.has j := by
  obtain ⟨h0, hl, y, hy⟩ := Ar.has_iff.1 hi
  unfold Ar.has Ar.put
  rw [List.length_set]
  by_cases e : j.toNat = i.toNat
  · rw [e, List.getElem?_set_self hl, hy]; rfl
  · rw [List.getElem?_set_ne (fun h => e h.symm)]
set_option maxRecDepth 100000 in
set_option maxHeartbeats 2000000 in
theorem join_l (h : LI own bl b s w) (i j : Int) : Calls Try.prog 52 #[.pointer (some ⟨bl, 0, none⟩), .int .i64 i, .int .i64 j] w fun e w' => (∃ v, e = .returned v) ∧ LI own bl b (joinF s i j) w' ∧ Only own w w' := by
  have c := h.cell
  have l0 := h.lt
  have HI := Lib.hid h
  have HG := Lib.hid (h.get i)
  have HS := Lib.hid (fun w' hb => LI.set (w := w') (h.later hb) i { getAt s i with n := j })
  have HN : Hid ((s.has i = true → setN s i j = s.put i { getAt s i with n := j }) ∧ (s.has i = false → setN s i j = s)) := Lib.hid ⟨fun h => if_pos h, fun h => by unfold setN; rw [if_neg (by rw [h]; decide)]⟩
  unfold joinF
  clear h
  generalize s.has i = u at HG HS HN
  go_enter Try.func52, Try.ntmps52
  go_wp2_with fail
  (with_reducible refine HG.out.mono ?_); rintro e w1 ⟨rfl, hb1⟩
  have cl := cell_later hb1 c
  have lw1 := hb1.size
  have HB1 := Lib.hid hb1
  clear hb1 c
  go_upto_if 19 with fail
  go_cut [19] from 20 to 28 (fun s19 wx => LI own bl b (setN s i j) wx ∧ Only own w wx)
  case first =>
    cases u
    · have e1 := HN.out.2 rfl
      have hr := (HI.out.later HB1.out).later ((Below.refl w1.heap.size w1).alloc (Nat.le_refl _) (.cells (getAt s i).fl.toArray TL))
      have ho : Only own w (w1.alloc (.cells (getAt s i).fl.toArray TL)) := (Only.of_below HB1.out).alloc _
      have HR := Lib.hid hr; have HO := Lib.hid ho
      clear hr ho
      go_wp2_with fail
      go_meet
      exact ⟨by rw [e1]; exact HR.out, HO.out⟩
    · have e1 := HN.out.1 rfl
      generalize getAt s i = x at *
      have hB := Lib.hid (after HB1.out ((Below.refl w1.heap.size w1).alloc (Nat.le_refl _) (.cells #[.int .i64 x.p, .int .i64 j, .int .i64 x.t] TL)) lw1)
      have F6 := Flds.new w1 TL [.int .i64 x.p, .int .i64 j, .int .i64 x.t]
      have l1 := F6.lt
      have q0 := F6.cell 0; have q1 := F6.cell 1; have q2 := F6.cell 2
      simp only [List.getElem?_cons_zero, List.getElem?_cons_succ] at q0 q1 q2
      have cy := cell_later ((Below.refl w1.heap.size w1).alloc (Nat.le_refl _) (.cells #[.int .i64 x.p, .int .i64 j, .int .i64 x.t] TL)) cl
      clear F6 cl
      go_upto_region 3 with fail
      have HY : Hid (∀ X : World, Below w.heap.size w X → Calls Try.prog 64 #[.pointer (some ⟨b, 0, none⟩), .int .i64 i, .agg #[.int .i64 x.p, .int .i64 j, .int .i64 x.t]] X fun e w' => e = .returned (.bool true) ∧ LI own bl b (setN s i j) w' ∧ Only own X w') := Lib.hid (fun X hX => by rw [e1]; exact HS.out X hX)
      clear HS HG HN e1
      generalize w1.alloc (.cells #[.int .i64 x.p, .int .i64 j, .int .i64 x.t] TL) = Y at *
      generalize w1.heap.size = g6 at *
      go_region_with (go_at_call 64; refine (HY.out _ (by first | exact hB.out.drew | exact hB.out)).mono ?_; rintro e w2 ⟨rfl, hL2, hO2⟩)
      all_goals go_wp2_with fail
      all_goals go_meet
      all_goals exact ⟨hL2, (Only.of_below hB.out.drew).trans hO2 (fun _ _ h => h)⟩
  case rest =>
    clear cl lw1 HB1 HG HS HN HI l0
    obtain ⟨hL, hO⟩ := hcut
    obtain ⟨S, hS⟩ : ∃ S, S = setN s i j := ⟨_, rfl⟩
    rw [← hS] at hL
    have HSN := Lib.hid hS
    clear hS
    have c := hL.cell
    have l0 := hL.lt
    have HI := Lib.hid hL
    have HG := Lib.hid (hL.get j)
    have HS := Lib.hid (fun w' hb => LI.set (w := w') (hL.later hb) j { getAt S j with p := i })
    have HN : Hid ((S.has j = true → setP S j i = S.put j { getAt S j with p := i }) ∧ (S.has j = false → setP S j i = S)) := Lib.hid ⟨fun h => if_pos h, fun h => by unfold setP; rw [if_neg (by rw [h]; decide)]⟩
    have HO := Lib.hid hO
    clear hL hO
    generalize S.has j = u at HG HS HN
    go_wp2_with fail
    (with_reducible refine HG.out.mono ?_); rintro e w1 ⟨rfl, hb1⟩
    have cl := cell_later hb1 c
    have lw1 := hb1.size
    have HB1 := Lib.hid hb1
    clear hb1 c
    cases u
    · have e1 := HN.out.2 rfl
      have hr := (HI.out.later HB1.out).later ((Below.refl w1.heap.size w1).alloc (Nat.le_refl _) (.cells (getAt S j).fl.toArray TL))
      have ho : Only own w (w1.alloc (.cells (getAt S j).fl.toArray TL)) := (HO.out.trans (Only.of_below HB1.out) (fun _ _ h => h)).alloc _
      have HR := Lib.hid hr; have HQ := Lib.hid ho
      clear hr ho
      go_wp2
      refine bodyPost_end (v := .tuple #[]) (by simp [results, Try.results52]) (by rfl) ⟨⟨_, rfl⟩, by rw [← HSN.out, e1]; exact HR.out, HQ.out⟩
    · have e1 := HN.out.1 rfl
      generalize getAt S j = x at *
      have hB := Lib.hid (after HB1.out ((Below.refl w1.heap.size w1).alloc (Nat.le_refl _) (.cells #[.int .i64 i, .int .i64 x.n, .int .i64 x.t] TL)) lw1)
      have F6 := Flds.new w1 TL [.int .i64 i, .int .i64 x.n, .int .i64 x.t]
      have l1 := F6.lt
      have q0 := F6.cell 0; have q1 := F6.cell 1; have q2 := F6.cell 2
      simp only [List.getElem?_cons_zero, List.getElem?_cons_succ] at q0 q1 q2
      have cy := cell_later ((Below.refl w1.heap.size w1).alloc (Nat.le_refl _) (.cells #[.int .i64 i, .int .i64 x.n, .int .i64 x.t] TL)) cl
      clear F6 cl
      go_upto_region 7 with fail
      have HY : Hid (∀ X : World, Below wc.heap.size wc X → Calls Try.prog 64 #[.pointer (some ⟨b, 0, none⟩), .int .i64 j, .agg #[.int .i64 i, .int .i64 x.n, .int .i64 x.t]] X fun e w' => e = .returned (.bool true) ∧ LI own bl b (setP S j i) w' ∧ Only own X w') := Lib.hid (fun X hX => by rw [e1]; exact HS.out X hX)
      clear HS HG HN e1
      generalize w1.alloc (.cells #[.int .i64 i, .int .i64 x.n, .int .i64 x.t] TL) = Y at *
      generalize w1.heap.size = g6 at *
      go_region_with (go_at_call 64; refine (HY.out _ (by first | exact hB.out.drew | exact hB.out)).mono ?_; rintro e w2 ⟨rfl, hL2, hO2⟩)
      all_goals go_wp2
      all_goals refine bodyPost_end (v := .tuple #[]) (by simp [results, Try.results52]) (by rfl) ⟨⟨_, rfl⟩, by rw [← HSN.out]; exact hL2, (HO.out.trans (Only.of_below hB.out.drew) (fun _ _ h => h)).trans hO2 (fun _ _ h => h)⟩
end Go.Proofs.Ytbaepjjanjhliaa.ord
