/- What an operator or an aggregate makes of operands of some kinds; walked. -/
import Derived.Test.YtjnlimahcodomaaCheckB
namespace Go.Proofs.Ytjnlimahcodomaa.ck
set_option linter.unusedVariables false
open Go.RowKit
open val (V null doV fitB notV negV ofB ofN ofS gB vv ag3 TV)
open ex (Er TE TQ of_fe plainP)
def iCells (l : List Int) : List Value := l.map (Value.int .i64)
theorem int_at {w : World} {a : Option Addr} {cap n : Nat} {l : List Int} {k : Nat} {x : Int} (hv : Row w (.slice a n cap) 1 n (iCells l)) (hk : k < n) (hx : l[k]? = some x) :
    ∃ b off, a = some ⟨b, off, none⟩ ∧ ∀ wq, Below w.heap.size w wq → wq.cell? ⟨b, off + k, none⟩ = some (.int .i64 x) ∧ b < wq.heap.size := by
  obtain ⟨b, off, cap', ea, hcell⟩ := hv.pos (by omega)
  simp only [Value.slice.injEq] at ea
  obtain ⟨rfl, -, rfl⟩ := ea
  refine ⟨b, off, rfl, fun wq hb => ?_⟩
  have g0 := cell_later hb ((hcell k (by omega)).trans (show (iCells l)[k]? = some (.int .i64 x) by unfold iCells; rw [List.getElem?_map, hx]; rfl))
  exact ⟨g0, World.block_lt_of_cell? wq _ g0⟩
theorem same_base {a : Option Addr} {b off b' off' : Nat} (h : a = some ⟨b, off, none⟩) (h' : a = some ⟨b', off', none⟩) : b = b' ∧ off = off' := by
  rw [h] at h'; simp only [Option.some.injEq, Addr.mk.injEq, and_true] at h'; exact h'
/-- a box for a value, that nobody reads -/
def B3 (W : World) (g : Nat) : Prop := ∃ x0 x1 x2, Flds W g TV [x0, x1, x2]
def T3 (W1 : World) (f : Nat → Value) (W W' : World) : Prop := Below W1.heap.size W W' ∧ ∀ g, B3 W g → B3 W' g
def V3 (W1 : World) (v : Value) (W : World) : Prop := ∃ g, v = .pointer (some ⟨g, 0, none⟩) ∧ W1.heap.size ≤ g ∧ B3 W g
theorem T3.of {W1 W W' : World} {f : Nat → Value} (h1 : W1.heap.size ≤ W.heap.size) (h : Below W.heap.size W W') : T3 W1 f W W' :=
  ⟨h.mono h1, fun g ⟨x0, x1, x2, hf⟩ => ⟨x0, x1, x2, hf.later h⟩⟩
theorem V3.keep {W1 W W' : World} {f : Nat → Value} {v : Value} (h : V3 W1 v W) (ht : T3 W1 f W W') : V3 W1 v W' := by
  obtain ⟨g, h1, h2, h3⟩ := h
  exact ⟨g, h1, h2, ht.2 g h3⟩
theorem T3.set {W1 W : World} {f : Nat → Value} {g : Nat} (hg : W1.heap.size ≤ g) (a b c : Value) : T3 W1 f W (((W.setCell ⟨g, 0, none⟩ a).setCell ⟨g, 1, none⟩ b).setCell ⟨g, 2, none⟩ c) := by
  refine ⟨(((Below.refl _ _).setCell hg _).setCell hg _).setCell hg _, fun g' ⟨x0, x1, x2, hf⟩ => ?_⟩
  by_cases e : g' = g
  · subst e
    exact ⟨_, _, _, ((hf.set 0 a).set 1 b).set 2 c⟩
  · exact ⟨x0, x1, x2, ((hf.other _ _ e).other _ _ e).other _ _ e⟩
theorem fd3z {W : World} {g : Nat} {T : TypeId} {a0 a1 a2 : Value} (h : Flds W g T [a0, a1, a2]) : W.cell? ⟨g, 0, none⟩ = some a0 ∧ W.cell? ⟨g, 1, none⟩ = some a1 ∧ W.cell? ⟨g, 2, none⟩ = some a2 ∧ W.frozen? ⟨g, 0, none⟩ = false ∧ W.frozen? ⟨g, 1, none⟩ = false ∧ W.frozen? ⟨g, 2, none⟩ = false ∧ g < W.heap.size := ⟨h.cell 0, h.cell 1, h.cell 2, h.frozen 0, h.frozen 1, h.frozen 2, h.lt⟩
theorem T3.below {W1 W W' : World} {f : Nat → Value} (h : T3 W1 f W W') : Below W1.heap.size W W' := h.1
theorem V3.out {W1 W : World} {v : Value} (h : V3 W1 v W) : ∃ g, v = .pointer (some ⟨g, 0, none⟩) ∧ W1.heap.size ≤ g ∧ B3 W g := h
theorem B3.out {W : World} {g : Nat} (h : B3 W g) : ∃ x0 x1 x2, Flds W g TV [x0, x1, x2] := h
theorem V3.new {W1 W : World} (h : W1.heap.size ≤ W.heap.size) : V3 W1 (.pointer (some ⟨W.heap.size, 0, none⟩)) (W.alloc (.cells #[.int .i64 0, .int .i64 0, .string (ByteArray.mk #[])] TV)) := ⟨_, rfl, h, _, _, _, Flds.new W TV _⟩
attribute [local irreducible] B3 T3 V3
def binT (op k0 k1 : Int) : Int × Int := if fitB op k0 k1 = true then (resT op, 0) else (0, 5)
set_option maxRecDepth 100000 in
set_option maxHeartbeats 2000000 in
theorem apply_bin (r : Er) (ar : Option Addr) (nr cr : Nat) (hlv : r.lv = .slice ar nr cr) (k0 k1 : Int) (a : Option Addr) (c : Nat) (h3 : r.k = 3) (ho : 1 ≤ r.op ∧ r.op ≤ 14) (hk0 : 0 ≤ k0 ∧ k0 ≤ 3) (hk1 : 0 ≤ k1 ∧ k1 ≤ 3) (w : World) (hr : Row w (.slice a 2 c) 1 2 (iCells [k0, k1])) :
    Calls Try.prog 23 #[r.val, .slice a 2 c] w fun en w' => en = .returned (.tuple #[.int .i64 (binT r.op k0 k1).1, .int .i64 (binT r.op k0 k1).2]) ∧ Below w.heap.size w w' := by
  obtain ⟨rk, rop, rv, rtb, rnm, rlv⟩ := r
  dsimp only at hlv h3 ho ⊢
  subst hlv h3
  unfold Er.val
  dsimp only
  obtain ⟨b, off, ha, hc0⟩ := int_at hr (k := 0) (by decide) rfl
  obtain ⟨b', off', ha', hc1⟩ := int_at hr (k := 1) (by decide) rfl
  obtain ⟨rfl, rfl⟩ := same_base ha ha'
  subst ha
  obtain ⟨WX, hW1⟩ : ∃ WX, w.alloc (.cells #[.int .i64 3, .int .i64 rop, .int .i64 rv.k, .int .i64 rv.n, .string rv.s, .string rtb, .string rnm, .slice ar nr cr] TE) = WX := ⟨_, rfl⟩
  have hfe : Flds WX w.heap.size TE [.int .i64 3, .int .i64 rop, .int .i64 rv.k, .int .i64 rv.n, .string rv.s, .string rtb, .string rnm, .slice ar nr cr] := by rw [← hW1]; exact Flds.new w TE _
  have hb0 : Below w.heap.size w WX := by rw [← hW1]; exact (Below.refl _ _).alloc (Nat.le_refl _) _
  obtain ⟨p0, hp0⟩ : ∃ p, sampV k0 = p := ⟨_, rfl⟩
  obtain ⟨p1, hp1⟩ : ∃ p, sampV k1 = p := ⟨_, rfl⟩
  have hs0 : ∀ W, Calls Try.prog 37 #[.int .i64 k0] W fun en w' => en = .returned (vv p0) ∧ Below W.heap.size W w' := fun W => by rw [← hp0]; exact sample_any k0 W
  have hs1 : ∀ W, Calls Try.prog 37 #[.int .i64 k1] W fun en w' => en = .returned (vv p1) ∧ Below W.heap.size W w' := fun W => by rw [← hp1]; exact sample_any k1 W
  obtain ⟨D, hD⟩ : ∃ D, doV rop p0 p1 = D := ⟨_, rfl⟩
  have hd : ∀ W, Calls Try.prog 31 #[.int .i64 rop, vv p0, vv p1] W fun en w' => en = .returned (.tuple #[vv D.1, .int .i64 D.2]) ∧ Below W.heap.size W w' := fun W => by
    have := val.do_any rop p0.k p0.n p1.k p1.n p0.s p1.s W (by have := sampV_good k0; rw [hp0] at this; exact this) (by have := sampV_good k1; rw [hp1] at this; exact this)
    rw [← hD]; exact this
  have hde : D.2 = 5 ↔ fitB rop k0 k1 = false := by
    rw [← hD, do_err ho, ← hp0, ← hp1, sampV_k hk0, sampV_k hk1]
  obtain ⟨D1, D2⟩ := D
  obtain ⟨Dk, Dn, Ds⟩ := D1
  dsimp only at hd hde
  have HS0 := Lib.hid hs0; have HS1 := Lib.hid hs1; have HD := Lib.hid hd; have HDE := Lib.hid hde
  have HW1 := Lib.hid hW1; have HB0 := Lib.hid hb0
  have HE := Lib.hid (fun (W : World) (hb : Below WX.heap.size WX W) => of_fe (hfe.later hb))
  have HC0 := Lib.hid (fun (W : World) (hb : Below WX.heap.size WX W) => hc0 W (hb0.trans (hb.mono hb0.size)))
  have HC1 := Lib.hid (fun (W : World) (hb : Below WX.heap.size WX W) => hc1 W (hb0.trans (hb.mono hb0.size)))
  obtain ⟨e0, e1, e2, e3, e4, e5, e6, e7, l5⟩ := HE.out WX (Below.refl _ _)
  clear hs0 hs1 hd hde hW1 hb0 hfe hc0 hc1 hD hp0 hp1 hr ho hk0 hk1
  go_enter Try.func23, Try.ntmps23
  go_upto_region 1 with fail
  rw [HW1.out]
  go_upto_region 2 with fail
  clear e0 e1 e2 e3 e4 e5 e6 e7 l5
  apply ag.region_ag  (fun W => Below WX.heap.size WX W) (fun _ _ _ _ => True) (ag.Spec.val _ :: ag.Spec.val _ :: ag.Spec.val _ :: ag.Spec.val _ :: ag.Spec.val _ :: ag.Spec.sat (fun v _ => v = vv p0) (T3 WX) :: ag.Spec.val _ :: ag.Spec.val _ :: ag.Spec.val _ :: ag.Spec.sat (fun v _ => v = vv p1) (T3 WX) :: ag.Spec.sat (fun v _ => v = .tuple #[ag3 Dk Dn Ds, .int .i64 D2]) (T3 WX) :: ag.Spec.val _ :: ag.Spec.val _ :: ag.Spec.val _ :: ag.Spec.sat (V3 WX) (T3 WX) :: ag.Spec.sat (fun _ _ => True) (T3 WX) :: ag.Spec.val _ :: [])
  case hm => kernel_rfl
  case hB => kernel_rfl
  case hlen => rfl
  case hS => exact (Below.refl _ _).drew
  case hst =>
    simp only [ag.Stab, ag.Row2, ag.Ok2, and_true]
    repeat' apply And.intro
    all_goals first
      | exact fun h => absurd rfl h
      | (exact fun _ _ f v W W' _ hv _ ht => V3.keep hv ht)
      | (exact fun _ _ f v W W' _ hv _ ht => hv)
      | trivial
      | exact fun _ h => absurd (h.symm.trans (show _ = true by kernel_rfl)) (by decide)
  case hk =>
    simp only [ag.Keeps, and_true]
    repeat' apply And.intro
    all_goals first
      | (exact fun f W W' hS _ ht => hS.trans (T3.below ht))
      | trivial
  apply ag.walk_val
  · rfl
  · intro W1 hS hE
    obtain ⟨y0, y1, y2, y3, y4, y5, y6, y7, l3⟩ := HE.out W1 hS
    clear hS hE
    all_goals unfold ag.does
    all_goals go_simp
    all_goals first | done | exact ⟨rfl, rfl⟩ | rfl | (exact ⟨by go_num, rfl⟩) | (simp; done) | trace_state
  simp only [Act.put, List.setIfInBounds_toArray, List.set_cons_zero, List.set_cons_succ]
  apply ag.walk_val
  · rfl
  · intro W1 hS hE
    obtain ⟨y0, y1, y2, y3, y4, y5, y6, y7, l3⟩ := HE.out W1 hS
    clear hS hE
    all_goals unfold ag.does
    all_goals go_simp
    all_goals first | done | exact ⟨rfl, rfl⟩ | rfl | (exact ⟨by go_num, rfl⟩) | (simp; done) | trace_state
  simp only [Act.put, List.setIfInBounds_toArray, List.set_cons_zero, List.set_cons_succ]
  apply ag.walk_val
  · rfl
  · intro W1 hS hE
    clear hS hE
    all_goals unfold ag.does
    all_goals go_simp
    all_goals first | done | exact ⟨rfl, rfl⟩ | rfl | (exact ⟨by go_num, rfl⟩) | (simp; done) | trace_state
  simp only [Act.put, List.setIfInBounds_toArray, List.set_cons_zero, List.set_cons_succ]
  apply ag.walk_val
  · rfl
  · intro W1 hS hE
    clear hS hE
    all_goals unfold ag.does
    all_goals go_simp
    all_goals first | done | exact ⟨rfl, rfl⟩ | rfl | (exact ⟨by go_num, rfl⟩) | (simp; done) | trace_state
  simp only [Act.put, List.setIfInBounds_toArray, List.set_cons_zero, List.set_cons_succ]
  apply ag.walk_val
  · rfl
  · intro W1 hS hE
    obtain ⟨y0, l3⟩ := HC0.out W1 hS
    (try simp only [Nat.add_zero] at y0)
    clear hS hE
    all_goals unfold ag.does
    all_goals go_simp
    all_goals first | done | exact ⟨rfl, rfl⟩ | rfl | (exact ⟨by go_num, rfl⟩) | (simp; done) | trace_state
  simp only [Act.put, List.setIfInBounds_toArray, List.set_cons_zero, List.set_cons_succ]
  refine ag.walk_sat (by rfl) (fun W1 hS hE => ?_) (fun y5 => ?_)
  · have hc := HS0.out W1
    have hsz := hS.size
    clear hE
    all_goals unfold ag.does
    all_goals go_simp
    all_goals first | done | (exact hc.mono (fun e w' h => ⟨_, h.1, rfl, T3.of hsz h.2, ag.News.none (fun _ _ => trivial) _ _⟩))
  simp only [Act.put, List.setIfInBounds_toArray, List.set_cons_zero, List.set_cons_succ]
  apply ag.walk_val
  · rfl
  · intro W1 hS hE
    clear hS hE
    all_goals unfold ag.does
    all_goals go_simp
    all_goals first | done | exact ⟨rfl, rfl⟩ | rfl | (exact ⟨by go_num, rfl⟩) | (simp; done) | trace_state
  simp only [Act.put, List.setIfInBounds_toArray, List.set_cons_zero, List.set_cons_succ]
  apply ag.walk_val
  · rfl
  · intro W1 hS hE
    clear hS hE
    all_goals unfold ag.does
    all_goals go_simp
    all_goals first | done | exact ⟨rfl, rfl⟩ | rfl | (exact ⟨by go_num, rfl⟩) | (simp; done) | trace_state
  simp only [Act.put, List.setIfInBounds_toArray, List.set_cons_zero, List.set_cons_succ]
  apply ag.walk_val
  · rfl
  · intro W1 hS hE
    obtain ⟨y0, l3⟩ := HC1.out W1 hS
    clear hS hE
    all_goals unfold ag.does
    all_goals go_simp
    all_goals first | done | exact ⟨rfl, rfl⟩ | rfl | (exact ⟨by go_num, rfl⟩) | (simp; done) | trace_state
  simp only [Act.put, List.setIfInBounds_toArray, List.set_cons_zero, List.set_cons_succ]
  refine ag.walk_sat (by rfl) (fun W1 hS hE => ?_) (fun y9 => ?_)
  · have hc := HS1.out W1
    have hsz := hS.size
    clear hE
    all_goals unfold ag.does
    all_goals go_simp
    all_goals first | done | (exact hc.mono (fun e w' h => ⟨_, h.1, rfl, T3.of hsz h.2, ag.News.none (fun _ _ => trivial) _ _⟩))
  simp only [Act.put, List.setIfInBounds_toArray, List.set_cons_zero, List.set_cons_succ]
  refine ag.walk_sat (by rfl) (fun W1 hS hE => ?_) (fun y10 => ?_)
  · have f5 : y5 = vv p0 := hE.of 5 (by kernel_rfl)
    subst f5
    have f9 : y9 = vv p1 := hE.of 9 (by kernel_rfl)
    subst f9
    have hc := HD.out W1
    have hsz := hS.size
    clear hE
    all_goals unfold ag.does
    all_goals go_simp
    all_goals first | done | (exact hc.mono (fun e w' h => ⟨_, h.1, rfl, T3.of hsz h.2, ag.News.none (fun _ _ => trivial) _ _⟩))
  simp only [Act.put, List.setIfInBounds_toArray, List.set_cons_zero, List.set_cons_succ]
  apply ag.walk_val
  · rfl
  · intro W1 hS hE
    have f10 : y10 = .tuple #[ag3 Dk Dn Ds, .int .i64 D2] := hE.of 10 (by kernel_rfl)
    subst f10
    clear hS hE
    all_goals unfold ag.does
    all_goals go_simp
    all_goals first | done | exact ⟨rfl, rfl⟩ | rfl | (exact ⟨by go_num, rfl⟩) | (simp; done) | trace_state
  simp only [Act.put, List.setIfInBounds_toArray, List.set_cons_zero, List.set_cons_succ]
  apply ag.walk_val
  · rfl
  · intro W1 hS hE
    clear hS hE
    all_goals unfold ag.does
    all_goals go_simp
    all_goals first | done | exact ⟨rfl, rfl⟩ | rfl | (exact ⟨by go_num, rfl⟩) | (simp; done) | trace_state
  simp only [Act.put, List.setIfInBounds_toArray, List.set_cons_zero, List.set_cons_succ]
  apply ag.walk_val
  · rfl
  · intro W1 hS hE
    clear hS hE
    all_goals unfold ag.does
    all_goals go_simp
    all_goals first | done | exact ⟨rfl, rfl⟩ | rfl | (exact ⟨by go_num, rfl⟩) | (simp; done) | trace_state
  simp only [Act.put, List.setIfInBounds_toArray, List.set_cons_zero, List.set_cons_succ]
  refine ag.walk_sat (by rfl) (fun W1 hS hE => ?_) (fun y14 => ?_)
  · have hsz := hS.size
    clear hE
    all_goals unfold ag.does
    all_goals go_simp
    all_goals first | done | (exact ⟨V3.new hsz, T3.of hsz ((Below.refl _ _).alloc (Nat.le_refl _) _), ag.News.none (fun _ _ => trivial) _ _⟩)
  simp only [Act.put, List.setIfInBounds_toArray, List.set_cons_zero, List.set_cons_succ]
  refine ag.walk_sat (by rfl) (fun W1 hS hE => ?_) (fun y15 => ?_)
  · have f14 : V3 WX y14 W1 := hE.of 14 (by kernel_rfl)
    clear hE
    obtain ⟨g, rfl, hg, hb3⟩ := V3.out f14
    obtain ⟨x0, x1, x2, hff⟩ := B3.out hb3
    obtain ⟨q0, q1, q2, z0, z1, z2, lg⟩ := fd3z hff
    all_goals unfold ag.does
    all_goals go_simp
    all_goals first | done | (first | exact ⟨T3.set hg _ _ _, ag.News.none (fun _ _ => trivial) _ _⟩ | exact ⟨trivial, T3.set hg _ _ _, ag.News.none (fun _ _ => trivial) _ _⟩)
  simp only [Act.put, List.setIfInBounds_toArray, List.set_cons_zero, List.set_cons_succ]
  apply ag.walk_val
  · rfl
  · intro W1 hS hE
    clear hS hE
    all_goals unfold ag.does
    all_goals go_simp
    all_goals first | done | exact ⟨rfl, rfl⟩ | rfl | (exact ⟨by go_num, rfl⟩) | (simp; done) | trace_state
  simp only [Act.put, List.setIfInBounds_toArray, List.set_cons_zero, List.set_cons_succ]
  refine ag.walk_nil (fun w9 hS hF hP => ?_)
  clear hP
  clear hF
  have HB9 := Lib.hid (HB0.out.trans (hS.mono HB0.out.size))
  obtain ⟨e0, e1, e2, e3, e4, e5, e6, e7, l5⟩ := HE.out w9 hS
  clear hS
  by_cases h5 : D2 = 5
  · have hf := HDE.out.1 h5
    have HFB := Lib.hid hf
    subst h5
    clear hf HDE HD
    go_wp2_with fail
    refine bodyPost_ret (results_tmp2 rfl _ _ _) rfl ?_
    exact ⟨by unfold binT; rw [if_neg (by rw [HFB.out]; decide)]; rfl, HB9.out⟩
  · have hf : fitB rop k0 k1 = true := by
      cases h : fitB rop k0 k1 with
      | true => rfl
      | false => exact absurd (HDE.out.2 h) h5
    have HFB := Lib.hid hf
    have b5 : (D2 == 5) = false := by simpa using h5
    clear hf HDE HD h5
    go_wp2_with (go_at_call 38; refine (result_any rop w9).mono ?_; rintro e w' ⟨rfl, rfl⟩)
    refine bodyPost_ret (results_tmp2 rfl _ _ _) rfl ?_
    exact ⟨by unfold binT; rw [if_pos HFB.out]; rfl, HB9.out⟩
set_option maxRecDepth 100000 in
set_option maxHeartbeats 2000000 in
theorem apply_one (r : Er) (ar : Option Addr) (nr cr : Nat) (hlv : r.lv = .slice ar nr cr) (k0 : Int) (a : Option Addr) (c : Nat) (hk : r.k = 4 ∨ r.k = 5 ∨ (r.k = 8 ∧ r.op ≠ 1)) (w : World) (hr : Row w (.slice a 1 c) 1 1 (iCells [k0])) :
    Calls Try.prog 23 #[r.val, .slice a 1 c] w fun en w' => en = .returned (if r.k = 8 ∧ r.op ≠ 2 then .tuple #[.int .i64 k0, .int .i64 0] else if r.k = 4 then .tuple #[.int .i64 (onlyT 1 k0).1, .int .i64 (onlyT 1 k0).2] else .tuple #[.int .i64 (onlyT 2 k0).1, .int .i64 (onlyT 2 k0).2]) ∧ Below w.heap.size w w' := by
  obtain ⟨rk, rop, rv, rtb, rnm, rlv⟩ := r
  dsimp only at hlv hk ⊢
  subst hlv
  unfold Er.val
  dsimp only
  obtain ⟨b, off, ha, hc0⟩ := int_at hr (k := 0) (by decide) rfl
  subst ha
  obtain ⟨WX, hW1⟩ : ∃ WX, w.alloc (.cells #[.int .i64 rk, .int .i64 rop, .int .i64 rv.k, .int .i64 rv.n, .string rv.s, .string rtb, .string rnm, .slice ar nr cr] TE) = WX := ⟨_, rfl⟩
  have hfe : Flds WX w.heap.size TE [.int .i64 rk, .int .i64 rop, .int .i64 rv.k, .int .i64 rv.n, .string rv.s, .string rtb, .string rnm, .slice ar nr cr] := by rw [← hW1]; exact Flds.new w TE _
  have hb0 : Below w.heap.size w WX := by rw [← hW1]; exact (Below.refl _ _).alloc (Nat.le_refl _) _
  obtain ⟨q0, lb⟩ := hc0 WX hb0
  simp only [Nat.add_zero] at q0
  obtain ⟨e0, e1, e2, e3, e4, e5, e6, e7, l5⟩ := of_fe hfe
  have HW1 := Lib.hid hW1; have HB0 := Lib.hid hb0
  clear hW1 hb0 hfe hc0 hr
  rcases hk with rfl | rfl | ⟨rfl, h1⟩
  · rw [if_neg (by rintro ⟨h, -⟩; revert h; decide), if_pos rfl]
    go_enter Try.func23, Try.ntmps23
    go_upto_region 1 with fail
    rw [HW1.out]
    go_wp2_with (go_at_call 39; refine (only_any 1 k0 WX).mono ?_; rintro e w' ⟨rfl, rfl⟩)
    refine bodyPost_ret (results_tmp2 rfl _ _ _) rfl ?_
    exact ⟨rfl, HB0.out⟩
  · rw [if_neg (by rintro ⟨h, -⟩; revert h; decide), if_neg (by decide)]
    go_enter Try.func23, Try.ntmps23
    go_upto_region 1 with fail
    rw [HW1.out]
    go_wp2_with (go_at_call 39; refine (only_any 2 k0 WX).mono ?_; rintro e w' ⟨rfl, rfl⟩)
    refine bodyPost_ret (results_tmp2 rfl _ _ _) rfl ?_
    exact ⟨rfl, HB0.out⟩
  · have b1 : (rop == 1) = false := by simpa using h1
    by_cases h2 : rop = 2
    · subst h2
      rw [if_neg (by decide), if_neg (by decide)]
      go_enter Try.func23, Try.ntmps23
      go_upto_region 1 with fail
      rw [HW1.out]
      go_wp2_with (go_at_call 39; refine (only_any 2 k0 WX).mono ?_; rintro e w' ⟨rfl, rfl⟩)
      refine bodyPost_ret (results_tmp2 rfl _ _ _) rfl ?_
      exact ⟨rfl, HB0.out⟩
    · have b2 : (rop != 2) = true := by simpa using h2
      rw [if_pos ⟨rfl, h2⟩]
      clear h1 h2
      go_enter Try.func23, Try.ntmps23
      go_upto_region 1 with fail
      rw [HW1.out]
      go_wp2_with fail
      refine bodyPost_ret (results_tmp2 rfl _ _ _) rfl ?_
      exact ⟨rfl, HB0.out⟩
set_option maxRecDepth 100000 in
set_option maxHeartbeats 1000000 in
theorem apply_count (r : Er) (ar : Option Addr) (nr cr : Nat) (hlv : r.lv = .slice ar nr cr) (a : Option Addr) (n c : Nat) (hk : r.k = 8 ∧ r.op = 1) (w : World) :
    Calls Try.prog 23 #[r.val, .slice a n c] w fun en w' => en = .returned (.tuple #[.int .i64 2, .int .i64 0]) ∧ Below w.heap.size w w' := by
  obtain ⟨rk, rop, rv, rtb, rnm, rlv⟩ := r
  dsimp only at hlv hk ⊢
  obtain ⟨rfl, rfl⟩ := hk
  subst hlv
  unfold Er.val
  dsimp only
  obtain ⟨WX, hW1⟩ : ∃ WX, w.alloc (.cells #[.int .i64 8, .int .i64 1, .int .i64 rv.k, .int .i64 rv.n, .string rv.s, .string rtb, .string rnm, .slice ar nr cr] TE) = WX := ⟨_, rfl⟩
  have hfe : Flds WX w.heap.size TE [.int .i64 8, .int .i64 1, .int .i64 rv.k, .int .i64 rv.n, .string rv.s, .string rtb, .string rnm, .slice ar nr cr] := by rw [← hW1]; exact Flds.new w TE _
  have hb0 : Below w.heap.size w WX := by rw [← hW1]; exact (Below.refl _ _).alloc (Nat.le_refl _) _
  obtain ⟨e0, e1, e2, e3, e4, e5, e6, e7, l5⟩ := of_fe hfe
  have HW1 := Lib.hid hW1; have HB0 := Lib.hid hb0
  clear hW1 hb0 hfe
  go_enter Try.func23, Try.ntmps23
  go_upto_region 1 with fail
  rw [HW1.out]
  go_wp2_with fail
  refine bodyPost_ret (results_tmp2 rfl _ _ _) rfl ?_
  exact ⟨rfl, HB0.out⟩
end Go.Proofs.Ytjnlimahcodomaa.ck
