/- Whether two expressions are the same: the program's and the document's, walked. -/
import Derived.Test.YtjnlimahcodomaaExprB
import Derived.Deep.CutBlock
import Derived.StillTailTactics
namespace Go.Proofs.Ytjnlimahcodomaa.ex
set_option linter.unusedVariables false
open Go.RowKit
open val (V null veq6)
/-- are two the same? -/
noncomputable def eqE (a b : Ex) : Bool := @decide (a = b) (Classical.propDecidable _)
noncomputable def eqL (a b : List Ex) : Bool := @decide (a = b) (Classical.propDecidable _)
noncomputable def eqF (a b : Ex) : Bool := @decide (a.k = b.k ∧ a.op = b.op ∧ a.v = b.v ∧ a.tb = b.tb ∧ a.nm = b.nm) (Classical.propDecidable _)
theorem eqE_parts (a b : Ex) : eqE a b = (eqF a b && eqL a.l b.l) := by
  rw [Bool.eq_iff_iff, Bool.and_eq_true]
  unfold eqE eqF eqL
  simp only [decide_eq_true_eq]
  cases a; cases b
  simp only [Ex.k, Ex.op, Ex.v, Ex.tb, Ex.nm, Ex.l, Ex.mk.injEq, and_assoc]
theorem eqE_self (a : Ex) : eqE a a = true := by unfold eqE; simp
theorem eqE_yes {a b : Ex} : eqE a b = true ↔ a = b := by unfold eqE; simp
theorem take_more {α : Type} {la lb : List α} {k : Nat} {x y : α} (h : la.take k = lb.take k) (hx : la[k]? = some x) (hy : lb[k]? = some y) : la.take (k + 1) = lb.take (k + 1) ↔ x = y := by
  obtain ⟨ha, rfl⟩ := List.getElem?_eq_some_iff.1 hx
  obtain ⟨hb, rfl⟩ := List.getElem?_eq_some_iff.1 hy
  rw [List.take_succ_eq_append_getElem ha, List.take_succ_eq_append_getElem hb, h]
  simp only [List.append_right_inj, List.cons.injEq, and_true]
theorem bytes_no {a b : ByteArray} (h : a ≠ b) : (a.toList == b.toList) = false := by
  have : ¬ a.toList = b.toList := fun h' => h (by rw [Lib.toList_data, Lib.toList_data] at h'; exact ByteArray.ext (Array.toList_inj.1 h'))
  simpa using this
theorem run_eqlX (k n : Int) (s : ByteArray) (k' n' : Int) (s' : ByteArray) (w : World) : (binOp .eql 33 (.agg #[.int .i64 k, .int .i64 n, .string s]) (.agg #[.int .i64 k', .int .i64 n', .string s'])).run Try.prog w = .ok (.bool (veq6 k n s k' n' s')) w := by
  rw [run_eql_struct]
  go_simp
  unfold veq6
  by_cases h1 : k = k' <;> by_cases h2 : n = n' <;> by_cases h3 : s.toList = s'.toList <;> simp [h1, h2, h3]
theorem run_neqX (k n : Int) (s : ByteArray) (k' n' : Int) (s' : ByteArray) (w : World) : (binOp .neq 26 (.agg #[.int .i64 k, .int .i64 n, .string s]) (.agg #[.int .i64 k', .int .i64 n', .string s'])).run Try.prog w = .ok (.bool (!veq6 k n s k' n' s')) w := by
  rw [run_neq_struct]
  go_simp
  unfold veq6
  by_cases h1 : k = k' <;> by_cases h2 : n = n' <;> by_cases h3 : s.toList = s'.toList <;> simp [h1, h2, h3]
theorem veq_yes (v : V) : veq6 v.k v.n v.s v.k v.n v.s = true := by unfold veq6; simp
theorem veq_no {v u : V} (h : v ≠ u) : veq6 v.k v.n v.s u.k u.n u.s = false := by
  unfold veq6
  cases v; cases u
  simp only [ne_eq, V.mk.injEq, not_and] at h
  rename_i a b c x y z
  by_cases h1 : a = x
  · by_cases h2 : b = y
    · have := bytes_no (h h1 h2)
      simp [h1, h2] at this ⊢; exact this
    · simp [h2]
  · simp [h1]
set_option maxRecDepth 100000 in
set_option maxHeartbeats 4000000 in
theorem fields_any (r s : Er) (w : World) (ar ax : Option Addr) (nr ns cr cs : Nat) (hr : r.lv = .slice ar nr cr) (hs : s.lv = .slice ax ns cs) :
    Calls Try.prog 29 #[r.val, s.val] w fun en w' => en = .returned (.bool (@decide (r.k = s.k ∧ r.op = s.op ∧ r.v = s.v ∧ r.tb = s.tb ∧ r.nm = s.nm) (Classical.propDecidable _))) ∧ Below w.heap.size w w' := by
  obtain ⟨rk, rop, rv, rtb, rnm, rlv⟩ := r
  obtain ⟨sk, sop, sv, stb, snm, slv⟩ := s
  dsimp only at hr hs
  subst hr
  subst hs
  unfold Er.val
  dsimp only
  obtain ⟨B, hB⟩ : ∃ B, @decide (rk = sk ∧ rop = sop ∧ rv = sv ∧ rtb = stb ∧ rnm = snm) (Classical.propDecidable _) = B := ⟨_, rfl⟩
  rw [hB]
  have HB := Lib.hid hB
  clear hB
  by_cases e1 : rk = sk
  · subst e1
    have h1 : (rk == rk) = true := by simp
    by_cases e2 : rop = sop
    · subst e2
      have h2 : (rop == rop) = true := by simp
      by_cases e3 : rv = sv
      · subst e3
        have h3 : ∀ W : World, (binOp .eql 33 (.agg #[.int .i64 rv.k, .int .i64 rv.n, .string rv.s]) (.agg #[.int .i64 rv.k, .int .i64 rv.n, .string rv.s])).run Try.prog W = .ok (.bool true) W := fun W => by rw [run_eqlX, veq_yes]
        by_cases e4 : rtb = stb
        · subst e4
          have h4 : (rtb.toList == rtb.toList) = true := by simp
          by_cases e5 : rnm = snm
          · subst e5
            have h5 : (rnm.toList == rnm.toList) = true := by simp
            obtain rfl : B = true := by rw [← HB.out]; simp
            clear HB
            go_enter Try.func29, Try.ntmps29
            go_wp2_with fail
            go_ret
            exact ⟨rfl, ((Below.refl _ _).alloc (Nat.le_refl _) _).alloc (by simp) _⟩
          · have h5 := bytes_no e5
            obtain rfl : B = false := by rw [← HB.out]; simp [e5]
            clear HB e5
            go_enter Try.func29, Try.ntmps29
            go_wp2_with fail
            go_ret
            exact ⟨rfl, ((Below.refl _ _).alloc (Nat.le_refl _) _).alloc (by simp) _⟩
        · have h4 := bytes_no e4
          obtain rfl : B = false := by rw [← HB.out]; simp [e4]
          clear HB e4
          go_enter Try.func29, Try.ntmps29
          go_wp2_with fail
          go_ret
          exact ⟨rfl, ((Below.refl _ _).alloc (Nat.le_refl _) _).alloc (by simp) _⟩
      · have h3 : ∀ W : World, (binOp .eql 33 (.agg #[.int .i64 rv.k, .int .i64 rv.n, .string rv.s]) (.agg #[.int .i64 sv.k, .int .i64 sv.n, .string sv.s])).run Try.prog W = .ok (.bool false) W := fun W => by rw [run_eqlX, veq_no e3]
        obtain rfl : B = false := by rw [← HB.out]; simp [e3]
        clear HB e3
        go_enter Try.func29, Try.ntmps29
        go_wp2_with fail
        go_ret
        exact ⟨rfl, ((Below.refl _ _).alloc (Nat.le_refl _) _).alloc (by simp) _⟩
    · have h2 : (rop == sop) = false := by simpa using e2
      obtain rfl : B = false := by rw [← HB.out]; simp [e2]
      clear HB e2
      go_enter Try.func29, Try.ntmps29
      go_wp2_with fail
      go_ret
      exact ⟨rfl, ((Below.refl _ _).alloc (Nat.le_refl _) _).alloc (by simp) _⟩
  · have h1 : (rk == sk) = false := by simpa using e1
    obtain rfl : B = false := by rw [← HB.out]; simp [e1]
    clear HB e1
    go_enter Try.func29, Try.ntmps29
    go_wp2_with fail
    go_ret
    exact ⟨rfl, ((Below.refl _ _).alloc (Nat.le_refl _) _).alloc (by simp) _⟩
set_option maxRecDepth 100000 in
set_option maxHeartbeats 4000000 in
theorem equal_any (d : Nat) (X Y : Nat → Prop) (IH : ∀ (a b : Ex) (r s : Er) (w : World), ExAt TE X d w a r → ExAt TE Y d w b s → Calls Try.prog 14 #[r.val, s.val] w fun en w' => en = .returned (.bool (eqE a b)) ∧ Below w.heap.size w w')
    (la lb : List Ex) (us vs : List Er) (aa ab : Option Addr) (ca cb : Nat) (w : World) (hua : us.length = la.length) (hub : vs.length = lb.length) (hra : w.ownsRow 0 TE 8 (.slice aa la.length ca) la.length (erCells us)) (hrb : w.ownsRow 0 TE 8 (.slice ab lb.length cb) lb.length (erCells vs))
    (hca : ∀ (i : Nat) x u, la[i]? = some x → us[i]? = some u → ExAt TE X d w x u) (hcb : ∀ (i : Nat) x u, lb[i]? = some x → vs[i]? = some u → ExAt TE Y d w x u) :
    Calls Try.prog 30 #[.slice aa la.length ca, .slice ab lb.length cb, .func (.func 14) #[] #[]] w fun en w' => en = .returned (.bool (eqL la lb)) ∧ Below w.heap.size w w' := by
  have sm : ∀ {a : Option Addr} {n c : Nat} {us : List Er}, w.ownsRow 0 TE 8 (.slice a n c) n (erCells us) → n ≤ 9223372036854775807 := by
    intro a n c us h
    obtain ⟨-, ⟨-, h0⟩ | ⟨_, _, _, _, _, _, h1, h2, _⟩⟩ := h
    · omega
    · have : maxLen = 9223372036854775807 := rfl
      omega
  have ha1 := sm hra
  have hb1 := sm hrb
  have HIH := Lib.hid IH; have HUA := Lib.hid hua; have HUB := Lib.hid hub; have HRA := Lib.hid hra; have HRB := Lib.hid hrb; have HCA := Lib.hid hca; have HCB := Lib.hid hcb
  obtain ⟨na, hna⟩ : ∃ n, la.length = n := ⟨_, rfl⟩
  obtain ⟨nb, hnb⟩ : ∃ n, lb.length = n := ⟨_, rfl⟩
  rw [hna] at ha1 HRA ⊢
  rw [hnb] at hb1 HRB ⊢
  have HNA := Lib.hid hna; have HNB := Lib.hid hnb
  have a0 : (0 : Int) ≤ (na : Int) := by omega
  have a1 : (na : Int) ≤ 9223372036854775807 := by omega
  have b0 : (0 : Int) ≤ (nb : Int) := by omega
  have b1 : (nb : Int) ≤ 9223372036854775807 := by omega
  clear sm IH hua hub hra hrb hca hcb hna hnb
  by_cases hne : na = nb
  · subst hne
    have hq : ((na : Int) == (na : Int)) = true := by simp
    go_enter Try.func30, Try.ntmps30
    go_wp2_with fail
    go_loopw [17] (fun i wr => ∃ j : Nat, i = .int .i64 (j : Int) ∧ j ≤ na ∧ Hid (la.take j = lb.take j) ∧ Hid (Below w.heap.size w wr)) (fun i _ => na - (intOf i).toNat)
    case atStart => exact ⟨0, rfl, Nat.zero_le _, Lib.hid rfl, Lib.hid (Below.refl _ _)⟩
    case round =>
      obtain ⟨j, rfl, hj, HT, HB⟩ := hrel
      have j0 : (0 : Int) ≤ (j : Int) := by omega
      by_cases hjn : j < na
      · have dj : (j : Int) < (na : Int) := by omega
        have hja : j < la.length := by have := HNA.out; omega
        have hjb : j < lb.length := by have := HNB.out; omega
        have hju : j < us.length := by have := HUA.out; omega
        have hjv : j < vs.length := by have := HUB.out; omega
        have hx := List.getElem?_eq_getElem hja
        have hy := List.getElem?_eq_getElem hjb
        have hu := List.getElem?_eq_getElem hju
        have hv := List.getElem?_eq_getElem hjv
        generalize la[j] = x at hx
        generalize lb[j] = y at hy
        generalize us[j] = u at hu
        generalize vs[j] = v at hv
        have hxu := (HCA.out j x u hx hu).later HB.out
        have hyv := (HCB.out j y v hy hv).later HB.out
        obtain ⟨ga, rfl, hga, c0, c1, c2, c3, c4, c5, c6, c7⟩ := part_cells (owns_below HRA.out HB.out) hjn hu
        obtain ⟨gb, rfl, hgb, k0, k1, k2, k3, k4, k5, k6, k7⟩ := part_cells (owns_below HRB.out HB.out) hjn hv
        obtain ⟨d', rfl⟩ := hxu.pos
        obtain ⟨au, cu, us', hul', -⟩ := hxu.parts
        obtain ⟨av, cv, vs', hvl', -⟩ := hyv.parts
        obtain ⟨uk, uop, uv, utb, unm, ulv⟩ := u
        obtain ⟨vk, vop, vv, vtb, vnm, vlv⟩ := v
        dsimp only at hul' hvl' c0 c1 c2 c3 c4 c5 c6 c7 k0 k1 k2 k3 k4 k5 k6 k7
        subst hul'
        subst hvl'
        have HTS := Lib.hid (take_more HT.out hx hy)
        have HXY := Lib.hid (And.intro hx hy)
        obtain ⟨B, hB⟩ : ∃ B, eqE x y = B := ⟨_, rfl⟩
        have HC1 := Lib.hid (fun (W : World) (hb : Below wr.heap.size wr W) => show Calls Try.prog 14 #[.agg #[.int .i64 uk, .int .i64 uop, .int .i64 uv.k, .int .i64 uv.n, .string uv.s, .string utb, .string unm, .slice au x.l.length cu], .agg #[.int .i64 vk, .int .i64 vop, .int .i64 vv.k, .int .i64 vv.n, .string vv.s, .string vtb, .string vnm, .slice av y.l.length cv]] W (fun en w' => en = .returned (.bool B) ∧ Below W.heap.size W w') from hB ▸ HIH.out x y ⟨uk, uop, uv, utb, unm, .slice au x.l.length cu⟩ ⟨vk, vop, vv, vtb, vnm, .slice av y.l.length cv⟩ W (hxu.later hb) (hyv.later hb))
        have hbw : Below wr.heap.size wr ((wr.alloc (.cells #[.int .i64 uk, .int .i64 uop, .int .i64 uv.k, .int .i64 uv.n, .string uv.s, .string utb, .string unm, .slice au x.l.length cu] TE)).alloc (.cells #[.int .i64 vk, .int .i64 vop, .int .i64 vv.k, .int .i64 vv.n, .string vv.s, .string vtb, .string vnm, .slice av y.l.length cv] TE)) := ((Below.refl _ _).alloc (Nat.le_refl _) _).alloc (by simp) _
        have HC2 := Lib.hid (HC1.out _ hbw)
        have HBW := Lib.hid hbw
        have HBB := Lib.hid hB
        clear hx hy hu hv hxu hyv hja hjb hju hjv hbw hB HC1
        cases B with
        | true =>
          go_wp2_with (go_at_call 14; refine HC2.out.mono ?_; rintro en w2 ⟨rfl, hb2⟩; have HB2 := Lib.hid (HBW.out.trans (hb2.mono HBW.out.size)); clear hb2)
          go_roundw
          case rel => exact ⟨j + 1, by go_num, by omega, Lib.hid (HTS.out.2 (eqE_yes.1 HBB.out)), Lib.hid (HB.out.trans (HB2.out.mono HB.out.size))⟩
          case measure => simp [intOf]; omega
        | false =>
          go_wp2_with (go_at_call 14; refine HC2.out.mono ?_; rintro en w2 ⟨rfl, hb2⟩; have HB2 := Lib.hid (HBW.out.trans (hb2.mono HBW.out.size)); clear hb2)
          go_ret
          refine ⟨?_, HB.out.trans (HB2.out.mono HB.out.size)⟩
          have : la ≠ lb := fun h => by
            have h1 := HXY.out
            rw [h, h1.2] at h1
            have h2 := Option.some.inj h1.1
            have h3 := eqE_yes.2 h2.symm
            rw [HBB.out] at h3; cases h3
          exact congrArg (fun b => Ending.returned (Value.bool b)) (@decide_eq_false _ (Classical.propDecidable _) this).symm
      · have dj : ¬ (j : Int) < (na : Int) := by omega
        have HE : Hid (eqL la lb = true) := Lib.hid (by
          have h := HT.out
          rw [List.take_of_length_le (by have := HNA.out; omega), List.take_of_length_le (by have := HNB.out; omega)] at h
          exact @decide_eq_true _ (Classical.propDecidable _) h)
        go_wp2_with fail
        go_ret
        exact ⟨by rw [HE.out]; rfl, HB.out⟩
  · have hq : ((na : Int) == (nb : Int)) = false := by simp; omega
    have HE : Hid (eqL la lb = false) := Lib.hid (by
      have : la ≠ lb := fun h => hne (by rw [← HNA.out, ← HNB.out, h])
      exact @decide_eq_false _ (Classical.propDecidable _) this)
    go_enter Try.func30, Try.ntmps30
    go_wp2_with fail
    go_ret
    exact ⟨by rw [HE.out]; rfl, Below.refl _ _⟩
/-- two records in a place -/
theorem exat_fields {T : TypeId} {X : Nat → Prop} {W : World} {d : Nat} {e : Ex} {r : Er} (h : ExAt T X d W e r) : r.k = e.k ∧ r.op = e.op ∧ r.v = e.v ∧ r.tb = e.tb ∧ r.nm = e.nm := by
  obtain ⟨d', rfl⟩ := h.pos
  obtain ⟨h1, h2, h3, h4, h5, -⟩ := h
  exact ⟨h1, h2, h3, h4, h5⟩
set_option maxRecDepth 100000 in
set_option maxHeartbeats 4000000 in
theorem same_any : ∀ (d : Nat) (X Y : Nat → Prop) (a b : Ex) (r s : Er) (w : World), ExAt TE X d w a r → ExAt TE Y d w b s →
    Calls Try.prog 14 #[r.val, s.val] w fun en w' => en = .returned (.bool (eqE a b)) ∧ Below w.heap.size w w'
  | 0, _, _, _, _, _, _, _, h, _ => h.elim
  | d + 1, X, Y, a, b, r, s, w, h, h' => by
    have IH := Lib.hid (same_any d X Y)
    obtain ⟨aa, ca, us, hla, hua, hra, hca⟩ := h.parts
    obtain ⟨ab, cb, vs, hlb, hub, hrb, hcb⟩ := h'.parts
    obtain ⟨f1, f2, f3, f4, f5⟩ := exat_fields h
    obtain ⟨g1, g2, g3, g4, g5⟩ := exat_fields h'
    have HF := Lib.hid (fun (W : World) => fields_any r s W aa ab _ _ ca cb hla hlb)
    rw [f1, f2, f3, f4, f5, g1, g2, g3, g4, g5] at HF
    have HQ := Lib.hid (fun (W : World) (hb : Below w.heap.size w W) => equal_any d X Y IH.out a.l b.l us vs aa ab ca cb W hua hub (owns_below hra hb) (owns_below hrb hb) (fun i x u hx hu => (hca i x u hx hu).later hb) (fun i x u hx hu => (hcb i x u hx hu).later hb))
    obtain ⟨E, hE⟩ : ∃ E, eqE a b = E := ⟨_, rfl⟩
    have hEP := (eqE_parts a b).symm.trans hE
    obtain ⟨F, hF⟩ : ∃ F, eqF a b = F := ⟨_, rfl⟩
    obtain ⟨L, hL⟩ : ∃ L, eqL a.l b.l = L := ⟨_, rfl⟩
    rw [hF, hL] at hEP
    rw [hE]
    unfold eqF at hF
    rw [hF] at HF
    rw [hL] at HQ
    have HEP := Lib.hid hEP
    clear h h' hua hra hca hub hrb hcb f1 f2 f3 f4 f5 g1 g2 g3 g4 g5 hE hEP hF hL IH
    obtain ⟨rk, rop, rv, rtb, rnm, rlv⟩ := r
    obtain ⟨sk, sop, sv, stb, snm, slv⟩ := s
    dsimp only at hla hlb
    subst hla
    subst hlb
    unfold Er.val at HF ⊢
    dsimp only at HF ⊢
    generalize a.l.length = na at *
    generalize b.l.length = nb at *
    obtain ⟨W1, hW1⟩ : ∃ W1, (w.alloc (.cells #[.int .i64 rk, .int .i64 rop, .int .i64 rv.k, .int .i64 rv.n, .string rv.s, .string rtb, .string rnm, .slice aa na ca] TE)).alloc (.cells #[.int .i64 sk, .int .i64 sop, .int .i64 sv.k, .int .i64 sv.n, .string sv.s, .string stb, .string snm, .slice ab nb cb] TE) = W1 := ⟨_, rfl⟩
    have hf1 : Flds W1 w.heap.size TE [.int .i64 rk, .int .i64 rop, .int .i64 rv.k, .int .i64 rv.n, .string rv.s, .string rtb, .string rnm, .slice aa na ca] := by rw [← hW1]; exact (Flds.new w TE _).alloc _
    have hf2 : Flds W1 (w.heap.size + 1) TE [.int .i64 sk, .int .i64 sop, .int .i64 sv.k, .int .i64 sv.n, .string sv.s, .string stb, .string snm, .slice ab nb cb] := by
      rw [← hW1]
      have := Flds.new (w.alloc (.cells #[.int .i64 rk, .int .i64 rop, .int .i64 rv.k, .int .i64 rv.n, .string rv.s, .string rtb, .string rnm, .slice aa na ca] TE)) TE [.int .i64 sk, .int .i64 sop, .int .i64 sv.k, .int .i64 sv.n, .string sv.s, .string stb, .string snm, .slice ab nb cb]
      rw [World.size_alloc] at this; exact this
    have hb1 : Below w.heap.size w W1 := by rw [← hW1]; exact ((Below.refl _ _).alloc (Nat.le_refl _) _).alloc (by simp) _
    have HW1 := Lib.hid hW1
    have HF1 := Lib.hid hf1
    have HF2 := Lib.hid hf2
    have HB1 := Lib.hid hb1
    clear hW1 hf1 hf2 hb1
    go_enter Try.func14, Try.ntmps14
    go_upto_region 1 with fail
    rw [HW1.out]
    clear HW1
    have q0 := HF1.out.cell 0; have q1 := HF1.out.cell 1; have q2 := HF1.out.cell 2; have q3 := HF1.out.cell 3; have q4 := HF1.out.cell 4; have q5 := HF1.out.cell 5; have q6 := HF1.out.cell 6; have q7 := HF1.out.cell 7
    have k0 := HF2.out.cell 0; have k1 := HF2.out.cell 1; have k2 := HF2.out.cell 2; have k3 := HF2.out.cell 3; have k4 := HF2.out.cell 4; have k5 := HF2.out.cell 5; have k6 := HF2.out.cell 6; have k7 := HF2.out.cell 7
    have l1 := HF1.out.lt
    have l2 := HF2.out.lt
    simp only [List.getElem?_cons_zero, List.getElem?_cons_succ] at q0 q1 q2 q3 q4 q5 q6 q7 k0 k1 k2 k3 k4 k5 k6 k7
    have HFW := Lib.hid (HF.out W1)
    cases F with
    | false =>
      obtain rfl : E = false := by rw [← HEP.out]; rfl
      go_wp2_with (go_at_call 29; refine HFW.out.mono ?_; rintro en w2 ⟨rfl, hb2⟩; have HB2 := Lib.hid hb2; clear hb2)
      go_ret
      exact ⟨rfl, HB1.out.trans (HB2.out.mono HB1.out.size)⟩
    | true =>
      obtain rfl : E = L := by rw [← HEP.out]; rfl
      have HP := Lib.hid (fun (w2 : World) (hb : Below W1.heap.size W1 w2) => And.intro ((HF1.out.later hb).cell 7) (And.intro ((HF2.out.later hb).cell 7) (And.intro (HF1.out.later hb).lt (And.intro (HF2.out.later hb).lt (HQ.out w2 (HB1.out.trans (hb.mono HB1.out.size)))))))
      go_wp2_with (first
        | (go_at_call 29; refine HFW.out.mono ?_; rintro en w2 ⟨rfl, hb2⟩; have HB2 := Lib.hid hb2; obtain ⟨z1, z2, z3, z4, hq⟩ := HP.out w2 hb2; (simp only [List.getElem?_cons_zero, List.getElem?_cons_succ] at z1 z2); have HQ2 := Lib.hid hq; clear hb2 hq)
        | (go_at_call 30; refine HQ2.out.mono ?_; rintro en w3 ⟨rfl, hb3⟩; have HB3 := Lib.hid hb3; clear hb3))
      go_ret
      exact ⟨rfl, (HB1.out.trans (HB2.out.mono HB1.out.size)).trans (HB3.out.mono (Nat.le_trans HB1.out.size HB2.out.size))⟩
end Go.Proofs.Ytjnlimahcodomaa.ex
