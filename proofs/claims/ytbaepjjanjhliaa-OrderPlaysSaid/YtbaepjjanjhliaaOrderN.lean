/- The list of stamps: After, walked. -/
import Derived.Test.YtbaepjjanjhliaaOrderI
import Derived.Test.YtbaepjjanjhliaaOrderS
namespace Go.Proofs.Ytbaepjjanjhliaa.ord
set_option linter.unusedVariables false
open Go.RowKit arK
variable {own : Nat → Prop} {bl b : Nat} {s s' : Ar Lk} {w w' : World}

/-- AFTER keeps what always holds. -/
theorem after_ok {L : List Int} (hk : Ok s L) {p : Nat} {i n : Int} (hp : L[p]? = some i) (hg : 2 ≤ gapF s i) {s1 : Ar Lk} (hn0 : 0 ≤ n) (hn : s.has n = false)
    (hh : ∀ j, s1.has j = true ↔ j = n ∨ s.has j = true) (g1 : getAt s1 n = ⟨i, (getAt s i).n, (getAt s i).t + gapF s i / 2⟩) (g2 : ∀ j, j ≠ n → getAt s1 j = getAt s j) : Ok (joinF (joinF s1 i n) n (getAt s i).n) (ins L p n) := by
  have hiL := List.mem_of_getElem? hp
  have hnL : n ∉ L := fun h => by rw [(hk.has n).2 h] at hn; cases hn
  have hin : i ≠ n := fun e => hnL (e ▸ hiL)
  have hi0 := hk.pos hiL
  have hnx := hk.nx p i hp
  obtain ⟨nx, hnxe⟩ : ∃ nx, (getAt s i).n = nx := ⟨_, rfl⟩
  rw [hnxe] at hnx g1
  rw [hnxe]
  have hx := hnx
  have hxn : nx ≠ n := by
    rw [hx]; cases h : L[p + 1]? with
    | none => simp; omega
    | some j => simp only [Option.getD_some]; exact fun e => hnL (e ▸ List.mem_of_getElem? h)
  have hxi : nx ≠ i := by
    rw [hx]; cases h : L[p + 1]? with
    | none => simp; omega
    | some j => simp only [Option.getD_some]; intro e; subst e; have := idx_inj hk.nodup hp h; omega
  have n1 : s1.has n = true := (hh n).2 (.inl rfl)
  have i1 : s1.has i = true := (hh i).2 (.inr (hk.hasAt hp))
  have k1 : ∀ j, j ≠ n → j ≠ i → getAt (joinF s1 i n) j = getAt s j := fun j h1 h2 => by unfold joinF; rw [setP_ne _ _ h1, setN_ne _ _ h2, g2 j h1]
  have k2 : getAt (joinF s1 i n) i = { getAt s i with n := n } := by unfold joinF; rw [setP_ne _ _ hin, setN_at i1, g2 i hin]
  have k3 : getAt (joinF s1 i n) n = ⟨i, nx, (getAt s i).t + gapF s i / 2⟩ := by
    unfold joinF; rw [setP_at (by rw [setN_has]; exact n1), setN_ne _ _ (fun e => hin e.symm), g1]
  have n2 : (joinF s1 i n).has n = true := by rw [joinF_has]; exact n1
  have hgap : gapF s i = (if nx = -1 then 4611686018427387904 else (getAt s nx).t) - (getAt s i).t := by
    unfold gapF; rw [hnxe]; split <;> rfl
  refine insert_ok (t := (getAt s i).t + gapF s i / 2) hk hp hnL (fun j => by rw [joinF_has, joinF_has]; exact hh j) ?_ ?_ ?_ ?_ (by omega) ?_ ?_
  · rw [show joinF (joinF s1 i n) n nx = setP (setN (joinF s1 i n) n nx) nx n from rfl, setP_ne _ _ (fun e => hxn e.symm), setN_at n2, k3, hx]
  · rw [show joinF (joinF s1 i n) n nx = setP (setN (joinF s1 i n) n nx) nx n from rfl, setP_ne _ _ (fun e => hxi e.symm), setN_ne _ _ hin, k2]
  · intro j hj
    have e : nx = j := by rw [hx, hj]; rfl
    subst e
    have hxL := List.mem_of_getElem? hj
    rw [show joinF (joinF s1 i n) n nx = setP (setN (joinF s1 i n) n nx) nx n from rfl, setP_at (by rw [setN_has, joinF_has]; exact (hh _).2 (.inr ((hk.has _).2 hxL))), setN_ne _ _ hxn, k1 _ hxn hxi]
  · intro j hj h1 h2
    have hjn : j ≠ n := fun e => hnL (e ▸ hj)
    have hjx : j ≠ nx := fun e => by
      subst e
      cases h : L[p + 1]? with
      | none => rw [h] at hx; have := hk.pos hj; simp at hx; omega
      | some q => rw [h] at hx h2; simp at hx; exact h2 (by rw [hx])
    rw [show joinF (joinF s1 i n) n nx = setP (setN (joinF s1 i n) n nx) nx n from rfl, setP_ne _ _ hjx, setN_ne _ _ hjn, k1 j hjn h1]
  · intro j hj
    have e : nx = j := by rw [hx, hj]; rfl
    have := hk.pos (List.mem_of_getElem? hj)
    rw [e, if_neg (by omega)] at hgap
    omega
  · have h1 := (hk.bd i hiL).1
    by_cases e : nx = -1
    · rw [if_pos e] at hgap; omega
    · rw [if_neg e] at hgap
      have hq : ∃ q, L[p + 1]? = some q := by cases h : L[p + 1]? with
        | none => rw [h] at hx; simp at hx; exact absurd hx e
        | some q => exact ⟨q, rfl⟩
      obtain ⟨q, hq⟩ := hq
      have e2 : nx = q := by rw [hx, hq]; rfl
      have := (hk.bd q (List.mem_of_getElem? hq)).2
      rw [← e2] at this
      omega
theorem alloc_same {s s2 : Ar Lk} (h : Same s s2) (x : Lk) {t1 : Ar Lk} {n : Int} (e : s2.alloc x = (t1, n, true)) : ∃ t0, s.alloc x = (t0, n, true) ∧ Same t0 t1 := by
  unfold Ar.alloc at e ⊢
  have hl := h.live
  rw [h.room, hl, h.fr] at e
  by_cases hr : s.room ≤ s.live
  · rw [if_pos hr] at e; simp at e
  · rw [if_neg hr] at e ⊢
    cases hg : s.fr.getLast? with
    | some m =>
      rw [hg] at e
      simp only [Prod.mk.injEq] at e
      obtain ⟨rfl, rfl, -⟩ := e
      exact ⟨_, rfl, ⟨rfl, rfl, by simp [h.len]⟩⟩
    | none =>
      rw [hg] at e
      simp only [Prod.mk.injEq] at e
      obtain ⟨rfl, rfl, -⟩ := e
      exact ⟨{ s with sl := s.sl ++ [(true, x)] }, by rw [h.len], ⟨rfl, rfl, by simp [h.len]⟩⟩
theorem zero_bd : Lk.Bd Lk.zero := ⟨Int.le_refl 0, by decide⟩
theorem Ok.bdAll {L : List Int} (hk : Ok s L) (j : Int) : Lk.Bd (getAt s j) := by
  by_cases h : s.has j = true
  · have := hk.bd j ((hk.has j).1 h); unfold Lk.Bd; omega
  · have e : getAt s j = Lk.zero := by unfold getAt; rw [if_neg h]
    rw [e]; exact zero_bd
theorem gap_at (h : LI own bl b s w) {L : List Int} (hk : Ok s L) (i : Int) : Calls Try.prog 56 #[.pointer (some ⟨bl, 0, none⟩), .int .i64 i] w fun e w' => e = .returned (.int .i64 (gapF s i)) ∧ Below w.heap.size w w' := gap_l h i (hk.bdAll i) (hk.bdAll _)
theorem LI.widen {own own' : Nat → Prop} (h : LI own bl b s w) (hs : ∀ k, own k → own' k) (hl : ∀ k, own' k → k < w.heap.size) (hn : ¬ own' bl) : LI own' bl b s w := ⟨h.is.mono hs hl, h.fl, hn⟩
/-- what After leaves -/
def AfterPost (own : Nat → Prop) (bl b : Nat) (s : Ar Lk) (L : List Int) (p : Nat) (w : World) (e : Ending) (w' : World) : Prop :=
  ∃ n s', e = .returned (.tuple #[.int .i64 n, .bool true]) ∧ LI (ownNew own w w') bl b s' w' ∧ Ok s' (ins L p n) ∧ (∃ x s1, s.alloc x = (s1, n, true) ∧ Same s1 s') ∧ n ∉ L ∧ Only own w w'
set_option maxRecDepth 100000 in
set_option maxHeartbeats 8000000 in
theorem after_yes (h : LI own bl b s w) {L : List Int} (hk : Ok s L) (hlen : L.length ≤ 1048576) (hlv : s.live < 1048576) (hroom : s.room = 1048576) {p : Nat} {i : Int} (hp : L[p]? = some i) :
    Calls Try.prog 30 #[.pointer (some ⟨bl, 0, none⟩), .int .i64 i] w (AfterPost own bl b s L p w) := by
  have HI := Lib.hid h; have HK := Lib.hid hk; have HP := Lib.hid hp
  have hhas := hk.hasAt hp
  have HH := Lib.hid (has_l h i)
  rw [hhas] at HH
  have HL := Lib.hid (fun w' hb => live_any own b s w' (LI.later (w' := w') h hb).is)
  have HG := Lib.hid (fun w' hb => gap_at (w := w') (h.later hb) hk i)
  have HSP := Lib.hid (fun w' hb => spread_l (w := w') (h.later hb) hk hlen hp)
  have HC := Lib.hid (fun w' hb => (LI.later (w' := w') h hb).cell)
  have hd : decide ((1048576 : Int) ≤ s.live) = false := by simp; omega
  clear h hk hp hhas
  go_enter Try.func30, Try.ntmps30
  go_wp2_with fail
  (with_reducible refine HH.out.mono ?_); rintro e w1 ⟨rfl, hb1⟩
  have cl := HC.out w1 hb1
  have HB1 := Lib.hid hb1
  clear hb1
  go_wp2_with fail
  (with_reducible refine (HL.out _ HB1.out).mono ?_); rintro e w2 ⟨rfl, hex⟩
  have hb2 : Below w1.heap.size w1 w2 := by obtain ⟨n, rfl⟩ := hex; exact ⟨rfl, rfl, rfl, Nat.le_refl _, fun _ _ => rfl⟩
  have HB2 := Lib.hid (after HB1.out hb2 HB1.out.size)
  clear hb2 hex cl
  go_wp2_with fail
  (with_reducible refine (HG.out _ HB2.out).mono ?_); rintro e w3 ⟨rfl, hb3⟩
  have HB3 := Lib.hid (after HB2.out hb3 HB2.out.size)
  clear hb3
  go_upto_if 25 with fail
  go_cut [25] from 26 to 28 (fun s25 wx => ∃ s2, Hid (LI own bl b s2 wx) ∧ Hid (Ok s2 L) ∧ Hid (Same s s2) ∧ Hid (2 ≤ gapF s2 i) ∧ Hid (Only own w wx))
  case first =>
    by_cases hg : gapF s i < 2
    · go_wp2_with fail
      (with_reducible refine (HSP.out _ HB3.out).mono ?_)
      rintro e w4 ⟨⟨v, rfl⟩, ⟨s2, k1, k2, k3, k4⟩, k5⟩
      have K1 := Lib.hid k1; have K2 := Lib.hid k2; have K3 := Lib.hid k3; have K4 := Lib.hid k4
      have K5 := Lib.hid ((Only.of_below HB3.out).trans k5 (fun _ _ h => h))
      clear k1 k2 k3 k4 k5
      go_wp2_with fail
      go_meet
      exact ⟨s2, K1, K2, K3, K4, K5⟩
    · have hg' : 2 ≤ gapF s i := by omega
      go_wp2_with fail
      go_meet
      exact ⟨s, Lib.hid (HI.out.later HB3.out), HK, Lib.hid (Same.refl s), Lib.hid hg', Lib.hid (Only.of_below HB3.out)⟩
  case rest =>
    obtain ⟨s2, K1, K2, K3, K4, K5⟩ := hcut
    have c0 := K1.out.cell
    have HG2 := Lib.hid (K1.out.get i)
    have hk2 := K2.out
    have hhas2 := hk2.hasAt HP.out
    rw [hhas2] at HG2
    obtain ⟨s1, n, hal, hn0, hnh, hh1, hg1, hg2, hl1, hr1⟩ := alloc_is (s := s2) K1.out.is.ok (by rw [K3.out.live, K3.out.room]; omega) ⟨i, (getAt s2 i).n, (getAt s2 i).t + gapF s2 i / 2⟩
    have hok := after_ok hk2 HP.out K4.out hn0 hnh hh1 hg1 hg2
    have hsm := alloc_same K3.out _ hal
    have hnL : n ∉ L := fun hm => by rw [(hk2.has n).2 hm] at hnh; cases hnh
    have HOK := Lib.hid hok; have HSM := Lib.hid hsm; have HNL := Lib.hid hnL; have HAL := Lib.hid hal
    have hbi := hk2.bd i (List.mem_of_getElem? HP.out)
    have hgt : (getAt s2 i).t + gapF s2 i ≤ 4611686018427387904 := by
      unfold gapF; split
      · omega
      · have := (hk2.bdAll (getAt s2 i).n).2; omega
    have hg4 := K4.out
    clear hok hsm hnL hal hh1 hg1 hg2 hl1 hr1 hhas2 hk2 hn0 hnh
    have HGX := Lib.hid (fun w' hb => gap_at (w := w') (K1.out.later hb) K2.out i)
    have HLX := Lib.hid (fun w' hb => K1.out.later (w' := w') hb)
    obtain ⟨x, hx⟩ : ∃ x, getAt s2 i = x := ⟨_, rfl⟩
    rw [hx] at HG2 HAL HOK hbi hgt
    obtain ⟨g, hgg⟩ : ∃ g, gapF s2 i = g := ⟨_, rfl⟩
    rw [hgg] at HAL hgt hg4 HGX
    clear hx hgg
    obtain ⟨x0, x1⟩ := hbi
    go_wp2_with fail
    (with_reducible refine HG2.out.mono ?_); rintro e w5 ⟨rfl, hb5⟩
    have hbY := after hb5 ((Below.refl w5.heap.size w5).alloc (Nat.le_refl _) (.cells #[.int .i64 x.p, .int .i64 x.n, .int .i64 x.t] TL)) hb5.size
    have F6 := Flds.new w5 TL [.int .i64 x.p, .int .i64 x.n, .int .i64 x.t]
    have HLY := Lib.hid (HLX.out _ hbY)
    have HGY := Lib.hid (fun X hX => HGX.out X (after hbY hX hbY.size))
    have HOY := Lib.hid (K5.out.trans (Only.of_below hbY) (fun _ _ h => h))
    have hng : ¬ own w5.heap.size := fun ho => by have := K1.out.is.lt _ ho; have := hb5.size; omega
    have HNG := Lib.hid hng
    clear hb5 hbY c0 HGX HLX hng HG2 K1 K5
    go_upto_region 6 with fail
    generalize w5.alloc (.cells #[.int .i64 x.p, .int .i64 x.n, .int .i64 x.t] TL) = Y at *
    generalize w5.heap.size = g6 at *
    have cy := HLY.out.cell
    have q1 := F6.cell 1; have q2 := F6.cell 2
    simp only [List.getElem?_cons_zero, List.getElem?_cons_succ] at q1 q2
    have l6 := F6.lt
    have HF6 := Lib.hid F6
    clear F6
    have HAY : Hid (∀ X : World, Below Y.heap.size Y X → Calls Try.prog 50 #[.pointer (some ⟨b, 0, none⟩), .agg #[.int .i64 i, .int .i64 x.n, .int .i64 (x.t + g / 2)]] X fun e w' => e = .returned (.tuple #[.int .i64 n, .bool true]) ∧ LI (ownNew own X w') bl b s1 w' ∧ Only own X w' ∧ Below Y.heap.size Y X) := Lib.hid (fun X hX => by
      have hl := HLY.out.later hX
      refine (alloc_any own b s2 X hl.is ⟨i, x.n, x.t + g / 2⟩).mono ?_
      rintro e w' ⟨rfl, k1, k2⟩
      rw [HAL.out] at k1 ⊢
      exact ⟨rfl, ⟨k1, hl.fl.only k2 hl.nown, fun ho => ho.elim hl.nown (fun h => by have := hl.lt; omega)⟩, k2, hX⟩)
    have HW1 : Hid (IntKind.i64.wrap (g.tdiv 2) = g / 2) := Lib.hid (IntWalk.i64_quo g 2 (by omega))
    have HW2 : Hid (IntKind.i64.wrap (x.t + g / 2) = x.t + g / 2) := Lib.hid (IntWalk.i64_in _ (by omega))
    go_cut [8, 9] from 38 to 56 (fun s8 s9 wx => s8 = .int .i64 n ∧ s9 = .bool true ∧ ∃ X, Hid (Below Y.heap.size Y X) ∧ Hid (LI (ownNew own X wx) bl b s1 wx) ∧ Hid (Only own X wx))
    case first =>
      clear HOY HOK HSM HNL HAL HLY HC HSP HG HL HH HI HK HP K2 K3 K4 HB1 HB2 HB3
      go_region_law (first | (go_simp; go_at_call 56; refine (HGY.out _ (by first | exact (Below.refl _ _).drew | exact Below.refl _ _)).mono ?_; rintro e w6 ⟨rfl, hb6⟩; have hX6 : Below Y.heap.size Y w6 := (by first | exact hb6 | exact ((Below.refl _ _).drew).trans hb6); have z1 := cell_later hX6 q1; have z2 := cell_later hX6 q2; have zc := cell_later hX6 cy) | (go_simp; go_at_call 50; rw [HW1.out, HW2.out]; refine (HAY.out _ hX6).mono ?_; rintro e w7 ⟨rfl, hL7, hO7, hX7⟩; have hL7 := Lib.hid hL7; have hO7 := Lib.hid hO7; have hX7 := Lib.hid hX7; clear HAY HGY hX6 z1 z2 zc q1 q2 cy hb6 HW1 HW2))
      all_goals (go_wp2_with fail)
      all_goals (go_meet; exact ⟨rfl, rfl, _, hX7, hL7, hO7⟩)
    case rest =>
      obtain ⟨rfl, rfl, X, hX7, hL7, hO7⟩ := hcut
      have HF7 := Lib.hid ((HF6.out.later hX7.out).only hO7.out HNG.out)
      go_wp2_with fail
      (with_reducible refine (join_l hL7.out i n).mono ?_); rintro e w8 ⟨⟨v8, rfl⟩, hL8, hO8⟩
      have hL8 := Lib.hid hL8
      have hng8 : ¬ ownNew own X wc g6 := fun h => h.elim HNG.out (fun h => by have := hX7.out.size; have := h.1; omega)
      have hF8 := HF7.out.only hO8 hng8
      have hc8 := hL8.out.cell
      have q8 := hF8.cell 1
      simp only [List.getElem?_cons_zero, List.getElem?_cons_succ] at q8
      have hO8 := Lib.hid hO8
      clear hF8 hng8
      go_wp2_with fail
      (with_reducible refine (join_l (hL8.out.later (by first | exact Below.refl _ _ | exact (Below.refl _ _).drew)) n x.n).mono ?_); rintro e w9 ⟨⟨v9, rfl⟩, hL9, hO9⟩
      have hL9 := Lib.hid hL9
      have hO9' : Only (ownNew own X wc) w8 w9 := (by first | exact hO9 | exact (Only.of_below ((Below.refl _ _).drew)).trans hO9 (fun _ _ h => h))
      have HO9 := Lib.hid hO9'
      clear hO9 hO9' q8 hc8
      go_wp2_with fail
      go_ret2
      have o1 := (HOY.out.trans (Only.of_below hX7.out) (fun _ _ h => h)).trans hO7.out (fun _ _ h => h)
      have z1 := HOY.out.size
      have z2 := hX7.out.size
      have hnew : ∀ k, k < w.heap.size → ownNew own X wc k → own k := fun k hk h => h.elim id (fun h => by have := h.1; omega)
      have o2 := (o1.trans hO8.out hnew).trans HO9.out hnew
      have z3 := hO7.out.size
      have z4 := hO8.out.size
      have z5 := HO9.out.size
      have hbl := HI.out.lt
      obtain ⟨t0, e0, hS0⟩ := HSM.out
      refine ⟨n, _, rfl, hL9.out.widen (own' := ownNew own w w9) (fun k hk => hk.elim .inl (fun h => .inr ⟨by have := h.1; omega, by have := h.2; omega⟩)) (fun k hk => hk.elim (fun h => by have := HI.out.is.lt k h; omega) (fun h => h.2)) (fun h => h.elim HI.out.nown (fun h => by have := h.1; omega)), HOK.out, ⟨_, _, e0, hS0.trans ((joinF_same _ _ _).trans (joinF_same _ _ _))⟩, HNL.out, o2⟩
end Go.Proofs.Ytbaepjjanjhliaa.ord
