/- The law's row of cells; walked. -/
import Derived.Test.YtjnlimahcodomaaCheckN
import Derived.Deep.RegionWith
import Derived.BigRegion
namespace Go.Proofs.Ytjnlimahcodomaa.ck
set_option linter.unusedVariables false
open Go.RowKit
open val (V null TV TR)
open ex (cut info_of)
open ex (grown_any)
attribute [local go_sem high] run_min_keep
abbrev TC : TypeId := 68
theorem idx_tab (t : Int) (W : World) : (Instr.index 69 (.agg #[.string ⟨#[116]⟩, .string ⟨#[117]⟩]) (.int .u8 (t % 2))).run Try.prog W = .ok (.string (tabC t)) W := by
  unfold tabC
  rcases (by omega : t % 2 = 0 ∨ t % 2 = 1) with h | h
  · rw [h, if_pos rfl]; kernel_rfl
  · rw [h, if_neg (by decide)]; kernel_rfl
theorem idx_name (t : Int) (W : World) : (Instr.index 70 (.agg #[.string ⟨#[97]⟩, .string ⟨#[98]⟩, .string ⟨#[99, 49]⟩, .string ⟨#[110]⟩]) (.int .u8 (t % 4))).run Try.prog W = .ok (.string (nameC t)) W := by
  unfold nameC
  rcases (by omega : t % 4 = 0 ∨ t % 4 = 1 ∨ t % 4 = 2 ∨ t % 4 = 3) with h | h | h | h
  · rw [h, if_pos rfl]; kernel_rfl
  · rw [h, if_neg (by decide), if_pos rfl]; kernel_rfl
  · rw [h, if_neg (by decide), if_neg (by decide), if_pos rfl]; kernel_rfl
  · rw [h, if_neg (by decide), if_neg (by decide), if_neg (by decide)]; kernel_rfl
attribute [local go_sem high] idx_tab idx_name
theorem infoP : (Try.prog.info? TFp).map (fun i => (i.zero, i.size, i.bytes)) = some (some (.agg #[.string ⟨#[]⟩, .string ⟨#[]⟩, .int .i64 0]), 3, 40) := by kernel_rfl
theorem infoQ : (Try.prog.info? TFr).map (fun i => (i.zero, i.size, i.bytes)) = some (some (.agg #[.string ⟨#[]⟩, .string ⟨#[]⟩, .int .i64 0]), 3, 40) := by kernel_rfl
theorem infoW : (Try.prog.info? TV).map (fun i => (i.zero, i.size, i.bytes)) = some (some (.agg #[.int .i64 0, .int .i64 0, .string ⟨#[]⟩]), 3, 32) := by kernel_rfl
theorem infoX : (Try.prog.info? TR).map (fun i => (i.zero, i.size, i.bytes)) = some (some (.agg #[.int .i64 0, .int .i64 0, .string ⟨#[]⟩]), 3, 32) := by kernel_rfl
theorem Vq.apart {wr W : World} {B n : Nat} {T : TypeId} {l l' u : Value} {xs : List Value} (ho : Old wr l') (hd : Dj l' l) (hu : Vq wr B T n l xs u W) : ∀ b, l'.ownBlock = some b → u.ownBlock ≠ some b := fun b hb e => by
  rcases hu.2.2 b e with h | h
  · exact hd b hb h
  · have := ho b hb; omega
theorem Vb.apart {wr W : World} {T : TypeId} {l' u : Value} {fs : List Value} (ho : Old wr l') (hu : Vb wr T fs u W) : ∀ b, l'.ownBlock = some b → u.ownBlock ≠ some b := fun b hb e => by
  have h1 := (hu.lt b e).2
  have h2 := ho b hb
  omega
theorem new_apart {W : World} {u : Value} (hu : ∀ b, u.ownBlock = some b → b < W.heap.size) : Dj (.slice (some ⟨W.heap.size, 0, none⟩) 1 1) u := fun b hb e => by
  have h1 := hu b e
  simp only [Value.ownBlock, Option.some.injEq] at hb
  omega
theorem vq_lies {wr W : World} {v l : Value} (h : v.ownBlock = none ∨ v.ownBlock = l.ownBlock ∨ v.ownBlock = some W.heap.size) (hs : wr.heap.size ≤ W.heap.size) : ∀ b, v.ownBlock = some b → l.ownBlock = some b ∨ wr.heap.size ≤ b := fun b hb => by
  rcases h with h | h | h
  · rw [h] at hb; cases hb
  · rw [h] at hb; exact .inl hb
  · rw [h] at hb; simp only [Option.some.injEq] at hb; exact .inr (by omega)
theorem four_nil (wr : World) : Four wr (.slice Option.none 0 0) (.slice Option.none 0 0) (.slice Option.none 0 0) (.slice Option.none 0 0) := by
  have h : ∀ b, (Value.slice Option.none 0 0).ownBlock = some b → False := fun b e => by cases e
  exact ⟨fun b e => (h b e).elim, fun b e => (h b e).elim, fun b e => (h b e).elim, fun b e => (h b e).elim, fun b e => (h b e).elim, fun b e => (h b e).elim, fun b e => (h b e).elim, fun b e => (h b e).elim, fun b e => (h b e).elim, fun b e => (h b e).elim⟩
def fldsJ (l : List Cl) (j : Nat) : List Value := fCells ((l.take j).map fldC)
def valsJ (l : List Cl) (j : Nat) : List Value := vCells ((l.take j).map valC)
theorem fldsJ_succ {l : List Cl} {j : Nat} {x : Cl} (h : l[j]? = some x) : fldsJ l (j + 1) = fldsJ l j ++ [.string (tabC x.t), .string (nameC x.nm), .int .i64 (1 + x.kd % 3)] := by
  obtain ⟨hj, rfl⟩ := List.getElem?_eq_some_iff.1 h
  unfold fldsJ fCells
  rw [List.take_succ_eq_append_getElem hj, List.map_append, List.flatMap_append]; rfl
theorem valsJ_succ {l : List Cl} {j : Nat} {x : Cl} (h : l[j]? = some x) : valsJ l (j + 1) = valsJ l j ++ [.int .i64 (valC x).k, .int .i64 (valC x).n, .string (valC x).s] := by
  obtain ⟨hj, rfl⟩ := List.getElem?_eq_some_iff.1 h
  unfold valsJ vCells
  rw [List.take_succ_eq_append_getElem hj, List.map_append, List.flatMap_append]; rfl
theorem take_min {l : List Cl} {n m : Nat} (hn : l.length = n) (hm : min n 6 = m) : l.take m = l.take 6 := by
  rw [← hm, ← hn]
  by_cases h : l.length ≤ 6
  · rw [Nat.min_eq_left h, List.take_length, List.take_of_length_le h]
  · rw [Nat.min_eq_right (by omega)]
set_option maxRecDepth 100000 in
set_option maxHeartbeats 8000000 in
theorem row_any (xs : List Cl) (hxs : ∀ x ∈ xs, CB x) (a : Option Addr) (n c : Nat) (hn : xs.length = n) (hn1 : n ≤ 9223372036854775807) (w : World) (hr : Row w (.slice a n c) 6 n (cCells xs)) (m : Nat) (hm : min n 6 = m) :
    Calls Try.prog 9 #[.slice a n c] w fun en w' => ∃ (v0 v1 v2 v3 : Value), en = .returned (.tuple #[v0, v1, v2, v3]) ∧ Row w' v0 3 m (fCells (fldsC xs)) ∧ Row w' v1 3 m (fCells (fldsC xs)) ∧ Row w' v2 3 m (vCells (valsC xs)) ∧ Row w' v3 3 m (vCells (valsC xs)) ∧ Below w.heap.size w w' := by
  have HN := Lib.hid hn; have HR := Lib.hid hr; have HX := Lib.hid hxs; have HM := Lib.hid hm
  have hn0 : (0 : Int) ≤ (n : Int) := by omega
  have hn2 : (n : Int) ≤ 9223372036854775807 := by omega
  clear hn hr hxs hm
  go_enter Try.func9, Try.ntmps9
  go_wp2_with fail
  go_loopw [6, 7, 8, 9, 10] (fun l0 l1 l2 l3 i wr => ∃ (j : Nat), i = .int .i64 (j : Int) ∧ j ≤ m ∧ Hid (wr.ownsRow w.heap.size TFp 3 l0 j (fldsJ xs j)) ∧ Hid (wr.ownsRow w.heap.size TFr 3 l1 j (fldsJ xs j)) ∧ Hid (wr.ownsRow w.heap.size TV 3 l2 j (valsJ xs j)) ∧ Hid (wr.ownsRow w.heap.size TR 3 l3 j (valsJ xs j)) ∧ Hid (Four wr l0 l1 l2 l3) ∧ Hid (Below w.heap.size w wr)) (fun _ _ _ _ i _ => m - (intOf i).toNat)
  case atStart => exact ⟨0, rfl, Nat.zero_le _, Lib.hid (World.ownsRow_nil _ _ _ _), Lib.hid (World.ownsRow_nil _ _ _ _), Lib.hid (World.ownsRow_nil _ _ _ _), Lib.hid (World.ownsRow_nil _ _ _ _), Lib.hid (four_nil w), Lib.hid (Below.refl _ _)⟩
  case round =>
    obtain ⟨j, rfl, hj, H0, H1, H2, H3, H4, HB⟩ := hrel
    have j0 : (0 : Int) ≤ (j : Int) := by omega
    have hm6 : m ≤ 6 := by have := HM.out; omega
    have hmn : m ≤ n := by have := HM.out; omega
    obtain ⟨a0, c0, rfl⟩ := owns_shape H0.out
    obtain ⟨a1, c1, rfl⟩ := owns_shape H1.out
    obtain ⟨a2, c2, rfl⟩ := owns_shape H2.out
    obtain ⟨a3, c3, rfl⟩ := owns_shape H3.out
    by_cases hjm : j < m
    · have dj : (j : Int) < (n : Int) := by omega
      have d6 : (j : Int) < 6 := by omega
      obtain ⟨x, hx⟩ : ∃ x, xs[j]? = some x := ⟨_, List.getElem?_eq_getElem (show j < xs.length by have := HN.out; omega)⟩
      have hcb := HX.out x (List.mem_of_getElem? hx)
      obtain ⟨b, off, rfl, hcs⟩ := cl_at HR.out (by omega) hx
      obtain ⟨q0, q1, q2, q3, q4, q5, lq⟩ := hcs wr HB.out
      obtain ⟨xt, xn, xd, xz, xx, xs'⟩ := x
      dsimp only at q0 q1 q2 q3 q4 q5
      have HXJ := Lib.hid hx
      have HCB := Lib.hid hcb
      obtain ⟨b1, b2, b3, b4, b5⟩ := hcb
      dsimp only at b1 b2 b3 b4 b5
      clear hx hcs
      go_upto_region 9 with fail
      obtain ⟨g11, hg11⟩ : ∃ g, wr.heap.size = g := ⟨_, rfl⟩
      obtain ⟨WA, hWA⟩ : ∃ WA, wr.alloc (.cells #[.int .u8 xt, .int .u8 xn, .int .u8 xd, .bool xz, .int .i64 xx, .string xs'] TC) = WA := ⟨_, rfl⟩
      have hf11 : Flds WA g11 TC [.int .u8 xt, .int .u8 xn, .int .u8 xd, .bool xz, .int .i64 xx, .string xs'] := by rw [← hWA, ← hg11]; exact Flds.new wr TC _
      have hbA : Below wr.heap.size wr WA := by rw [← hWA]; exact (Below.refl _ _).alloc (Nat.le_refl _) _
      rw [hWA]
      try rw [hg11]
      have k0 := hf11.cell 0; have k1 := hf11.cell 1; have k2 := hf11.cell 2; have k3 := hf11.cell 3; have k4 := hf11.cell 4; have k5 := hf11.cell 5; have lA := hf11.lt
      simp only [List.getElem?_cons_zero, List.getElem?_cons_succ] at k0 k1 k2 k3 k4 k5
      go_region
      obtain ⟨g12, hg12⟩ : ∃ g, WA.heap.size = g := ⟨_, rfl⟩
      obtain ⟨WB, hWB⟩ : ∃ WB, (WA.alloc (.cells #[.string (tabC xt), .string (nameC xn), .int .i64 (1 + xd % 3)] TFr)).drew = WB := ⟨_, rfl⟩
      have hf12 : Flds WB g12 TFr [.string (tabC xt), .string (nameC xn), .int .i64 (1 + xd % 3)] := by rw [← hWB, ← hg12]; exact Flds.new WA TFr _
      have hbB : Below WA.heap.size WA WB := by rw [← hWB]; exact ((Below.refl _ _).alloc (Nat.le_refl _) _).drew
      rw [hWB]
      try rw [hg12]
      have p0 := hf12.cell 0; have p1 := hf12.cell 1; have p2 := hf12.cell 2; have lB := hf12.lt
      simp only [List.getElem?_cons_zero, List.getElem?_cons_succ] at p0 p1 p2
      have HA11 := Lib.hid (hf11.later hbB)
      have HBB := Lib.hid (hbA.trans (hbB.mono hbA.size))
      have H12 := Lib.hid hf12
      have hg12' : wr.heap.size ≤ g12 := by rw [← hg12]; exact hbA.size
      have hg11' : g11 < WA.heap.size := hf11.lt
      have HGG : Hid (wr.heap.size ≤ g11 ∧ wr.heap.size ≤ g12 ∧ g11 < g12) := Lib.hid ⟨by omega, hg12', by omega⟩
      clear hWB hWA hg12 hf11 hf12 hbA hbB hg11 k0 k1 k2 k3 k4 k5 lA q0 q1 q2 q3 q4 q5 lq hg12' hg11'
      go_upto_region 11 with fail
      obtain ⟨g13, hg13⟩ : ∃ g, WB.heap.size = g := ⟨_, rfl⟩
      obtain ⟨WC, hWC⟩ : ∃ WC, WB.alloc (.cells #[.int .i64 (1 + xd % 3), .int .i64 0, .string (ByteArray.mk #[])] TR) = WC := ⟨_, rfl⟩
      have hf13 : Flds WC g13 TR [.int .i64 (1 + xd % 3), .int .i64 0, .string (ByteArray.mk #[])] := by rw [← hWC, ← hg13]; exact Flds.new WB TR _
      have hbC : Below WB.heap.size WB WC := by rw [← hWC]; exact (Below.refl _ _).alloc (Nat.le_refl _) _
      rw [hWC]
      try rw [hg13]
      have HC11 := Lib.hid (HA11.out.later hbC)
      have HC12 := Lib.hid (H12.out.later hbC)
      have HBC := Lib.hid (HBB.out.trans (hbC.mono HBB.out.size))
      have HC13 := Lib.hid hf13
      have HG13 : Hid (g12 < g13 ∧ g13 < WC.heap.size) := Lib.hid ⟨by rw [← hg13]; exact H12.out.lt, hf13.lt⟩
      clear hWC hg13 hf13 hbC p0 p1 p2 lB
      have hk11 := HC11.out
      have k0 := hk11.cell 0; have k1 := hk11.cell 1; have k2 := hk11.cell 2; have k3 := hk11.cell 3; have k4 := hk11.cell 4; have k5 := hk11.cell 5; have lA := hk11.lt
      simp only [List.getElem?_cons_zero, List.getElem?_cons_succ] at k0 k1 k2 k3 k4 k5
      have hk12 := HC12.out
      have p0 := hk12.cell 0; have p1 := hk12.cell 1; have p2 := hk12.cell 2; have lB := hk12.lt
      simp only [List.getElem?_cons_zero, List.getElem?_cons_succ] at p0 p1 p2
      obtain ⟨s0, s1, s2, z0, z1, z2, l13⟩ := fd3z HC13.out
      clear hk11 hk12
      obtain ⟨pv, hpv⟩ : ∃ pv : V, pv = (if xd % 3 = 0 then ⟨1, xx % 2, ByteArray.empty⟩ else if xd % 3 = 1 then ⟨2, xx, ByteArray.empty⟩ else ⟨3, 0, cut xs' 64⟩) := ⟨_, rfl⟩
      have HPV := Lib.hid hpv
      clear hpv
      go_upto_block 2 with fail
      go_cut [] from 47 to 69 (fun wx => Hid (Flds wx g13 TR [.int .i64 pv.k, .int .i64 pv.n, .string pv.s]) ∧ Hid (WC.grownBy wx (some g13)))
      case first =>
        as_aux_lemma =>
        rcases (by omega : xd % 3 = 0 ∨ xd % 3 = 1 ∨ xd % 3 = 2) with h | h | h
        · have hK : (1 : Int) + xd % 3 = 1 := by omega
          have bK1 : ((1 : Int) + xd % 3 == 1) = true := by rw [hK]; rfl
          have HE : Hid (pv = ⟨1, xx % 2, ByteArray.empty⟩) := Lib.hid (by rw [HPV.out, if_pos h])
          have HKK := Lib.hid hK
          clear h hK
          go_wp2_with fail
          go_meet
          rw [HE.out]
          exact ⟨Lib.hid (by dsimp only; rw [← ex.and_one, ← HKK.out]; exact HC13.out.set 1 _), Lib.hid (grown_setCell WC ⟨g13, 1, none⟩ _)⟩
        · have hK : (1 : Int) + xd % 3 = 2 := by omega
          have bK1 : ((1 : Int) + xd % 3 == 1) = false := by rw [hK]; rfl
          have bK2 : ((1 : Int) + xd % 3 == 2) = true := by rw [hK]; rfl
          have HE : Hid (pv = ⟨2, xx, ByteArray.empty⟩) := Lib.hid (by rw [HPV.out, if_neg (by omega), if_pos h])
          have HKK := Lib.hid hK
          clear h hK
          go_wp2_with fail
          go_meet
          rw [HE.out]
          exact ⟨Lib.hid (by dsimp only; rw [← HKK.out]; exact HC13.out.set 1 _), Lib.hid (grown_setCell WC ⟨g13, 1, none⟩ _)⟩
        · have hK : (1 : Int) + xd % 3 = 3 := by omega
          have bK1 : ((1 : Int) + xd % 3 == 1) = false := by rw [hK]; rfl
          have bK2 : ((1 : Int) + xd % 3 == 2) = false := by rw [hK]; rfl
          have bK3 : ((1 : Int) + xd % 3 == 3) = true := by rw [hK]; rfl
          have HE : Hid (pv = ⟨3, 0, cut xs' 64⟩) := Lib.hid (by rw [HPV.out, if_neg (by omega), if_neg (by omega)])
          obtain ⟨M1, hM1⟩ : ∃ M1, min (xs'.size : Int) 64 = M1 := ⟨_, rfl⟩
          have m0 : 0 ≤ M1 := by omega
          have m1 : M1 ≤ (xs'.size : Int) := by omega
          have HCT : Hid (xs'.extract 0 M1.toNat = cut xs' 64) := Lib.hid (by unfold cut; congr 1; omega)
          have HKK := Lib.hid hK
          clear h hK
          go_wp2_with fail
          go_meet
          rw [HE.out, ← HCT.out]
          exact ⟨Lib.hid (by dsimp only; rw [← HKK.out]; exact HC13.out.set 2 _), Lib.hid (grown_setCell WC ⟨g13, 2, none⟩ _)⟩
      case rest =>
      generalize wc = WP at *
      obtain ⟨HP13, HPG⟩ := hcut
      have HP11 := Lib.hid (HC11.out.grown HPG.out (fun e => by simp only [Option.some.injEq] at e; have := HGG.out; have := HG13.out; omega))
      have HP12 := Lib.hid (HC12.out.grown HPG.out (fun e => by simp only [Option.some.injEq] at e; have := HG13.out; omega))
      clear k0 k1 k2 k3 k4 k5 lA p0 p1 p2 lB s0 s1 s2 z0 z1 z2 l13
      have hk11 := HP11.out
      have k3 := hk11.cell 3; have lA := hk11.lt
      simp only [List.getElem?_cons_zero, List.getElem?_cons_succ] at k3
      obtain ⟨s0, s1, s2, z0, z1, z2, l13⟩ := fd3z HP13.out
      clear hk11
      obtain ⟨vv, hvv⟩ : ∃ vv : V, vv = valC ⟨xt, xn, xd, xz, xx, xs'⟩ := ⟨_, rfl⟩
      have HVV : Hid (vv = if xz = true then null else pv) := Lib.hid (by rw [hvv, HPV.out]; unfold valC; dsimp only)
      have HVC := Lib.hid hvv
      clear hvv
      go_upto_if 71 with fail
      go_cut [] from 72 to 72 (fun wx => Hid (Flds wx g13 TR [.int .i64 vv.k, .int .i64 vv.n, .string vv.s]) ∧ Hid (WP.grownBy wx (some g13)))
      case first =>
        as_aux_lemma =>
        cases xz with
        | true =>
          have HE : Hid (vv = null) := Lib.hid (by rw [HVV.out, if_pos rfl])
          go_wp2_with fail
          go_meet
          rw [HE.out]
          exact ⟨Lib.hid (((HP13.out.set 0 _).set 1 _).set 2 _), Lib.hid (grown_two (grown_two (grown_setCell WP ⟨g13, 0, none⟩ _) (grown_setCell _ ⟨g13, 1, none⟩ _)) (grown_setCell _ ⟨g13, 2, none⟩ _))⟩
        | false =>
          have HE : Hid (vv = pv) := Lib.hid (by rw [HVV.out, if_neg (by decide)])
          go_wp2_with fail
          go_meet
          rw [HE.out]
          exact ⟨HP13, Lib.hid (grown_any (Below.refl _ _))⟩
      case rest =>
      generalize wc = WD at *
      obtain ⟨HD13, HDG⟩ := hcut
      have HCD : Hid (WC.grownBy WD (some g13)) := Lib.hid (grown_two HPG.out HDG.out)
      have HD12 := Lib.hid (HC12.out.grown HCD.out (fun e => by simp only [Option.some.injEq] at e; have := HG13.out; omega))
      have hz13 : wr.heap.size ≤ g13 := by have := HGG.out; have := HG13.out; omega
      have hzD : wr.heap.size ≤ WD.heap.size := Nat.le_trans HBC.out.size HCD.out.size
      have hF := H4.out
      have HQ : Hid (Four WD (.slice a0 j c0) (.slice a1 j c1) (.slice a2 j c2) (.slice a3 j c3)) := Lib.hid ⟨fun b hb => Nat.lt_of_lt_of_le (hF.a0 b hb) hzD, fun b hb => Nat.lt_of_lt_of_le (hF.a1 b hb) hzD, fun b hb => Nat.lt_of_lt_of_le (hF.a2 b hb) hzD, fun b hb => Nat.lt_of_lt_of_le (hF.a3 b hb) hzD, hF.d01, hF.d02, hF.d03, hF.d12, hF.d13, hF.d23⟩
      have HGN : Hid ((∀ b, (Value.slice a0 j c0).ownBlock = some b → b ≠ g12 ∧ b ≠ g13) ∧ (∀ b, (Value.slice a1 j c1).ownBlock = some b → b ≠ g12 ∧ b ≠ g13) ∧ (∀ b, (Value.slice a2 j c2).ownBlock = some b → b ≠ g12 ∧ b ≠ g13) ∧ (∀ b, (Value.slice a3 j c3).ownBlock = some b → b ≠ g12 ∧ b ≠ g13)) := Lib.hid (by
        have h1 := HGG.out
        exact ⟨fun b hb => by have := hF.a0 b hb; omega, fun b hb => by have := hF.a1 b hb; omega, fun b hb => by have := hF.a2 b hb; omega, fun b hb => by have := hF.a3 b hb; omega⟩)
      have kp := fun {T : TypeId} {l : Value} {ys : List Value} (h : wr.ownsRow w.heap.size T 3 l j ys) (ho : Old wr l) => ((owns_below h HBC.out).kept HCD.out (by
        cases hob : l.ownBlock with
        | none => exact .inl rfl
        | some b => exact .inr (fun e => by simp only [Option.some.injEq] at e; have := ho b hob; omega)) : WD.ownsRow w.heap.size T 3 l j ys)
      have HSQ : Hid (Sq w WD j (.slice a0 j c0) (.slice a1 j c1) (.slice a2 j c2) (.slice a3 j c3) (fldsJ xs j) (fldsJ xs j) (valsJ xs j) (valsJ xs j) g12 g13 [.string (tabC xt), .string (nameC xn), .int .i64 (1 + xd % 3)] [.int .i64 vv.k, .int .i64 vv.n, .string vv.s] WD.drew) := Lib.hid ⟨((HB.out.trans (HBC.out.mono HB.out.size)).grown HCD.out (Nat.le_trans HB.out.size HBC.out.size) (fun b e => by simp only [Option.some.injEq] at e; have := HB.out.size; omega)).drew, Nat.le_refl _, kp H0.out hF.a0, kp H1.out hF.a1, kp H2.out hF.a2, kp H3.out hF.a3, HD12.out, HD13.out⟩
      obtain ⟨i0, hi0, hza0, hzb0, hzc0⟩ := info_of infoP
      obtain ⟨i1, hi1, hza1, hzb1, hzc1⟩ := info_of infoQ
      obtain ⟨i2, hi2, hza2, hzb2, hzc2⟩ := info_of infoW
      obtain ⟨i3, hi3, hza3, hzb3, hzc3⟩ := info_of infoX
      clear kp hF hzD hz13 k3 lA s0 s1 s2 z0 z1 z2 l13
      go_upto_region 20 with fail
      apply ag.region_ag  (fun W => Sq w WD j (.slice a0 j c0) (.slice a1 j c1) (.slice a2 j c2) (.slice a3 j c3) (fldsJ xs j) (fldsJ xs j) (valsJ xs j) (valsJ xs j) g12 g13 [.string (tabC xt), .string (nameC xn), .int .i64 (1 + xd % 3)] [.int .i64 vv.k, .int .i64 vv.n, .string vv.s] W) (fun _ _ u v => Dj u v) (ag.Spec.val _ :: ag.Spec.val _ :: ag.Spec.sat (Vb WD TFp [.string (tabC xt), .string (nameC xn), .int .i64 (1 + xd % 3)]) (ag.grew) :: ag.Spec.sat (Vq WD w.heap.size TFp (j + 1) (.slice a0 j c0) ((fldsJ xs j) ++ [.string (tabC xt), .string (nameC xn), .int .i64 (1 + xd % 3)])) (Tq w.heap.size TFp j (.slice a0 j c0) (fldsJ xs j)) :: ag.Spec.val _ :: ag.Spec.val _ :: ag.Spec.sat (Vb WD TFr [.string (tabC xt), .string (nameC xn), .int .i64 (1 + xd % 3)]) (ag.grew) :: ag.Spec.sat (Vq WD w.heap.size TFr (j + 1) (.slice a1 j c1) ((fldsJ xs j) ++ [.string (tabC xt), .string (nameC xn), .int .i64 (1 + xd % 3)])) (Tq w.heap.size TFr j (.slice a1 j c1) (fldsJ xs j)) :: ag.Spec.val _ :: ag.Spec.val _ :: ag.Spec.sat (Vb WD TV [.int .i64 vv.k, .int .i64 vv.n, .string vv.s]) (ag.grew) :: ag.Spec.sat (Vq WD w.heap.size TV (j + 1) (.slice a2 j c2) ((valsJ xs j) ++ [.int .i64 vv.k, .int .i64 vv.n, .string vv.s])) (Tq w.heap.size TV j (.slice a2 j c2) (valsJ xs j)) :: ag.Spec.val _ :: ag.Spec.val _ :: ag.Spec.sat (Vb WD TR [.int .i64 vv.k, .int .i64 vv.n, .string vv.s]) (ag.grew) :: ag.Spec.sat (Vq WD w.heap.size TR (j + 1) (.slice a3 j c3) ((valsJ xs j) ++ [.int .i64 vv.k, .int .i64 vv.n, .string vv.s])) (Tq w.heap.size TR j (.slice a3 j c3) (valsJ xs j)) :: ag.Spec.cpy 3 :: ag.Spec.cpy 7 :: ag.Spec.cpy 11 :: ag.Spec.cpy 15 :: [])
      case hm => kernel_rfl
      case hB => kernel_rfl
      case hlen => rfl
      case hS => exact HSQ.out
      case hst =>
        simp only [ag.Stab, ag.Row2, ag.Ok2, and_true]
        repeat' apply And.intro
        all_goals first
          | exact fun h => absurd rfl h
          | (exact fun _ _ f v W W' _ hv _ ht => Vq.lasts hv ht)
          | (exact fun _ _ f v W W' _ hv _ ht => Vb.lasts hv ht)
          | (exact fun _ _ f v W W' _ hv _ ht => Vb.other HQ.out.a0 hv ht)
          | (exact fun _ _ f v W W' _ hv _ ht => Vb.other HQ.out.a1 hv ht)
          | (exact fun _ _ f v W W' _ hv _ ht => Vb.other HQ.out.a2 hv ht)
          | (exact fun _ _ f v W W' _ hv _ ht => Vb.other HQ.out.a3 hv ht)
          | (exact fun _ _ f v W W' _ hv _ ht => Vq.other HQ.out.a1 HQ.out.d01 hv ht)
          | (exact fun _ _ f v W W' _ hv _ ht => Vq.other HQ.out.a2 HQ.out.d02 hv ht)
          | (exact fun _ _ f v W W' _ hv _ ht => Vq.other HQ.out.a3 HQ.out.d03 hv ht)
          | (exact fun _ _ f v W W' _ hv _ ht => Vq.other HQ.out.a0 HQ.out.d01.symm hv ht)
          | (exact fun _ _ f v W W' _ hv _ ht => Vq.other HQ.out.a2 HQ.out.d12 hv ht)
          | (exact fun _ _ f v W W' _ hv _ ht => Vq.other HQ.out.a3 HQ.out.d13 hv ht)
          | (exact fun _ _ f v W W' _ hv _ ht => Vq.other HQ.out.a0 HQ.out.d02.symm hv ht)
          | (exact fun _ _ f v W W' _ hv _ ht => Vq.other HQ.out.a1 HQ.out.d12.symm hv ht)
          | (exact fun _ _ f v W W' _ hv _ ht => Vq.other HQ.out.a3 HQ.out.d23 hv ht)
          | (exact fun _ _ f v W W' _ hv _ ht => Vq.other HQ.out.a0 HQ.out.d03.symm hv ht)
          | (exact fun _ _ f v W W' _ hv _ ht => Vq.other HQ.out.a1 HQ.out.d13.symm hv ht)
          | (exact fun _ _ f v W W' _ hv _ ht => Vq.other HQ.out.a2 HQ.out.d23.symm hv ht)
          | trivial
          | exact fun _ h => absurd (h.symm.trans (show _ = true by kernel_rfl)) (by decide)
      case hk =>
        simp only [ag.Keeps, and_true]
        repeat' apply And.intro
        all_goals first
          | (exact fun f W W' hS _ ht => Sq.grew hS ht)
          | (exact fun f W W' hS _ ht => Sq.t0 HQ.out HGN.out.1 hS ht)
          | (exact fun f W W' hS _ ht => Sq.t1 HQ.out HGN.out.2.1 hS ht)
          | (exact fun f W W' hS _ ht => Sq.t2 HQ.out HGN.out.2.2.1 hS ht)
          | (exact fun f W W' hS _ ht => Sq.t3 HQ.out HGN.out.2.2.2 hS ht)
          | trivial
      apply ag.walk_val
      · rfl
      · intro W1 hS hE
        clear hS hE
        all_goals unfold ag.does
        all_goals go_simp
        all_goals first | done | exact ⟨rfl, rfl⟩ | rfl | (exact ⟨by go_num, rfl⟩) | (simp; done) | trace_state
      simp only [Act.put, List.setIfInBounds_toArray, List.set_cons_zero, List.set_cons_succ]
      apply ag.walk_val
      · rfl
      · intro W1 hS hE
        obtain ⟨t0, t1, t2, -, tl⟩ := fd3 hS.b12
        clear hS hE
        all_goals unfold ag.does
        all_goals go_simp
        all_goals first | done | exact ⟨rfl, rfl⟩ | rfl | (exact ⟨by go_num, rfl⟩) | (simp; done) | trace_state
      simp only [Act.put, List.setIfInBounds_toArray, List.set_cons_zero, List.set_cons_succ]
      refine ag.walk_sat (by rfl) (fun W1 hS hE => ?_) (fun y2 => ?_)
      · have hsz := hS.siz
        clear hE
        all_goals unfold ag.does
        all_goals go_simp
        all_goals first | done | (exact ⟨Vb.new [.string (tabC xt), .string (nameC xn), .int .i64 (1 + xd % 3)] hsz, (Below.refl _ _).alloc (Nat.le_refl _) _, (by simp only [ag.News, and_true]; (repeat' (apply And.intro)); all_goals first | exact fun h => absurd rfl h | exact fun _ u hu _ => new_apart (fun b hb => (Vb.lt hu b hb).1) | exact fun _ u hu _ => new_apart (Vq.lt hu) | trivial)⟩)
      simp only [Act.put, List.setIfInBounds_toArray, List.set_cons_zero, List.set_cons_succ]
      refine ag.walk_sat (by rfl) (fun W1 hS hE => ?_) (fun y3 => ?_)
      · have hb2 : Vb WD TFp [.string (tabC xt), .string (nameC xn), .int .i64 (1 + xd % 3)] y2 W1 := hE.of 2 (by kernel_rfl)
        have hsz := hS.siz
        have hbz := hS.bel.size
        clear hE
        obtain ⟨g, rfl, hg, hff⟩ := hb2
        exact does_append (.tmp 73) (.tmp 75) 38 (by rfl) w.heap.size TFp i0 _ 3 40 Try.underlying38 hi0 hza0 hzb0 hzc0 rfl (by decide) (.slice a0 j c0) j (fldsJ xs j) (by rfl) hS.o0 (.slice (some ⟨g, 0, none⟩) 1 1) 1 [.string (tabC xt), .string (nameC xn), .int .i64 (1 + xd % 3)] (by rfl) (Row.of_flds hff rfl 1) (by intro u hu; simp only [List.mem_cons, List.not_mem_nil, or_false] at hu; rcases hu with rfl | rfl | rfl <;> rfl) (by unfold maxLen; omega) (by omega) hbz (fun v' W' hap => ⟨⟨hap.form, hap.own, vq_lies hap.lies hsz⟩, ⟨hap.grown, hap.old⟩, (by simp only [ag.News, and_true]; (repeat' (apply And.intro)); all_goals first | exact fun h => absurd rfl h | exact fun _ u hu _ => app_apart hap.lies (fun b hb => (Vb.lt hu b hb).1) (Vb.apart HQ.out.a0 hu) | exact fun _ u hu _ => app_apart hap.lies (Vq.lt hu) (Vq.apart HQ.out.a0 HQ.out.d01 hu) | exact fun _ u hu _ => app_apart hap.lies (Vq.lt hu) (Vq.apart HQ.out.a0 HQ.out.d02 hu) | exact fun _ u hu _ => app_apart hap.lies (Vq.lt hu) (Vq.apart HQ.out.a0 HQ.out.d03 hu) | trivial)⟩)
        all_goals unfold ag.does
        all_goals go_simp
      simp only [Act.put, List.setIfInBounds_toArray, List.set_cons_zero, List.set_cons_succ]
      apply ag.walk_val
      · rfl
      · intro W1 hS hE
        clear hS hE
        all_goals unfold ag.does
        all_goals go_simp
        all_goals first | done | exact ⟨rfl, rfl⟩ | rfl | (exact ⟨by go_num, rfl⟩) | (simp; done) | trace_state
      simp only [Act.put, List.setIfInBounds_toArray, List.set_cons_zero, List.set_cons_succ]
      apply ag.walk_val
      · rfl
      · intro W1 hS hE
        obtain ⟨t0, t1, t2, -, tl⟩ := fd3 hS.b12
        clear hS hE
        all_goals unfold ag.does
        all_goals go_simp
        all_goals first | done | exact ⟨rfl, rfl⟩ | rfl | (exact ⟨by go_num, rfl⟩) | (simp; done) | trace_state
      simp only [Act.put, List.setIfInBounds_toArray, List.set_cons_zero, List.set_cons_succ]
      refine ag.walk_sat (by rfl) (fun W1 hS hE => ?_) (fun y6 => ?_)
      · have hsz := hS.siz
        clear hE
        all_goals unfold ag.does
        all_goals go_simp
        all_goals first | done | (exact ⟨Vb.new [.string (tabC xt), .string (nameC xn), .int .i64 (1 + xd % 3)] hsz, (Below.refl _ _).alloc (Nat.le_refl _) _, (by simp only [ag.News, and_true]; (repeat' (apply And.intro)); all_goals first | exact fun h => absurd rfl h | exact fun _ u hu _ => new_apart (fun b hb => (Vb.lt hu b hb).1) | exact fun _ u hu _ => new_apart (Vq.lt hu) | trivial)⟩)
      simp only [Act.put, List.setIfInBounds_toArray, List.set_cons_zero, List.set_cons_succ]
      refine ag.walk_sat (by rfl) (fun W1 hS hE => ?_) (fun y7 => ?_)
      · have hb2 : Vb WD TFr [.string (tabC xt), .string (nameC xn), .int .i64 (1 + xd % 3)] y6 W1 := hE.of 6 (by kernel_rfl)
        have hsz := hS.siz
        have hbz := hS.bel.size
        clear hE
        obtain ⟨g, rfl, hg, hff⟩ := hb2
        exact does_append (.tmp 77) (.tmp 79) 39 (by rfl) w.heap.size TFr i1 _ 3 40 Try.underlying39 hi1 hza1 hzb1 hzc1 rfl (by decide) (.slice a1 j c1) j (fldsJ xs j) (by rfl) hS.o1 (.slice (some ⟨g, 0, none⟩) 1 1) 1 [.string (tabC xt), .string (nameC xn), .int .i64 (1 + xd % 3)] (by rfl) (Row.of_flds hff rfl 1) (by intro u hu; simp only [List.mem_cons, List.not_mem_nil, or_false] at hu; rcases hu with rfl | rfl | rfl <;> rfl) (by unfold maxLen; omega) (by omega) hbz (fun v' W' hap => ⟨⟨hap.form, hap.own, vq_lies hap.lies hsz⟩, ⟨hap.grown, hap.old⟩, (by simp only [ag.News, and_true]; (repeat' (apply And.intro)); all_goals first | exact fun h => absurd rfl h | exact fun _ u hu _ => app_apart hap.lies (fun b hb => (Vb.lt hu b hb).1) (Vb.apart HQ.out.a1 hu) | exact fun _ u hu _ => app_apart hap.lies (Vq.lt hu) (Vq.apart HQ.out.a1 HQ.out.d01.symm hu) | exact fun _ u hu _ => app_apart hap.lies (Vq.lt hu) (Vq.apart HQ.out.a1 HQ.out.d12 hu) | exact fun _ u hu _ => app_apart hap.lies (Vq.lt hu) (Vq.apart HQ.out.a1 HQ.out.d13 hu) | trivial)⟩)
        all_goals unfold ag.does
        all_goals go_simp
      simp only [Act.put, List.setIfInBounds_toArray, List.set_cons_zero, List.set_cons_succ]
      apply ag.walk_val
      · rfl
      · intro W1 hS hE
        clear hS hE
        all_goals unfold ag.does
        all_goals go_simp
        all_goals first | done | exact ⟨rfl, rfl⟩ | rfl | (exact ⟨by go_num, rfl⟩) | (simp; done) | trace_state
      simp only [Act.put, List.setIfInBounds_toArray, List.set_cons_zero, List.set_cons_succ]
      apply ag.walk_val
      · rfl
      · intro W1 hS hE
        obtain ⟨t0, t1, t2, -, tl⟩ := fd3 hS.b13
        clear hS hE
        all_goals unfold ag.does
        all_goals go_simp
        all_goals first | done | exact ⟨rfl, rfl⟩ | rfl | (exact ⟨by go_num, rfl⟩) | (simp; done) | trace_state
      simp only [Act.put, List.setIfInBounds_toArray, List.set_cons_zero, List.set_cons_succ]
      refine ag.walk_sat (by rfl) (fun W1 hS hE => ?_) (fun y10 => ?_)
      · have hsz := hS.siz
        clear hE
        all_goals unfold ag.does
        all_goals go_simp
        all_goals first | done | (exact ⟨Vb.new [.int .i64 vv.k, .int .i64 vv.n, .string vv.s] hsz, (Below.refl _ _).alloc (Nat.le_refl _) _, (by simp only [ag.News, and_true]; (repeat' (apply And.intro)); all_goals first | exact fun h => absurd rfl h | exact fun _ u hu _ => new_apart (fun b hb => (Vb.lt hu b hb).1) | exact fun _ u hu _ => new_apart (Vq.lt hu) | trivial)⟩)
      simp only [Act.put, List.setIfInBounds_toArray, List.set_cons_zero, List.set_cons_succ]
      refine ag.walk_sat (by rfl) (fun W1 hS hE => ?_) (fun y11 => ?_)
      · have hb2 : Vb WD TV [.int .i64 vv.k, .int .i64 vv.n, .string vv.s] y10 W1 := hE.of 10 (by kernel_rfl)
        have hsz := hS.siz
        have hbz := hS.bel.size
        clear hE
        obtain ⟨g, rfl, hg, hff⟩ := hb2
        exact does_append (.tmp 81) (.tmp 83) 40 (by rfl) w.heap.size TV i2 _ 3 32 Try.underlying40 hi2 hza2 hzb2 hzc2 rfl (by decide) (.slice a2 j c2) j (valsJ xs j) (by rfl) hS.o2 (.slice (some ⟨g, 0, none⟩) 1 1) 1 [.int .i64 vv.k, .int .i64 vv.n, .string vv.s] (by rfl) (Row.of_flds hff rfl 1) (by intro u hu; simp only [List.mem_cons, List.not_mem_nil, or_false] at hu; rcases hu with rfl | rfl | rfl <;> rfl) (by unfold maxLen; omega) (by omega) hbz (fun v' W' hap => ⟨⟨hap.form, hap.own, vq_lies hap.lies hsz⟩, ⟨hap.grown, hap.old⟩, (by simp only [ag.News, and_true]; (repeat' (apply And.intro)); all_goals first | exact fun h => absurd rfl h | exact fun _ u hu _ => app_apart hap.lies (fun b hb => (Vb.lt hu b hb).1) (Vb.apart HQ.out.a2 hu) | exact fun _ u hu _ => app_apart hap.lies (Vq.lt hu) (Vq.apart HQ.out.a2 HQ.out.d02.symm hu) | exact fun _ u hu _ => app_apart hap.lies (Vq.lt hu) (Vq.apart HQ.out.a2 HQ.out.d12.symm hu) | exact fun _ u hu _ => app_apart hap.lies (Vq.lt hu) (Vq.apart HQ.out.a2 HQ.out.d23 hu) | trivial)⟩)
        all_goals unfold ag.does
        all_goals go_simp
      simp only [Act.put, List.setIfInBounds_toArray, List.set_cons_zero, List.set_cons_succ]
      apply ag.walk_val
      · rfl
      · intro W1 hS hE
        clear hS hE
        all_goals unfold ag.does
        all_goals go_simp
        all_goals first | done | exact ⟨rfl, rfl⟩ | rfl | (exact ⟨by go_num, rfl⟩) | (simp; done) | trace_state
      simp only [Act.put, List.setIfInBounds_toArray, List.set_cons_zero, List.set_cons_succ]
      apply ag.walk_val
      · rfl
      · intro W1 hS hE
        obtain ⟨t0, t1, t2, -, tl⟩ := fd3 hS.b13
        clear hS hE
        all_goals unfold ag.does
        all_goals go_simp
        all_goals first | done | exact ⟨rfl, rfl⟩ | rfl | (exact ⟨by go_num, rfl⟩) | (simp; done) | trace_state
      simp only [Act.put, List.setIfInBounds_toArray, List.set_cons_zero, List.set_cons_succ]
      refine ag.walk_sat (by rfl) (fun W1 hS hE => ?_) (fun y14 => ?_)
      · have hsz := hS.siz
        clear hE
        all_goals unfold ag.does
        all_goals go_simp
        all_goals first | done | (exact ⟨Vb.new [.int .i64 vv.k, .int .i64 vv.n, .string vv.s] hsz, (Below.refl _ _).alloc (Nat.le_refl _) _, (by simp only [ag.News, and_true]; (repeat' (apply And.intro)); all_goals first | exact fun h => absurd rfl h | exact fun _ u hu _ => new_apart (fun b hb => (Vb.lt hu b hb).1) | exact fun _ u hu _ => new_apart (Vq.lt hu) | trivial)⟩)
      simp only [Act.put, List.setIfInBounds_toArray, List.set_cons_zero, List.set_cons_succ]
      refine ag.walk_sat (by rfl) (fun W1 hS hE => ?_) (fun y15 => ?_)
      · have hb2 : Vb WD TR [.int .i64 vv.k, .int .i64 vv.n, .string vv.s] y14 W1 := hE.of 14 (by kernel_rfl)
        have hsz := hS.siz
        have hbz := hS.bel.size
        clear hE
        obtain ⟨g, rfl, hg, hff⟩ := hb2
        exact does_append (.tmp 85) (.tmp 87) 41 (by rfl) w.heap.size TR i3 _ 3 32 Try.underlying41 hi3 hza3 hzb3 hzc3 rfl (by decide) (.slice a3 j c3) j (valsJ xs j) (by rfl) hS.o3 (.slice (some ⟨g, 0, none⟩) 1 1) 1 [.int .i64 vv.k, .int .i64 vv.n, .string vv.s] (by rfl) (Row.of_flds hff rfl 1) (by intro u hu; simp only [List.mem_cons, List.not_mem_nil, or_false] at hu; rcases hu with rfl | rfl | rfl <;> rfl) (by unfold maxLen; omega) (by omega) hbz (fun v' W' hap => ⟨⟨hap.form, hap.own, vq_lies hap.lies hsz⟩, ⟨hap.grown, hap.old⟩, (by simp only [ag.News, and_true]; (repeat' (apply And.intro)); all_goals first | exact fun h => absurd rfl h | exact fun _ u hu _ => app_apart hap.lies (fun b hb => (Vb.lt hu b hb).1) (Vb.apart HQ.out.a3 hu) | exact fun _ u hu _ => app_apart hap.lies (Vq.lt hu) (Vq.apart HQ.out.a3 HQ.out.d03.symm hu) | exact fun _ u hu _ => app_apart hap.lies (Vq.lt hu) (Vq.apart HQ.out.a3 HQ.out.d13.symm hu) | exact fun _ u hu _ => app_apart hap.lies (Vq.lt hu) (Vq.apart HQ.out.a3 HQ.out.d23.symm hu) | trivial)⟩)
        all_goals unfold ag.does
        all_goals go_simp
      simp only [Act.put, List.setIfInBounds_toArray, List.set_cons_zero, List.set_cons_succ]
      refine ag.walk_cpy (by kernel_rfl) (by rfl) (by rfl) (fun W1 hS hE => ?_) ?_
      · clear hS hE
        unfold ag.does
        go_simp
        first | exact ⟨rfl, rfl⟩ | rfl
      simp only [ag.lookX, Nat.reduceAdd, Nat.reduceEqDiff, if_false, if_true]
      simp only [Act.put, List.setIfInBounds_toArray, List.set_cons_zero, List.set_cons_succ]
      refine ag.walk_cpy (by kernel_rfl) (by rfl) (by rfl) (fun W1 hS hE => ?_) ?_
      · clear hS hE
        unfold ag.does
        go_simp
        first | exact ⟨rfl, rfl⟩ | rfl
      simp only [ag.lookX, Nat.reduceAdd, Nat.reduceEqDiff, if_false, if_true]
      simp only [Act.put, List.setIfInBounds_toArray, List.set_cons_zero, List.set_cons_succ]
      refine ag.walk_cpy (by kernel_rfl) (by rfl) (by rfl) (fun W1 hS hE => ?_) ?_
      · clear hS hE
        unfold ag.does
        go_simp
        first | exact ⟨rfl, rfl⟩ | rfl
      simp only [ag.lookX, Nat.reduceAdd, Nat.reduceEqDiff, if_false, if_true]
      simp only [Act.put, List.setIfInBounds_toArray, List.set_cons_zero, List.set_cons_succ]
      refine ag.walk_cpy (by kernel_rfl) (by rfl) (by rfl) (fun W1 hS hE => ?_) ?_
      · clear hS hE
        unfold ag.does
        go_simp
        first | exact ⟨rfl, rfl⟩ | rfl
      simp only [ag.lookX, Nat.reduceAdd, Nat.reduceEqDiff, if_false, if_true]
      simp only [Act.put, List.setIfInBounds_toArray, List.set_cons_zero, List.set_cons_succ]
      refine ag.walk_nil (fun w9 hS hF hP => ?_)
      have v3 : Vq WD w.heap.size TFp (j + 1) (.slice a0 j c0) (fldsJ xs j ++ [.string (tabC xt), .string (nameC xn), .int .i64 (1 + xd % 3)]) y3 w9 := by
        have h := hF.of 3
        simp only [ag.lookE, Nat.reduceEqDiff, if_false, if_true] at h
        exact h
      have v7 : Vq WD w.heap.size TFr (j + 1) (.slice a1 j c1) (fldsJ xs j ++ [.string (tabC xt), .string (nameC xn), .int .i64 (1 + xd % 3)]) y7 w9 := by
        have h := hF.of 7
        simp only [ag.lookE, Nat.reduceEqDiff, if_false, if_true] at h
        exact h
      have v11 : Vq WD w.heap.size TV (j + 1) (.slice a2 j c2) (valsJ xs j ++ [.int .i64 vv.k, .int .i64 vv.n, .string vv.s]) y11 w9 := by
        have h := hF.of 11
        simp only [ag.lookE, Nat.reduceEqDiff, if_false, if_true] at h
        exact h
      have v15 : Vq WD w.heap.size TR (j + 1) (.slice a3 j c3) (valsJ xs j ++ [.int .i64 vv.k, .int .i64 vv.n, .string vv.s]) y15 w9 := by
        have h := hF.of 15
        simp only [ag.lookE, Nat.reduceEqDiff, if_false, if_true] at h
        exact h
      have hq : Four w9 y3 y7 y11 y15 := by
        simp only [ag.Pairs, List.pairwise_cons, List.mem_cons, List.not_mem_nil, or_false] at hP
        obtain ⟨h15, -, h11, -, h7, -, -⟩ := hP
        have g : ∀ {u v : Value}, (Dj u v ∨ Dj v u) → Dj v u := fun h => h.elim Dj.symm id
        exact ⟨v3.lt, v7.lt, v11.lt, v15.lt, g (h7 (3, y3) (by simp)), g (h11 (3, y3) (by simp)), g (h15 (3, y3) (by simp)), g (h11 (7, y7) (by simp)), g (h15 (7, y7) (by simp)), g (h15 (11, y11) (by simp))⟩
      have HFJ : Hid (fldsJ xs (j + 1) = fldsJ xs j ++ [.string (tabC xt), .string (nameC xn), .int .i64 (1 + xd % 3)]) := Lib.hid (fldsJ_succ HXJ.out)
      have HVJ : Hid (valsJ xs (j + 1) = valsJ xs j ++ [.int .i64 vv.k, .int .i64 vv.n, .string vv.s]) := Lib.hid (by rw [valsJ_succ HXJ.out, HVC.out])
      have HV3 := Lib.hid v3.2.1; have HV7 := Lib.hid v7.2.1; have HV11 := Lib.hid v11.2.1; have HV15 := Lib.hid v15.2.1
      have HQ9 := Lib.hid hq
      have HB9 := Lib.hid hS.bel
      clear hF hP hS v3 v7 v11 v15 hq
      go_wp2_with fail
      go_roundw
      case rel => exact ⟨j + 1, by go_num, by omega, by rw [HFJ.out]; exact HV3, by rw [HFJ.out]; exact HV7, by rw [HVJ.out]; exact HV11, by rw [HVJ.out]; exact HV15, HQ9, HB9⟩
      case measure => simp [intOf]; omega
    · obtain rfl : j = m := by omega
      have HE1 : Hid (fldsJ xs j = fCells (fldsC xs)) := Lib.hid (by unfold fldsJ fldsC; rw [take_min HN.out HM.out])
      have HE2 : Hid (valsJ xs j = vCells (valsC xs)) := Lib.hid (by unfold valsJ valsC; rw [take_min HN.out HM.out])
      have R0 := Lib.hid (HE1.out ▸ Row.of_owns H0.out)
      have R1 := Lib.hid (HE1.out ▸ Row.of_owns H1.out)
      have R2 := Lib.hid (HE2.out ▸ Row.of_owns H2.out)
      have R3 := Lib.hid (HE2.out ▸ Row.of_owns H3.out)
      by_cases h6 : n ≤ 6
      · have dj : ¬ (j : Int) < (n : Int) := by have := HM.out; omega
        clear h6
        go_wp2_with fail
        exact bodyPost_ret (v := .tuple #[.slice a0 j c0, .slice a1 j c1, .slice a2 j c2, .slice a3 j c3]) (by simp [results, Try.results9, go_sem]) rfl ⟨_, _, _, _, rfl, R0.out, R1.out, R2.out, R3.out, HB.out⟩
      · have dj : (j : Int) < (n : Int) := by have := HM.out; omega
        have d6 : ¬ (j : Int) < 6 := by have := HM.out; omega
        clear h6
        go_wp2_with fail
        exact bodyPost_ret (v := .tuple #[.slice a0 j c0, .slice a1 j c1, .slice a2 j c2, .slice a3 j c3]) (by simp [results, Try.results9, go_sem]) rfl ⟨_, _, _, _, rfl, R0.out, R1.out, R2.out, R3.out, HB.out⟩
end Go.Proofs.Ytjnlimahcodomaa.ck
