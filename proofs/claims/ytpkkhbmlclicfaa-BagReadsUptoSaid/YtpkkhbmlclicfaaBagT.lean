/- What the laws on bags are told: two rows, the same. -/
import Derived.Test.YtpkkhbmlclicfaaMC
import Derived.Test.YtpkkhbmlclicfaaMF
import Derived.RegionTactic
import Derived.BigRegion
namespace Go.Proofs.Ytpkkhbmlclicfaa.val
set_option linter.unusedVariables false
open Go.RowKit
attribute [local go_sem high] run_min_keep
attribute [local go_sem] ag.upon_value ag.upon_skip ag.upon_enter
attribute [local go_sem] Oper.semAt_some
abbrev Pl := Int × Int × ByteArray
/-- the cells of plain values that came in -/
def pCells (l : List Pl) : List Value := l.flatMap fun x => [.int .u8 x.1, .int .u8 x.2.1, .string x.2.2]
theorem pCells_len (l : List Pl) : (pCells l).length = l.length * 3 := by
  induction l with
  | nil => rfl
  | cons v l ih => simp only [pCells, List.flatMap_cons, List.length_append, List.length_cons, List.length_nil] at ih ⊢; omega
theorem pCells_cons (v : Pl) (l : List Pl) : pCells (v :: l) = .int .u8 v.1 :: .int .u8 v.2.1 :: .string v.2.2 :: pCells l := rfl
theorem pCells_at : ∀ (l : List Pl) (j : Nat) (v : Pl), l[j]? = some v → (pCells l)[j * 3]? = some (.int .u8 v.1) ∧ (pCells l)[j * 3 + 1]? = some (.int .u8 v.2.1) ∧ (pCells l)[j * 3 + 2]? = some (.string v.2.2)
  | [], j, v, h => by simp at h
  | u :: l, 0, v, h => by simp at h; subst h; exact ⟨rfl, rfl, rfl⟩
  | u :: l, j + 1, v, h => by
    have := pCells_at l j v (by simpa using h)
    rw [pCells_cons, show (j + 1) * 3 = j * 3 + 1 + 1 + 1 by omega]
    exact this
theorem and_one8 (n : Int) : bits .and .u8 n 1 = 0 ∨ bits .and .u8 n 1 = 1 := by
  have h : (BitVec.ofInt 8 n &&& BitVec.ofInt 8 1).toNat = 0 ∨ (BitVec.ofInt 8 n &&& BitVec.ofInt 8 1).toNat = 1 := by
    rw [BitVec.toNat_and, show (BitVec.ofInt 8 1).toNat = 1 from rfl, Nat.and_one_is_mod]
    omega
  show IntKind.u8.wrap ((BitVec.ofInt 8 n &&& BitVec.ofInt 8 1).toNat : Int) = 0 ∨ IntKind.u8.wrap ((BitVec.ofInt 8 n &&& BitVec.ofInt 8 1).toNat : Int) = 1
  rcases h with h | h <;> rw [h]
  · left; rfl
  · right; rfl
theorem and_one8w (n : Int) : wrap64 (bits .and .u8 n 1) = 0 ∨ wrap64 (bits .and .u8 n 1) = 1 := by
  rcases and_one8 n with h | h <;> rw [h]
  · left; unfold wrap64; omega
  · right; unfold wrap64; omega
/-- what may come in -/
def PB (x : Pl) : Prop := (0 ≤ x.1 ∧ x.1 ≤ 255) ∧ (0 ≤ x.2.1 ∧ x.2.1 ≤ 255) ∧ x.2.2.size ≤ 9223372036854775807
/-- what is told: two rows, the same -/
def ToldPost (W : World) (e : Ending) (w' : World) : Prop :=
  ∃ va vb l, e = .returned (.tuple #[va, vb]) ∧ l.length ≤ 4 ∧ (∀ x ∈ l, Good x) ∧ w'.ownsRow W.heap.size TV 3 va l.length (vCells l) ∧ w'.ownsRow W.heap.size TR 3 vb l.length (vCells l) ∧ Below W.heap.size W w'
theorem infoR : (Try.prog.info? 86).map (fun i => (i.zero, i.size, i.bytes)) = some (some (ag3 0 0 ⟨#[]⟩), 3, 32) := by kernel_rfl
theorem one_fl (k n : Int) (s : ByteArray) : ∀ u ∈ [Value.int .i64 k, .int .i64 n, .string s], u.oneCell' = true := by
  intro u hu; simp at hu; rcases hu with rfl | rfl | rfl <;> rfl
/-- what is known ahead of the appends -/
def ToldCut (w0 : World) (wx : World) : Prop := ∃ k n s, Flds wx w0.heap.size TR [.int .i64 k, .int .i64 n, .string s] ∧ Good ⟨k, n, s⟩ ∧ Below w0.heap.size w0 wx
set_option maxRecDepth 100000 in
set_option maxHeartbeats 4000000 in
theorem told8_any (v : Value) (xs : List Pl) (hl : xs.length ≤ 9223372036854775807) (hpb : ∀ x ∈ xs, PB x) (W : World) (hv : Row W v 3 xs.length (pCells xs)) :
    Calls Try.prog 24 #[v] W (ToldPost W) := by
  obtain ⟨i0, hi, hz0, hz1, hz2⟩ := info_parts infoV
  obtain ⟨j0, hj, hy0, hy1, hy2⟩ := info_parts infoR
  have HV := Lib.hid hv
  have HPB := Lib.hid hpb
  obtain ⟨a, cap, rfl, -⟩ := hv
  have hn0 : (0 : Int) ≤ (xs.length : Int) := by omega
  have hn1 : (xs.length : Int) ≤ 9223372036854775807 := by omega
  clear hpb
  go_enter Try.func24, Try.ntmps24
  go_wp2
  go_loopw [4, 5, 6] (fun sa sb i wr => ∃ (k : Nat) (l : List V) (aA : Option Addr) (cA : Nat) (aB : Option Addr) (cB : Nat), sa = .slice aA k cA ∧ sb = .slice aB k cB ∧ i = .int .i64 (k : Int) ∧ k ≤ xs.length ∧ k ≤ 4 ∧ Hid (l.length = k ∧ ∀ x ∈ l, Good x) ∧ Hid (wr.ownsRow W.heap.size TV 3 sa k (vCells l)) ∧ Hid (wr.ownsRow W.heap.size TR 3 sb k (vCells l)) ∧ Hid (Below W.heap.size W wr)) (fun _ _ i _ => 4 - (intOf i).toNat)
  case atStart => exact ⟨0, [], none, 0, none, 0, rfl, rfl, rfl, by omega, by omega, Lib.hid ⟨rfl, by simp⟩, Lib.hid (World.ownsRow_nil _ _ _ _), Lib.hid (World.ownsRow_nil _ _ _ _), Lib.hid (Below.refl _ _)⟩
  case round =>
    obtain ⟨k, l, aA, cA, aB, cB, rfl, rfl, rfl, hk, hk9, HL, HOA, HOB, HB⟩ := hrel
    have hd0 : (0 : Int) ≤ (k : Int) := by omega
    by_cases h1 : k < xs.length
    · have d1 : (k : Int) < (xs.length : Int) := by omega
      by_cases h2 : k < 4
      · have d2 : (k : Int) < 4 := by omega
        obtain ⟨b, off, cap', ea, hcell⟩ := (HV.out.later HB.out).pos (by omega)
        simp only [Value.slice.injEq] at ea
        obtain ⟨rfl, -, rfl⟩ := ea
        obtain ⟨c0, c1, c2⟩ := pCells_at xs k _ (List.getElem?_eq_getElem h1)
        have g0 := (hcell (k * 3) (by omega)).trans c0
        have g1 := (hcell (k * 3 + 1) (by omega)).trans c1
        have g2 := (hcell (k * 3 + 2) (by omega)).trans c2
        rw [← Nat.add_assoc] at g1 g2
        have hpx := HPB.out _ (List.getElem_mem h1)
        generalize xs[k] = x at *
        obtain ⟨xk, xn, xs0⟩ := x
        obtain ⟨⟨p0, p1⟩, ⟨p2, p3⟩, p4⟩ := hpx
        dsimp only at g0 g1 g2 p0 p1 p2 p3 p4
        have hx0 : (0 : Int) ≤ (xs0.size : Int) := by omega
        have hx1 : (xs0.size : Int) ≤ 9223372036854775807 := by omega
        have lb := World.block_lt_of_cell? wr _ g0
        dsimp only at lb
        clear hcell c0 c1 c2 p4
        go_upto_block 2 with fail
        obtain ⟨q, hq⟩ : ∃ q, xk % 4 = q := ⟨_, rfl⟩
        have hm4 : 0 ≤ xk % 4 ∧ xk % 4 ≤ 3 := by omega
        rw [hq] at hm4
        rw [hq]
        obtain ⟨m0, m3⟩ := hm4
        clear hq
        go_cut [28] from 29 to 62 (fun _ wx => Hid (ToldCut wr wx))
        case first =>
          have FN := Lib.hid (fun (x y z : Value) => Flds.new wr TR [x, y, z])
          by_cases q1 : q = 1
          · have e1 : (q == 1) = true := by simp [q1]
            have HA1 := Lib.hid (and_one8w xn)
            have HQ := Lib.hid q1
            clear q1
            go_wp2_with fail
            go_meet
            exact Lib.hid ⟨_, _, _, FN.out _ _ _, .inr (.inl ⟨HQ.out, HA1.out, rfl⟩), below_alloc1 _ _⟩
          · have e1 : (q == 1) = false := by simpa using q1
            by_cases q2 : q = 2
            · have e2 : (q == 2) = true := by simp [q2]
              have HQ := Lib.hid q2
              clear q1 q2
              go_wp2_with fail
              go_meet
              exact Lib.hid ⟨_, xn, _, FN.out _ _ _, .inr (.inr (.inl ⟨HQ.out, rfl, by show -9223372036854775808 ≤ xn; omega, by show xn ≤ 9223372036854775807; omega⟩)), below_alloc1 _ _⟩
            · have e2 : (q == 2) = false := by simpa using q2
              by_cases q3 : q = 3
              · have e3 : (q == 3) = true := by simp [q3]
                have HQ := Lib.hid q3
                clear q1 q2 q3
                have hmn0 : 0 ≤ min (xs0.size : Int) 64 := by omega
                have hmn1 : min (xs0.size : Int) 64 ≤ xs0.size := by omega
                have hcs : (xs0.extract 0 (min (xs0.size : Int) 64).toNat).size ≤ 64 := by rw [ByteArray.size_extract]; omega
                have HCS := Lib.hid hcs
                clear hcs
                go_wp2_with fail
                go_region
                go_wp2_with fail
                go_meet
                exact Lib.hid ⟨_, _, _, (FN.out _ _ _).later ((Below.refl _ _).drew), .inr (.inr (.inr ⟨HQ.out, rfl, HCS.out⟩)), (below_alloc1 _ _).drew⟩
              · have e3 : (q == 3) = false := by simpa using q3
                have HQ : Hid (q = 0) := Lib.hid (by omega)
                clear q1 q2 q3
                go_wp2_with fail
                go_meet
                exact Lib.hid ⟨_, _, _, FN.out _ _ _, .inl ⟨HQ.out, rfl, rfl⟩, below_alloc1 _ _⟩
        case rest =>
          obtain ⟨tk, tn, ts, hf7, hgd, hbx⟩ := hcut.out
          have hA := owns_below HOA.out hbx
          have hB := owns_below HOB.out hbx
          have HGD := Lib.hid hgd
          have HBC := Lib.hid (HB.out.trans (hbx.mono HB.out.size))
          have hXB : W.heap.size ≤ wc.heap.size := Nat.le_trans HB.out.size hbx.size
          have HAP := Lib.hid (apart_types hA hB (by decide))
          have HUA := Lib.hid (fun g e => (hA.lt g e).2)
          have HUB := Lib.hid (fun g e => (hB.lt g e).2)
          have HN7 := Lib.hid (fun (h : (Value.slice aA k cA).ownBlock = some wr.heap.size ∨ (Value.slice aB k cB).ownBlock = some wr.heap.size) => (h.elim (fun e => Nat.lt_irrefl _ (HOA.out.lt _ e).2) (fun e => Nat.lt_irrefl _ (HOB.out.lt _ e).2) : False))
          generalize wr.heap.size = g7 at *
          have HF7 := Lib.hid (fun W1 (hS : Two W.heap.size wc (.slice aA k cA) TV 3 k (vCells l) (.slice aB k cB) TR 3 k (vCells l) W1) => (⟨cell_only (hf7.cell 0) hS.1 HN7.out, cell_only (hf7.cell 1) hS.1 HN7.out, cell_only (hf7.cell 2) hS.1 HN7.out⟩ : W1.cell? ⟨g7, 0, none⟩ = some (.int .i64 tk) ∧ W1.cell? ⟨g7, 1, none⟩ = some (.int .i64 tn) ∧ W1.cell? ⟨g7, 2, none⟩ = some (.string ts)))
          have HT := Lib.hid (Two.later (show Two W.heap.size wc (.slice aA k cA) TV 3 k (vCells l) (.slice aB k cB) TR 3 k (vCells l) wc from ⟨Only.refl _ _, hA, hB⟩) ((Below.refl _ _).drew))
          have h63 : k + 1 ≤ maxLen := by unfold maxLen; omega
          have h64 : (k + 1) * 32 ≤ 140737488355328 := by omega
          clear hcut hf7 hgd hA hB hbx g0 g1 g2 lb m0 m3 p0 p1 p2 p3
          go_wp2_with fail
          refine ag.region_ag (Two W.heap.size wc (.slice aA k cA) TV 3 k (vCells l) (.slice aB k cB) TR 3 k (vCells l)) (fun _ _ _ _ => True)
            [.val (.slice aA k cA), .val (ag3 tk tn ts), .sat (tBox wc TV 1 [.int .i64 tk, .int .i64 tn, .string ts]) (fun _ w w' => Below w.heap.size w w'), .sat (tNew W.heap.size wc (.slice aA k cA) TV 3 (k + 1) ((vCells l) ++ [.int .i64 tk, .int .i64 tn, .string ts])) (fun _ => (tAp W.heap.size (.slice aA k cA) TV 3 k (vCells l))), .val (.slice aB k cB), .val (ag3 tk tn ts), .sat (tBox wc TR 1 [.int .i64 tk, .int .i64 tn, .string ts]) (fun _ w w' => Below w.heap.size w w'), .sat (tNew W.heap.size wc (.slice aB k cB) TR 3 (k + 1) ((vCells l) ++ [.int .i64 tk, .int .i64 tn, .string ts])) (fun _ => (tAp W.heap.size (.slice aB k cB) TR 3 k (vCells l))), .cpy 3, .cpy 7]
            (by kernel_rfl) (by kernel_rfl) rfl HT.out ?hstt ?hkt ?hwalkt
          case hstt =>
            simp only [ag.Stab, ag.Row2, ag.Ok2, and_true]
            repeat' apply And.intro
            all_goals first
              | exact fun h => absurd rfl h
              | exact fun _ _ f v W W' hS hv _ ht => hv.later ht
              | exact fun _ _ f v W W' hS hv _ ht => hv.far ht HUA.out
              | exact fun _ _ f v W W' hS hv _ ht => hv.far ht HUB.out
              | exact fun _ _ f v W W' hS hv _ ht => hv.far ht HAP.out HUB.out
              | exact fun _ _ f v W W' hS hv _ ht => hv.far ht (fun g h1 h2 => HAP.out g h2 h1) HUA.out
              | exact fun _ h => absurd (h.symm.trans (show _ = true by kernel_rfl)) (by decide)
              | trivial
          case hkt =>
            simp only [ag.Keeps, and_true]
            repeat' apply And.intro
            all_goals first
              | exact fun f W W' hS _ ht => hS.later ht
              | exact fun f W W' hS _ ht => hS.apa HAP.out ht
              | exact fun f W W' hS _ ht => hS.apb HAP.out ht
          case hwalkt =>
            refine ag.walk_val (by rfl) (fun Wq hS hE => ?_) ?_
            rotate_left; simp only [Act.put, List.setIfInBounds_toArray, List.set_cons_zero, List.set_cons_succ]; rotate_left
            · clear hS hE
              unfold ag.does
              go_simp
              try exact ⟨rfl, rfl⟩
            refine ag.walk_val (by rfl) (fun Wq hS hE => ?_) ?_
            rotate_left; simp only [Act.put, List.setIfInBounds_toArray, List.set_cons_zero, List.set_cons_succ]; rotate_left
            · obtain ⟨c0, c1, c2⟩ := HF7.out Wq hS
              clear hS hE
              unfold ag.does
              go_simp
              try exact ⟨rfl, rfl⟩
            refine ag.walk_sat (by rfl) (fun Wq hS hE => ?_) (fun z2 => ?_)
            rotate_left; simp only [Act.put, List.setIfInBounds_toArray, List.set_cons_zero, List.set_cons_succ]; rotate_left
            · have hz := hS.1.size
              clear hE
              unfold ag.does
              go_simp
              exact ⟨⟨_, rfl, Flds.new Wq TV [.int .i64 tk, .int .i64 tn, .string ts], hz⟩, (Below.refl _ _).alloc (Nat.le_refl _) _, ag.News.none (fun _ _ => trivial) _ _⟩
            refine ag.walk_sat (by rfl) (fun Wq hS hE => ?_) (fun z3 => ?_)
            rotate_left; simp only [Act.put, List.setIfInBounds_toArray, List.set_cons_zero, List.set_cons_succ]; rotate_left
            · obtain ⟨g5, e5, hF5, hg5⟩ : tBox wc TV 1 [.int .i64 tk, .int .i64 tn, .string ts] z2 Wq := hE.get (by kernel_rfl)
              clear hE
              subst e5
              refine does_append (.tmp 63) (.tmp 65) 49 (by rfl) W.heap.size TV i0 (ag3 0 0 ⟨#[]⟩) 3 32 Try.underlying49 hi hz0 hz1 hz2 rfl (by decide) (.slice aA k cA) k (vCells l) (by rfl) hS.2.1
                (.slice (some ⟨g5, 0, none⟩) 1 1) 1 [.int .i64 tk, .int .i64 tn, .string ts] (by rfl) (Row.of_flds hF5 rfl 1) (one_fl _ _ _) h63 h64 (Nat.le_trans hXB hS.1.size) (fun v' W' hap => ?_)
              obtain ⟨q1, q2⟩ := tNew.of hap hS.1.size
              exact ⟨q1, q2, ag.News.none (fun _ _ => trivial) _ _⟩
            refine ag.walk_val (by rfl) (fun Wq hS hE => ?_) ?_
            rotate_left; simp only [Act.put, List.setIfInBounds_toArray, List.set_cons_zero, List.set_cons_succ]; rotate_left
            · clear hS hE
              unfold ag.does
              go_simp
              try exact ⟨rfl, rfl⟩
            refine ag.walk_val (by rfl) (fun Wq hS hE => ?_) ?_
            rotate_left; simp only [Act.put, List.setIfInBounds_toArray, List.set_cons_zero, List.set_cons_succ]; rotate_left
            · obtain ⟨c0, c1, c2⟩ := HF7.out Wq hS
              clear hS hE
              unfold ag.does
              go_simp
              try exact ⟨rfl, rfl⟩
            refine ag.walk_sat (by rfl) (fun Wq hS hE => ?_) (fun z6 => ?_)
            rotate_left; simp only [Act.put, List.setIfInBounds_toArray, List.set_cons_zero, List.set_cons_succ]; rotate_left
            · have hz := hS.1.size
              clear hE
              unfold ag.does
              go_simp
              exact ⟨⟨_, rfl, Flds.new Wq TR [.int .i64 tk, .int .i64 tn, .string ts], hz⟩, (Below.refl _ _).alloc (Nat.le_refl _) _, ag.News.none (fun _ _ => trivial) _ _⟩
            refine ag.walk_sat (by rfl) (fun Wq hS hE => ?_) (fun z7 => ?_)
            rotate_left; simp only [Act.put, List.setIfInBounds_toArray, List.set_cons_zero, List.set_cons_succ]; rotate_left
            · obtain ⟨g5, e5, hF5, hg5⟩ : tBox wc TR 1 [.int .i64 tk, .int .i64 tn, .string ts] z6 Wq := hE.get (by kernel_rfl)
              clear hE
              subst e5
              refine does_append (.tmp 67) (.tmp 69) 35 (by rfl) W.heap.size TR j0 (ag3 0 0 ⟨#[]⟩) 3 32 Try.underlying35 hj hy0 hy1 hy2 rfl (by decide) (.slice aB k cB) k (vCells l) (by rfl) hS.2.2
                (.slice (some ⟨g5, 0, none⟩) 1 1) 1 [.int .i64 tk, .int .i64 tn, .string ts] (by rfl) (Row.of_flds hF5 rfl 1) (one_fl _ _ _) h63 h64 (Nat.le_trans hXB hS.1.size) (fun v' W' hap => ?_)
              obtain ⟨q1, q2⟩ := tNew.of hap hS.1.size
              exact ⟨q1, q2, ag.News.none (fun _ _ => trivial) _ _⟩
            refine ag.walk_cpy (by kernel_rfl) (by rfl) (by rfl) (fun Wq hS hE => ?_) ?_
            rotate_left; simp only [Act.put, List.setIfInBounds_toArray, List.set_cons_zero, List.set_cons_succ]; rotate_left
            · clear hS hE
              unfold ag.does
              go_simp
              rfl
            refine ag.walk_cpy (by kernel_rfl) (by rfl) (by rfl) (fun Wq hS hE => ?_) ?_
            rotate_left; simp only [Act.put, List.setIfInBounds_toArray, List.set_cons_zero, List.set_cons_succ]; rotate_left
            · clear hS hE
              unfold ag.does
              go_simp
              rfl
            simp only [ag.lookX, Nat.reduceAdd, Nat.reduceEqDiff, if_false, if_true]
            refine ag.walk_nil (fun W2 hS hF' hP => ?_)
            obtain ⟨-, -, f7, -, f3, -⟩ := hF'
            obtain ⟨⟨a3, c3, rfl⟩, o3, l3⟩ := f3
            obtain ⟨⟨a7, c7, rfl⟩, o7, l7⟩ := f7
            have HO3 := Lib.hid o3; have HO7 := Lib.hid o7; have HS2 := Lib.hid hS
            clear hS hP o3 o7 l3 l7
            go_wp2_with fail
            have hbw : Below W.heap.size W W2 := HBC.out.trans (HS2.out.1.below hXB (fun j hj => hj.elim (fun e => (HOA.out.lt j e).1) (fun e => (HOB.out.lt j e).1)))
            have HBW := Lib.hid hbw
            clear hbw
            go_roundw
            case rel => exact ⟨k + 1, l ++ [⟨tk, tn, ts⟩], a3, c3, a7, c7, rfl, rfl, by go_num, by omega, by omega, Lib.hid ⟨by rw [List.length_append, HL.out.1]; rfl, fun y hy => (List.mem_append.1 hy).elim (HL.out.2 y) (fun h => by rw [List.mem_singleton.1 h]; exact HGD.out)⟩, Lib.hid (by rw [vCells_snoc]; exact HO3.out), Lib.hid (by rw [vCells_snoc]; exact HO7.out), HBW⟩
            case measure => simp [intOf]; omega
      · have d2 : ¬ (k : Int) < 4 := by omega
        go_wp2_with fail
        go_ret2
        obtain ⟨hlk, hgd⟩ := HL.out
        have hA := HOA.out
        have hB := HOB.out
        rw [← hlk] at hA hB
        exact ⟨_, _, l, by rw [hlk]; rfl, by omega, hgd, hA, hB, HB.out⟩
    · have d1 : ¬ (k : Int) < (xs.length : Int) := by omega
      go_wp2_with fail
      go_ret2
      obtain ⟨hlk, hgd⟩ := HL.out
      have hA := HOA.out
      have hB := HOB.out
      rw [← hlk] at hA hB
      exact ⟨_, _, l, by rw [hlk]; rfl, by omega, hgd, hA, hB, HB.out⟩
end Go.Proofs.Ytpkkhbmlclicfaa.val
