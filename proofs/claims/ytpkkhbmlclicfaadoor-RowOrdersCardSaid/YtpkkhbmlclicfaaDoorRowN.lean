/- The law RowOrders, walked. -/
import Derived.Test.YtpkkhbmlclicfaaDoorRowW
import Derived.Test.YtpkkhbmlclicfaaDoorRowYS
namespace Go.Proofs.YtpkkhbmlclicfaaDoor.val
set_option linter.unusedVariables false
open Go.RowKit
attribute [local go_sem] ag.upon_value ag.upon_skip ag.upon_enter
attribute [local go_sem] Oper.semAt_some

/-- lists of plain values that came in -/
def Ins (W : World) (vs : List Value) (xss : List (List Pl)) : Prop := vs.length = xss.length ∧ ∀ (j : Nat) u x, vs[j]? = some u → xss[j]? = some x → Row W u 3 x.length (pCells x) ∧ (∀ y ∈ x, PB y) ∧ x.length ≤ 9223372036854775807
theorem owns_nilcap {T : TypeId} {B n : Nat} {W : World} {u : Value} {xs : List Value} (h : W.ownsRow B T 3 u n xs) : ∀ m c, u = .slice none m c → c = 0 := by
  intro m c e
  subst e
  rcases h.2 with ⟨e, -⟩ | ⟨g, cap, cur, e, _⟩
  · simp only [Value.slice.injEq] at e; exact e.2.2
  · simp only [Value.slice.injEq] at e; cases e.1
theorem RwT.one {T : TypeId} {B : Nat} {W : World} {vs : List Value} {ls : List (List V)} (h : RwT T B W vs ls) (k : Nat) (hk : k < vs.length) (hl : k < ls.length) : W.ownsRow B T 3 vs[k] ls[k].length (vCells ls[k]) := h.2 k _ _ (List.getElem?_eq_getElem hk) (List.getElem?_eq_getElem hl)

/-- rows, twice: as the program has them and as the document has them -/
def TT (B : Nat) (ka : Nat) (sa : Value) (ra : List Value) (kb : Nat) (sb : Value) (rb : List Value) (la lb : List (List V)) (W : World) : Prop :=
  W.ownsRow B 54 1 sa ka ra ∧ W.ownsRow B 56 1 sb kb rb ∧ RwT TV B W ra la ∧ RwT TR B W rb lb
theorem TT.later {B ka kb : Nat} {sa sb : Value} {ra rb : List Value} {la lb : List (List V)} {W W' : World} (h : TT B ka sa ra kb sb rb la lb W) (hb : Below W.heap.size W W') : TT B ka sa ra kb sb rb la lb W' :=
  ⟨owns_below h.1 hb, owns_below h.2.1 hb, h.2.2.1.later hb, h.2.2.2.later hb⟩
theorem TT.appA {B ka kb : Nat} {sa sb sa' u : Value} {ra rb : List Value} {la lb : List (List V)} {l : List V} {W W' : World} (h : TT B ka sa ra kb sb rb la lb W) (hu : W.ownsRow B TV 3 u l.length (vCells l)) (hg : W.grownBy W' sa.ownBlock) (ho : W'.ownsRow B 54 1 sa' (ka + 1) (ra ++ [u])) : TT B (ka + 1) sa' (ra ++ [u]) kb sb rb (la ++ [l]) lb W' :=
  ⟨ho, h.2.1.kept hg (owns_ne_owns h.2.1 h.1 (by decide)), (h.2.2.1.grown hg (h.2.2.1.apart h.1 (by decide))).snoc (hu.kept hg (owns_ne_owns hu h.1 (by decide))), h.2.2.2.grown hg (h.2.2.2.apart h.1 (by decide))⟩
theorem TT.appB {B ka kb : Nat} {sa sb sb' u : Value} {ra rb : List Value} {la lb : List (List V)} {l : List V} {W W' : World} (h : TT B ka sa ra kb sb rb la lb W) (hu : W.ownsRow B TR 3 u l.length (vCells l)) (hg : W.grownBy W' sb.ownBlock) (ho : W'.ownsRow B 56 1 sb' (kb + 1) (rb ++ [u])) : TT B ka sa ra (kb + 1) sb' (rb ++ [u]) la (lb ++ [l]) W' :=
  ⟨h.1.kept hg (owns_ne_owns h.1 h.2.1 (by decide)), ho, h.2.2.1.grown hg (h.2.2.1.apart h.2.1 (by decide)), (h.2.2.2.grown hg (h.2.2.2.apart h.2.1 (by decide))).snoc (hu.kept hg (owns_ne_owns hu h.2.1 (by decide)))⟩
/-- what has been told: so many rows, twice -/
def Told (B : Nat) (k : Nat) (sa sb : Value) (ra rb : List Value) (ls : List (List V)) (W : World) : Prop :=
  ls.length = k ∧ (∀ l ∈ ls, Goods l ∧ l.length ≤ 9) ∧ ra.length = k ∧ rb.length = k ∧ TT B k sa ra k sb rb ls ls W
theorem Told.later {B k : Nat} {sa sb : Value} {ra rb : List Value} {ls : List (List V)} {W W' : World} (h : Told B k sa sb ra rb ls W) (hb : Below W.heap.size W W') : Told B k sa sb ra rb ls W' :=
  ⟨h.1, h.2.1, h.2.2.1, h.2.2.2.1, h.2.2.2.2.later hb⟩

set_option maxRecDepth 100000 in
set_option maxHeartbeats 4000000 in
theorem orders7_walk (v : Value) (vs : List Value) (xss : List (List Pl)) (hn : vs.length ≤ 9223372036854775807) (m : Int) (W : World) (hm : W.cell? ⟨gMax, 0, none⟩ = some (.int .i64 m)) (hp : Pow10 W) (hv : Row W v 1 vs.length vs) (hi : Ins W vs xss) :
    Calls Tryd.prog 7 #[v] W fun e w' => e = .returned (.bool true) ∧ Below W.heap.size W w' := by
  obtain ⟨i0, hi0, hz0, hz1, hz2⟩ := info_parts infoRow
  obtain ⟨j0, hj, hy0, hy1, hy2⟩ := info_parts infoRow7
  have HM := Lib.hid hm
  have HP := Lib.hid hp
  have HV := Lib.hid hv
  have HI := Lib.hid hi
  obtain ⟨a, cap, rfl, -⟩ := hv
  have hn0 : (0 : Int) ≤ (vs.length : Int) := by omega
  have hn1 : (vs.length : Int) ≤ 9223372036854775807 := by omega
  clear hm hp hi
  go_enter Tryd.func7, Tryd.ntmps7
  go_wp2_with fail
  (with_reducible refine (speaks7 m _ HM.out HP.out).mono ?_); rintro e w1 ⟨rfl, hb1⟩
  have HB1 := Lib.hid hb1
  clear hb1
  go_upto_block 0 with fail
  go_cut [3, 4] from 5 to 93 (fun sa sb wx => ∃ (k : Nat) (aA aB : Option Addr) (cA cB : Nat) (ra rb : List Value) (ls : List (List V)), sa = .slice aA k cA ∧ sb = .slice aB k cB ∧ k ≤ 8 ∧ Hid (Told W.heap.size k sa sb ra rb ls wx) ∧ Hid (Below W.heap.size W wx))
  case rest =>
    obtain ⟨k, aA, aB, cA, cB, ra, rb, ls, rfl, rfl, hk8, HT, HB⟩ := hcut
    have hk0 : (0 : Int) ≤ (k : Int) := by omega
    have hk9 : (k : Int) ≤ 8 := by omega
    obtain ⟨e0, e1, e2, e3, e4⟩ := HT.out
    have hg1 : ∀ l ∈ ls, Goods l := fun l hl => (e1 l hl).1
    have hg2 : ∀ l ∈ ls, l.length ≤ 1000000 := fun l hl => by have := (e1 l hl).2; omega
    have HS1 := Lib.hid (by
      have h := sort_any (.slice aA k cA) ra ls (by omega) hg1 hg2 wc (by rw [e2]; exact Row.of_owns e4.1) e4.2.2.1.rws (fun u hu n c he => by
        obtain ⟨j, hj, rfl⟩ := List.getElem_of_mem hu
        exact owns_nilcap (e4.2.2.1.one j hj (by rw [← e4.2.2.1.1]; exact hj)) n c he)
      rwa [e2] at h)
    have HS2 := Lib.hid (fun W1 (hb : Below wc.heap.size wc W1) => by
      have h := refsort_any (.slice aB k cB) rb ls (by omega) hg1 hg2 W1 (by rw [e3]; exact (Row.of_owns e4.2.1).later hb) (e4.2.2.2.rws.later hb)
      rwa [e3] at h)
    have HG1 := Lib.hid hg1
    have HG2 := Lib.hid hg2
    have HL0 := Lib.hid e0
    clear e0 e1 e2 e3 e4 hg1 hg2
    go_upto_region 23 with (first | (go_at_call 32; (with_reducible refine (HS1.out).mono ?_); rintro e w2 ⟨a2, c2, us, ms, rfl, hul, hrow, hrws, hperm, hsrt, hb2⟩; have HU := Lib.hid hrow; have HUR := Lib.hid hrws; have HP1 := Lib.hid hperm; have HQ1 := Lib.hid hsrt; have HUL := Lib.hid hul; have HB2 := Lib.hid hb2; clear hul hrow hrws hperm hsrt hb2) | (go_at_call 33; (with_reducible refine (HS2.out _ HB2.out).mono ?_); rintro e w3 ⟨a3, c3, us3, ms3, rfl, hul, hrow, hrws, hperm, hsrt, hb3⟩; have HU3 := Lib.hid hrow; have HUR3 := Lib.hid hrws; have HP3 := Lib.hid hperm; have HQ3 := Lib.hid hsrt; have HUL3 := Lib.hid hul; have HB3 := Lib.hid hb3; clear hul hrow hrws hperm hsrt hb3))
    obtain rfl : ms = ms3 := sorted_unique ms ms3 (fun l hl => HG1.out l (HP1.out.mem_iff.1 hl)) (HP1.out.trans HP3.out.symm) HQ1.out HQ3.out
    have HML : Hid (ms.length = k) := Lib.hid (HP1.out.length_eq.trans HL0.out)
    have HMG : Hid (∀ l ∈ ms, Goods l ∧ l.length ≤ 1000000) := Lib.hid (fun l hl => ⟨HG1.out l (HP1.out.mem_iff.1 hl), HG2.out l (HP1.out.mem_iff.1 hl)⟩)
    have HU2 := Lib.hid (HU.out.later HB3.out)
    have HUR2 := Lib.hid (HUR.out.later HB3.out)
    have HWW := Lib.hid (HB.out.trans ((HB2.out.trans (HB3.out.mono HB2.out.size)).mono HB.out.size))
    clear HS1 HS2 HP1 HP3 HQ1 HQ3 HU HUR HT HG1 HG2
    go_wp2_with fail
    go_loopw [12] (fun s wr => ∃ q : Nat, s = .int .i64 (q : Int) ∧ q ≤ k ∧ Hid (Below w3.heap.size w3 wr)) (fun s _ => k - (intOf s).toNat)
    case atStart => exact ⟨0, rfl, Nat.zero_le _, Lib.hid (Below.refl _ _)⟩
    case round =>
      obtain ⟨q, rfl, hq, HX0⟩ := hrel
      have hq0 : (0 : Int) ≤ (q : Int) := by omega
      by_cases h3 : q < k
      · have d3 : (q : Int) < (k : Int) := by omega
        have hr1 : Row w3 (.slice a2 k c2) 1 us.length us := by rw [HUL.out]; exact HU2.out
        have hr3 : Row w3 (.slice a3 k c3) 1 us3.length us3 := by rw [HUL3.out]; exact HU3.out
        have hq1 : q < us.length := by rw [HUL.out]; exact h3
        have hq3 : q < us3.length := by rw [HUL3.out]; exact h3
        have hqm : q < ms.length := by rw [HML.out]; exact h3
        obtain ⟨g2, o2, cc2, ea2, g0⟩ := row_at hr1 q hq1
        obtain ⟨g3, o3, cc3, ea3, g1⟩ := row_at hr3 q hq3
        simp only [Value.slice.injEq] at ea2 ea3
        obtain ⟨rfl, -, -⟩ := ea2
        obtain ⟨rfl, -, -⟩ := ea3
        have HK1 := Lib.hid (fun W1 (hb : Below w3.heap.size w3 W1) => key_any us[q] ms[q] (HMG.out _ (List.getElem_mem hqm)).1 (HMG.out _ (List.getElem_mem hqm)).2 W1 ((HUR2.out.2 q _ _ (List.getElem?_eq_getElem hq1) (List.getElem?_eq_getElem hqm)).later hb))
        have HK3 := Lib.hid (fun W1 (hb : Below w3.heap.size w3 W1) => refkey_any us3[q] ms[q] (HMG.out _ (List.getElem_mem hqm)).1 (HMG.out _ (List.getElem_mem hqm)).2 W1 ((HUR3.out.2 q _ _ (List.getElem?_eq_getElem hq3) (List.getElem?_eq_getElem hqm)).later hb))
        have HKC := Lib.hid (fun W1 (hb : Below w3.heap.size w3 W1) => (⟨cell_later hb g0, cell_later hb g1⟩ : W1.cell? ⟨g2, o2 + q, none⟩ = some us[q] ∧ W1.cell? ⟨g3, o3 + q, none⟩ = some us3[q]))
        generalize us[q] = X1 at *
        generalize us3[q] = X3 at *
        generalize (⟨(keyB ms[q]).toArray⟩ : ByteArray) = SS at *
        clear hr1 hr3 g0 g1 hq1 hq3 hqm
        have hne : (SS.toList != SS.toList) = false := by simp
        go_wp2_with fail
        refine ag.region_ag (fun W1 => Below wr.heap.size wr W1) (fun _ _ _ _ => True)
          [.val (.slice (some ⟨g2, o2, none⟩) k c2), .val (.int .i64 (q : Int)), .val (.pointer (some ⟨g2, o2 + q, none⟩)), .val (X1), .sat (fun v _ => v = .string SS) (fun _ w w' => Below w.heap.size w w'), .val (.slice (some ⟨g3, o3, none⟩) k c3), .val (.int .i64 (q : Int)), .val (.pointer (some ⟨g3, o3 + q, none⟩)), .val (X3), .sat (fun v _ => v = .string SS) (fun _ w w' => Below w.heap.size w w'), .val (.bool false)]
          (by kernel_rfl) (by kernel_rfl) rfl (⟨rfl, rfl, rfl, Nat.le_refl _, fun _ _ => rfl⟩) ?hstz ?hkz ?hwalkz
        case hstz =>
          simp only [ag.Stab, ag.Row2, ag.Ok2, and_true]
          repeat' apply And.intro
          all_goals first
            | exact fun h => absurd rfl h
            | exact fun _ _ f v W W' hS hv _ ht => hv
            | trivial
        case hkz =>
          simp only [ag.Keeps, and_true]
          exact ⟨fun f W1 W2 hS _ ht => hS.trans (ht.mono hS.size), fun f W1 W2 hS _ ht => hS.trans (ht.mono hS.size)⟩
        case hwalkz =>
          refine ag.walk_val (by rfl) (fun W1 hS hE => ?_) ?_
          rotate_left; simp only [Act.put, List.setIfInBounds_toArray, List.set_cons_zero, List.set_cons_succ]; rotate_left
          · clear hS hE
            unfold ag.does
            go_simp
            try exact ⟨rfl, rfl⟩
          refine ag.walk_val (by rfl) (fun W1 hS hE => ?_) ?_
          rotate_left; simp only [Act.put, List.setIfInBounds_toArray, List.set_cons_zero, List.set_cons_succ]; rotate_left
          · clear hS hE
            unfold ag.does
            go_simp
            try exact ⟨rfl, rfl⟩
          refine ag.walk_val (by rfl) (fun W1 hS hE => ?_) ?_
          rotate_left; simp only [Act.put, List.setIfInBounds_toArray, List.set_cons_zero, List.set_cons_succ]; rotate_left
          · clear hS hE
            unfold ag.does
            go_simp
            try exact ⟨rfl, rfl⟩
          refine ag.walk_val (by rfl) (fun W1 hS hE => ?_) ?_
          rotate_left; simp only [Act.put, List.setIfInBounds_toArray, List.set_cons_zero, List.set_cons_succ]; rotate_left
          · obtain ⟨k0, k1⟩ := HKC.out W1 (HX0.out.trans (hS.mono HX0.out.size))
            clear hS hE
            unfold ag.does
            go_simp
            try exact ⟨rfl, rfl⟩
          refine ag.walk_sat (by rfl) (fun W1 hS hE => ?_) (fun y1 => ?_)
          rotate_left; simp only [Act.put, List.setIfInBounds_toArray, List.set_cons_zero, List.set_cons_succ]; rotate_left
          · have hc := HK1.out W1 (HX0.out.trans (hS.mono HX0.out.size))
            clear hS hE
            unfold ag.does
            go_simp
            refine (hc).mono ?_
            rintro e W2 ⟨rfl, hb⟩
            exact ⟨_, rfl, rfl, hb, ag.News.none (fun _ _ => trivial) _ _⟩
          refine ag.walk_val (by rfl) (fun W1 hS hE => ?_) ?_
          rotate_left; simp only [Act.put, List.setIfInBounds_toArray, List.set_cons_zero, List.set_cons_succ]; rotate_left
          · clear hS hE
            unfold ag.does
            go_simp
            try exact ⟨rfl, rfl⟩
          refine ag.walk_val (by rfl) (fun W1 hS hE => ?_) ?_
          rotate_left; simp only [Act.put, List.setIfInBounds_toArray, List.set_cons_zero, List.set_cons_succ]; rotate_left
          · clear hS hE
            unfold ag.does
            go_simp
            try exact ⟨rfl, rfl⟩
          refine ag.walk_val (by rfl) (fun W1 hS hE => ?_) ?_
          rotate_left; simp only [Act.put, List.setIfInBounds_toArray, List.set_cons_zero, List.set_cons_succ]; rotate_left
          · clear hS hE
            unfold ag.does
            go_simp
            try exact ⟨rfl, rfl⟩
          refine ag.walk_val (by rfl) (fun W1 hS hE => ?_) ?_
          rotate_left; simp only [Act.put, List.setIfInBounds_toArray, List.set_cons_zero, List.set_cons_succ]; rotate_left
          · obtain ⟨k0, k1⟩ := HKC.out W1 (HX0.out.trans (hS.mono HX0.out.size))
            clear hS hE
            unfold ag.does
            go_simp
            try exact ⟨rfl, rfl⟩
          refine ag.walk_sat (by rfl) (fun W1 hS hE => ?_) (fun y2 => ?_)
          rotate_left; simp only [Act.put, List.setIfInBounds_toArray, List.set_cons_zero, List.set_cons_succ]; rotate_left
          · have hc := HK3.out W1 (HX0.out.trans (hS.mono HX0.out.size))
            clear hS hE
            unfold ag.does
            go_simp
            refine (hc).mono ?_
            rintro e W2 ⟨rfl, hb⟩
            exact ⟨_, rfl, rfl, hb, ag.News.none (fun _ _ => trivial) _ _⟩
          refine ag.walk_val (by rfl) (fun W1 hS hE => ?_) ?_
          rotate_left; simp only [Act.put, List.setIfInBounds_toArray, List.set_cons_zero, List.set_cons_succ]; rotate_left
          · have h3 : y2 = .string SS := hE.get (by kernel_rfl)
            have h4 : y1 = .string SS := hE.tail.get (by kernel_rfl)
            subst h3 h4
            clear hS hE
            unfold ag.does
            go_simp
            all_goals (first | exact ⟨rfl, rfl⟩ | simp)
          refine ag.walk_nil (fun wC hS hF' hP => ?_)
          clear hF' hP
          have HS := Lib.hid hS
          clear hS
          have HX3 := Lib.hid (HX0.out.trans (HS.out.mono HX0.out.size))
          clear HS
          go_wp2_with fail
          go_roundw
          case rel => exact ⟨q + 1, by go_num, by omega, HX3⟩
          case measure => simp [intOf]; omega
      · have d3 : ¬ (q : Int) < (k : Int) := by omega
        have HWE := Lib.hid (HWW.out.trans (HX0.out.mono HWW.out.size))
        go_wp2_with fail
        go_ret
        exact ⟨rfl, HWE.out⟩
  case first =>
    go_wp2_with fail
    go_loopw [3, 4, 5] (fun sa sb i wr => ∃ (k : Nat) (aA aB : Option Addr) (cA cB : Nat) (ra rb : List Value) (ls : List (List V)), sa = .slice aA k cA ∧ sb = .slice aB k cB ∧ i = .int .i64 (k : Int) ∧ k ≤ vs.length ∧ k ≤ 8 ∧ Hid (Told W.heap.size k sa sb ra rb ls wr) ∧ Hid (Below W.heap.size W wr)) (fun _ _ i _ => 8 - (intOf i).toNat)
    case atStart => exact ⟨0, none, none, 0, 0, [], [], [], rfl, rfl, rfl, by omega, by omega, Lib.hid ⟨rfl, by simp, rfl, rfl, ⟨World.ownsRow_nil _ _ _ _, World.ownsRow_nil _ _ _ _, RwT.nil _ _ _, RwT.nil _ _ _⟩⟩, HB1⟩
    case round =>
      obtain ⟨wo, rfl⟩ : ∃ wo : World, wo = wr := ⟨_, rfl⟩
      obtain ⟨k, aA, aB, cA, cB, ra, rb, ls, rfl, rfl, rfl, hk, hk8, HT, HB⟩ := hrel
      have hd0 : (0 : Int) ≤ (k : Int) := by omega
      by_cases h1 : k < vs.length
      · have d1 : (k : Int) < (vs.length : Int) := by omega
        by_cases h2 : k < 8
        · have d2 : (k : Int) < 8 := by omega
          obtain ⟨b, off, cap', ea, g0⟩ := row_at (HV.out.later HB.out) k h1
          simp only [Value.slice.injEq] at ea
          obtain ⟨rfl, -, rfl⟩ := ea
          have hkx : k < xss.length := by rw [← HI.out.1]; exact h1
          obtain ⟨ho1, ho2, ho3⟩ := HI.out.2 k _ _ (List.getElem?_eq_getElem h1) (List.getElem?_eq_getElem hkx)
          have HTD := Lib.hid (told7_any vs[k] xss[k] ho3 ho2 wo (ho1.later HB.out))
          generalize vs[k] = U at *
          clear ho1 ho2 ho3 hkx
          have hb0 := HB.out.size
          go_upto_region 9 with (go_at_call 27; (with_reducible refine (HTD.out).mono ?_); rintro e w2 ⟨va, vb, l, rfl, hl9, hgl, hoa, hob, hb2⟩; obtain ⟨a6, c6, rfl⟩ := owns_shape hoa; obtain ⟨a7, c7, rfl⟩ := owns_shape hob; have HOA := Lib.hid hoa; have HOB := Lib.hid hob; have HGL := Lib.hid hgl; have HB2 := Lib.hid hb2; clear hoa hob hgl hb2)
          have hb02 : W.heap.size ≤ w2.heap.size := Nat.le_trans hb0 HB2.out.size
          have HBW := Lib.hid (HB.out.trans (HB2.out.mono hb0))
          have HT2 := Lib.hid (HT.out.2.2.2.2.later HB2.out)
          have HUA := Lib.hid (owns_base HOA.out (fun g hg => Nat.le_trans hb0 (HOA.out.lt g hg).1))
          have HUB := Lib.hid (owns_base HOB.out (fun g hg => Nat.le_trans hb0 (HOB.out.lt g hg).1))
          have HRA := Lib.hid (Row.of_owns HOA.out)
          have HRB := Lib.hid (Row.of_owns HOB.out)
          have H63 : Hid (k + 1 ≤ maxLen) := Lib.hid (by unfold maxLen; omega)
          have H64 : Hid ((k + 1) * 24 ≤ 140737488355328) := Lib.hid (by omega)
          clear HOA HOB
          have HN3 := Lib.hid (fun (v3 : Value) (w3 : World) (hown3 : w3.ownsRow W.heap.size 54 1 v3 (k + 1) (ra ++ [.slice a6 l.length c6])) (hgrow3 : (w2.alloc (.cells #[.slice a6 l.length c6] 54)).grownBy w3 (Value.slice aA k cA).ownBlock) => by
            have hb := below_alloc1 w2 (.cells #[.slice a6 l.length c6] 54)
            have hT := HT2.out.later hb
            have hA := owns_below HUA.out hb
            have hB := owns_below HUB.out hb
            have hBW := HBW.out.alloc hb02 (.cells #[.slice a6 l.length c6] 54)
            exact (⟨hT.appA hA hgrow3 hown3, hB.kept hgrow3 (owns_ne_owns hB hT.1 (by decide)), hBW.grown hgrow3 hBW.size (fun j hj => (hT.1.lt j hj).1)⟩ : TT W.heap.size (k + 1) v3 (ra ++ [.slice a6 l.length c6]) k (.slice aB k cB) rb (ls ++ [l]) ls w3 ∧ w3.ownsRow W.heap.size TR 3 (.slice a7 l.length c7) l.length (vCells l) ∧ Below W.heap.size W w3))
          have HN4 := Lib.hid (fun (v3 : Value) (w3 : World) (h3 : TT W.heap.size (k + 1) v3 (ra ++ [.slice a6 l.length c6]) k (.slice aB k cB) rb (ls ++ [l]) ls w3 ∧ w3.ownsRow W.heap.size TR 3 (.slice a7 l.length c7) l.length (vCells l) ∧ Below W.heap.size W w3) (v4 : Value) (w4 : World) (hown4 : w4.ownsRow W.heap.size 56 1 v4 (k + 1) (rb ++ [.slice a7 l.length c7])) (hgrow4 : (w3.alloc (.cells #[.slice a7 l.length c7] 56)).grownBy w4 (Value.slice aB k cB).ownBlock) => by
            have hb := below_alloc1 w3 (.cells #[.slice a7 l.length c7] 56)
            have hT := h3.1.later hb
            have hB := owns_below h3.2.1 hb
            have hBW := h3.2.2.alloc h3.2.2.size (.cells #[.slice a7 l.length c7] 56)
            exact (⟨hT.appB hB hgrow4 hown4, hBW.grown hgrow4 hBW.size (fun j hj => (hT.2.1.lt j hj).1)⟩ : TT W.heap.size (k + 1) v3 (ra ++ [.slice a6 l.length c6]) (k + 1) v4 (rb ++ [.slice a7 l.length c7]) (ls ++ [l]) (ls ++ [l]) w4 ∧ Below W.heap.size W w4))
          have hb03 : W.heap.size ≤ (w2.alloc (.cells #[.slice a6 l.length c6] 54)).heap.size := by simp only [World.size_alloc]; omega
          have HOA2 := Lib.hid (HT2.out.1.alloc (.cells #[.slice a6 l.length c6] 54))
          have HONE : Hid (∀ (a : Option Addr) (n c : Nat), ∀ u ∈ [Value.slice a n c], u.oneCell' = true) := Lib.hid (fun a n c u hu => by rw [List.mem_singleton.1 hu]; rfl)
          clear HTD
          go_upto_region 10 with (first | (at_builtin; refine wpList_append_own _ rfl (.tmp 33) (.tmp 35) 51 rfl W.heap.size 54 i0 (.slice none 0 0) 1 24 Tryd.underlying51 hi0 hz0 hz1 hz2 rfl (by decide) _ _ _ rfl HOA2.out ⟨w2.heap.size, 0, none⟩ 1 1 [.slice a6 l.length c6] rfl rfl (cell_one_new _ _ _) (HONE.out _ _ _) H63.out H64.out hb03 ?_; intro v3 w3 hown3 hgrow3 _; have H3 := Lib.hid (HN3.out _ _ hown3 hgrow3); obtain ⟨a3, c3, rfl⟩ := owns_shape hown3; clear hown3 hgrow3; have hb04 : W.heap.size ≤ (w3.alloc (.cells #[.slice a7 l.length c7] 56)).heap.size := (H3.out.2.2.alloc H3.out.2.2.size (.cells #[.slice a7 l.length c7] 56)).size; have HOB3 := Lib.hid (H3.out.1.2.1.alloc (.cells #[.slice a7 l.length c7] 56))) | (at_builtin; refine wpList_append_own _ rfl (.tmp 37) (.tmp 39) 52 rfl W.heap.size 56 j0 (.slice none 0 0) 1 24 Tryd.underlying52 hj hy0 hy1 hy2 rfl (by decide) _ _ _ rfl HOB3.out ⟨w3.heap.size, 0, none⟩ 1 1 [.slice a7 l.length c7] rfl rfl (cell_one_new _ _ _) (HONE.out _ _ _) H63.out H64.out hb04 ?_; intro v4 w4 hown4 hgrow4 _; have H4 := Lib.hid (HN4.out _ _ H3.out _ _ hown4 hgrow4); obtain ⟨a4, c4, rfl⟩ := owns_shape hown4; clear hown4 hgrow4))
          have hTT := H4.out.1
          have HB4 := Lib.hid H4.out.2
          have hra := HT.out.2.2.1
          have hrb := HT.out.2.2.2.1
          have hls := HT.out.1
          have HGD := Lib.hid HT.out.2.1
          obtain ⟨ra', hra'⟩ : ∃ ra', ra ++ [Value.slice a6 l.length c6] = ra' := ⟨_, rfl⟩
          obtain ⟨rb', hrb'⟩ : ∃ rb', rb ++ [Value.slice a7 l.length c7] = rb' := ⟨_, rfl⟩
          obtain ⟨ls', hls'⟩ : ∃ ls', ls ++ [l] = ls' := ⟨_, rfl⟩
          rw [hra', hrb', hls'] at hTT
          have hT1 : Told W.heap.size (k + 1) (.slice a3 (k + 1) c3) (.slice a4 (k + 1) c4) ra' rb' ls' w4 := ⟨by rw [← hls', List.length_append, hls]; rfl, fun x hx => by
            rw [← hls'] at hx
            rcases List.mem_append.1 hx with hx | hx
            · exact HGD.out x hx
            · rw [List.mem_singleton.1 hx]; exact ⟨HGL.out, hl9⟩, by rw [← hra', List.length_append, hra]; rfl, by rw [← hrb', List.length_append, hrb]; rfl, hTT⟩
          have eA : ra'[k]? = some (Value.slice a6 l.length c6) := by rw [← hra', ← hra]; exact List.getElem?_concat_length
          have eB : rb'[k]? = some (Value.slice a7 l.length c7) := by rw [← hrb', ← hrb]; exact List.getElem?_concat_length
          have eL : ls'[k]? = some l := by rw [← hls', ← hls]; exact List.getElem?_concat_length
          have HSA := Lib.hid (Row.of_owns (hTT.2.2.1.2 k _ _ eA eL))
          have HSB := Lib.hid (Row.of_owns (hTT.2.2.2.2 k _ _ eB eL))
          have HT1 := Lib.hid hT1
          have HEL := Lib.hid eL
          have EAk := Lib.hid eA
          have EBk := Lib.hid eB
          have HSH := Lib.hid (rwshow_any _ l HGL.out (fun x hx => by have h := HGL.out x hx; unfold Good at h; omega) (by omega) m w4 (cell_later HB4.out HM.out) (pow10_later HP.out HB4.out) HSA.out)
          have HRS := Lib.hid (fun W1 (hb : Below w4.heap.size w4 W1) => refshow_any _ l HGL.out (fun x hx => by have h := HGL.out x hx; unfold Good at h; omega) (by omega) W1 (HSB.out.later hb))
          generalize showR l = SS at *
          have hne : (SS.toList != SS.toList) = false := by simp
          clear hTT hra hrb hls hra' hrb' hls' hT1 eA eB eL HN3 HN4 H3 H4 HT HT2 HUA HUB HRA HRB H63 H64 HOA2 HONE hb03
          go_upto_block 2 with (first | (go_at_call 28; (with_reducible refine (HSH.out).mono ?_); rintro e w5 ⟨rfl, hb5⟩; have HB5 := Lib.hid hb5; clear hb5) | (go_at_call 29; (with_reducible refine (HRS.out _ HB5.out).mono ?_); rintro e w6 ⟨rfl, hb6⟩; have HB6 := Lib.hid (HB5.out.trans (hb6.mono HB5.out.size)); clear hb6))
          obtain ⟨e0, e1, e2, e3, e4⟩ := HT1.out
          have hk1 : 0 < k + 1 := by omega
          obtain ⟨gA, rfl, -, -, hcA, -⟩ := owns_cellAt e4.1 hk1
          obtain ⟨gB, rfl, -, -, hcB, -⟩ := owns_cellAt e4.2.1 hk1
          have HCA := Lib.hid hcA
          have HCB := Lib.hid hcB
          have HE1 := Lib.hid e1
          have HE4 := Lib.hid e4
          have hl0 := e0
          have hl2 := e2
          have hl3 := e3
          have HL0 := Lib.hid hl0; have HL2 := Lib.hid hl2; have HL3 := Lib.hid hl3
          clear hcA hcB e0 e1 e2 e3 e4 hl0 hl2 hl3 hne
          go_wp2_with fail
          go_loopw [8] (fun s8 wr => ∃ q : Nat, s8 = .int .i64 (q : Int) ∧ q ≤ k ∧ Hid (Below w4.heap.size w4 wr)) (fun s8 _ => k - (intOf s8).toNat)
          case atStart => exact ⟨0, rfl, Nat.zero_le _, HB6⟩
          case round =>
            obtain ⟨q, rfl, hq, HX0⟩ := hrel
            have hq0 : (0 : Int) ≤ (q : Int) := by omega
            by_cases h3 : q < k
            · have d3 : (q : Int) < (k : Int) := by omega
              have hqa : q < ra'.length := by rw [HL2.out]; omega
              have hqb : q < rb'.length := by rw [HL3.out]; omega
              have hql : q < ls'.length := by rw [HL0.out]; omega
              have hka : k < ra'.length := by rw [HL2.out]; omega
              have hkb : k < rb'.length := by rw [HL3.out]; omega
              have hkl : k < ls'.length := by rw [HL0.out]; omega
              obtain ⟨Lq, hLq⟩ : ∃ Lq, ls'[q] = Lq := ⟨_, rfl⟩
              have hoA := HE4.out.2.2.1.one q hqa hql
              have hoB := HE4.out.2.2.2.one q hqb hql
              rw [hLq] at hoA hoB
              obtain ⟨a9, c9, e9⟩ := owns_shape hoA
              obtain ⟨a8, c8, e8⟩ := owns_shape hoB
              have HRA := Lib.hid (Row.of_owns hoA)
              have HRB := Lib.hid (Row.of_owns hoB)
              rw [e9] at HRA
              rw [e8] at HRB
              have hLg := HE1.out Lq (by rw [← hLq]; exact List.getElem_mem _)
              have HLG := Lib.hid hLg
              have HKC := Lib.hid (fun W1 (hb : Below w4.heap.size w4 W1) => (⟨cell_later hb ((HCB.out k (by omega)).trans EBk.out), cell_later hb ((HCB.out q (by omega)).trans ((List.getElem?_eq_getElem hqb).trans (by rw [e8]))), cell_later hb ((HCA.out k (by omega)).trans EAk.out), cell_later hb ((HCA.out q (by omega)).trans ((List.getElem?_eq_getElem hqa).trans (by rw [e9])))⟩ : W1.cell? ⟨gB, k, none⟩ = some (.slice a7 l.length c7) ∧ W1.cell? ⟨gB, q, none⟩ = some (.slice a8 Lq.length c8) ∧ W1.cell? ⟨gA, k, none⟩ = some (.slice a6 l.length c6) ∧ W1.cell? ⟨gA, q, none⟩ = some (.slice a9 Lq.length c9)))
              obtain ⟨p, hp⟩ : ∃ p, beforeL l Lq = p := ⟨_, rfl⟩
              obtain ⟨p2, hp2⟩ : ∃ p2, beforeL Lq l = p2 := ⟨_, rfl⟩
              have HF1 := Lib.hid (fun W1 (hb : Below w4.heap.size w4 W1) => by have h := refbefore_any _ _ l Lq HGL.out HLG.out.1 (by omega) (by have := HLG.out.2; omega) W1 (HSB.out.later hb) (HRB.out.later hb); rwa [hp] at h)
              have HF2 := Lib.hid (fun W1 (hb : Below w4.heap.size w4 W1) => by have h := refbefore_any _ _ Lq l HLG.out.1 HGL.out (by have := HLG.out.2; omega) (by omega) W1 (HRB.out.later hb) (HSB.out.later hb); rwa [hp2] at h)
              obtain ⟨C, hC⟩ : ∃ C : Int, cmpL l Lq = C := ⟨_, rfl⟩
              obtain ⟨C2, hC2⟩ : ∃ C2 : Int, cmpL Lq l = C2 := ⟨_, rfl⟩
              have HC1 := Lib.hid (fun W1 (hb : Below w4.heap.size w4 W1) => by have h := rcompare_any _ _ l Lq (by omega) (by have := HLG.out.2; omega) W1 (HSA.out.later hb) (HRA.out.later hb); rwa [hC] at h)
              have HC2 := Lib.hid (fun W1 (hb : Below w4.heap.size w4 W1) => by have h := rcompare_any _ _ Lq l (by have := HLG.out.2; omega) (by omega) W1 (HRA.out.later hb) (HSA.out.later hb); rwa [hC2] at h)
              rw [cmpL_ord l Lq HGL.out HLG.out.1] at hC
              rw [ordL_neg l Lq HGL.out HLG.out.1] at hC2
              unfold ordL at hC hC2
              rw [hp, hp2] at hC hC2
              clear hp hp2 hLg hoA hoB e8 e9 hLq hqa hqb hql hka hkb hkl
              have x1 : (k : Int) < (k : Int) + 1 := by omega
              have x2 : (q : Int) < (k : Int) + 1 := by omega
              cases p <;> cases p2
              · have hC0 : C = 0 := by rw [← hC]; rfl
                have hC1 : C2 = 0 := by rw [← hC2]; rfl
                subst hC0
                subst hC1
                clear hC hC2
                go_wp2_with fail
                refine ag.region_ag (fun W1 => Below wr.heap.size wr W1) (fun _ _ _ _ => True)
                  [.val (.slice (some ⟨gB, 0, none⟩) (k + 1) c4), .val (.int .i64 (k : Int)), .val (.pointer (some ⟨gB, k, none⟩)), .val ((.slice a7 l.length c7)), .val (.slice (some ⟨gB, 0, none⟩) (k + 1) c4), .val (.int .i64 (q : Int)), .val (.pointer (some ⟨gB, q, none⟩)), .val ((.slice a8 Lq.length c8)), .sat (fun v _ => v = .bool false) (fun _ w w' => Below w.heap.size w w')]
                  (by kernel_rfl) (by kernel_rfl) rfl (⟨rfl, rfl, rfl, Nat.le_refl _, fun _ _ => rfl⟩) ?hsta1 ?hka1 ?hwalka1
                case hsta1 =>
                  simp only [ag.Stab, ag.Row2, ag.Ok2, and_true]
                  repeat' apply And.intro
                  all_goals first
                    | exact fun h => absurd rfl h
                    | exact fun _ _ f v W W' hS hv _ ht => hv
                    | trivial
                case hka1 =>
                  simp only [ag.Keeps, and_true]
                  exact fun f W1 W2 hS _ ht => hS.trans (ht.mono hS.size)
                case hwalka1 =>
                  refine ag.walk_val (by rfl) (fun W1 hS hE => ?_) ?_
                  rotate_left; simp only [Act.put, List.setIfInBounds_toArray, List.set_cons_zero, List.set_cons_succ]; rotate_left
                  · clear hS hE
                    unfold ag.does
                    go_simp
                    try exact ⟨rfl, rfl⟩
                  refine ag.walk_val (by rfl) (fun W1 hS hE => ?_) ?_
                  rotate_left; simp only [Act.put, List.setIfInBounds_toArray, List.set_cons_zero, List.set_cons_succ]; rotate_left
                  · clear hS hE
                    unfold ag.does
                    go_simp
                    try exact ⟨rfl, rfl⟩
                  refine ag.walk_val (by rfl) (fun W1 hS hE => ?_) ?_
                  rotate_left; simp only [Act.put, List.setIfInBounds_toArray, List.set_cons_zero, List.set_cons_succ]; rotate_left
                  · clear hS hE
                    unfold ag.does
                    go_simp
                    try exact ⟨rfl, rfl⟩
                  refine ag.walk_val (by rfl) (fun W1 hS hE => ?_) ?_
                  rotate_left; simp only [Act.put, List.setIfInBounds_toArray, List.set_cons_zero, List.set_cons_succ]; rotate_left
                  · obtain ⟨k0, k1, k2, k3⟩ := HKC.out W1 (HX0.out.trans (hS.mono HX0.out.size))
                    clear hS hE
                    unfold ag.does
                    go_simp
                    try exact ⟨rfl, rfl⟩
                  refine ag.walk_val (by rfl) (fun W1 hS hE => ?_) ?_
                  rotate_left; simp only [Act.put, List.setIfInBounds_toArray, List.set_cons_zero, List.set_cons_succ]; rotate_left
                  · clear hS hE
                    unfold ag.does
                    go_simp
                    try exact ⟨rfl, rfl⟩
                  refine ag.walk_val (by rfl) (fun W1 hS hE => ?_) ?_
                  rotate_left; simp only [Act.put, List.setIfInBounds_toArray, List.set_cons_zero, List.set_cons_succ]; rotate_left
                  · clear hS hE
                    unfold ag.does
                    go_simp
                    try exact ⟨rfl, rfl⟩
                  refine ag.walk_val (by rfl) (fun W1 hS hE => ?_) ?_
                  rotate_left; simp only [Act.put, List.setIfInBounds_toArray, List.set_cons_zero, List.set_cons_succ]; rotate_left
                  · clear hS hE
                    unfold ag.does
                    go_simp
                    try exact ⟨rfl, rfl⟩
                  refine ag.walk_val (by rfl) (fun W1 hS hE => ?_) ?_
                  rotate_left; simp only [Act.put, List.setIfInBounds_toArray, List.set_cons_zero, List.set_cons_succ]; rotate_left
                  · obtain ⟨k0, k1, k2, k3⟩ := HKC.out W1 (HX0.out.trans (hS.mono HX0.out.size))
                    clear hS hE
                    unfold ag.does
                    go_simp
                    try exact ⟨rfl, rfl⟩
                  refine ag.walk_sat (by rfl) (fun W1 hS hE => ?_) (fun y1 => ?_)
                  rotate_left; simp only [Act.put, List.setIfInBounds_toArray, List.set_cons_zero, List.set_cons_succ]; rotate_left
                  · have hc := HF1.out W1 (HX0.out.trans (hS.mono HX0.out.size))
                    clear hS hE
                    unfold ag.does
                    go_simp
                    refine (hc).mono ?_
                    rintro e W2 ⟨rfl, hb⟩
                    exact ⟨_, rfl, rfl, hb, ag.News.none (fun _ _ => trivial) _ _⟩
                  refine ag.walk_nil (fun wA hS hF' hP => ?_)
                  have hq1 : y1 = .bool false := hF'.1
                  subst hq1
                  clear hF' hP
                  have HS := Lib.hid hS
                  clear hS
                  have HX1 := Lib.hid (HX0.out.trans (HS.out.mono HX0.out.size))
                  clear HS
                  go_wp2_with fail
                  refine ag.region_ag (fun W1 => Below wA.heap.size wA W1) (fun _ _ _ _ => True)
                    [.val (.slice (some ⟨gB, 0, none⟩) (k + 1) c4), .val (.int .i64 (q : Int)), .val (.pointer (some ⟨gB, q, none⟩)), .val ((.slice a8 Lq.length c8)), .val (.slice (some ⟨gB, 0, none⟩) (k + 1) c4), .val (.int .i64 (k : Int)), .val (.pointer (some ⟨gB, k, none⟩)), .val ((.slice a7 l.length c7)), .sat (fun v _ => v = .bool false) (fun _ w w' => Below w.heap.size w w')]
                    (by kernel_rfl) (by kernel_rfl) rfl (⟨rfl, rfl, rfl, Nat.le_refl _, fun _ _ => rfl⟩) ?hstb1 ?hkb1 ?hwalkb1
                  case hstb1 =>
                    simp only [ag.Stab, ag.Row2, ag.Ok2, and_true]
                    repeat' apply And.intro
                    all_goals first
                      | exact fun h => absurd rfl h
                      | exact fun _ _ f v W W' hS hv _ ht => hv
                      | trivial
                  case hkb1 =>
                    simp only [ag.Keeps, and_true]
                    exact fun f W1 W2 hS _ ht => hS.trans (ht.mono hS.size)
                  case hwalkb1 =>
                    refine ag.walk_val (by rfl) (fun W1 hS hE => ?_) ?_
                    rotate_left; simp only [Act.put, List.setIfInBounds_toArray, List.set_cons_zero, List.set_cons_succ]; rotate_left
                    · clear hS hE
                      unfold ag.does
                      go_simp
                      try exact ⟨rfl, rfl⟩
                    refine ag.walk_val (by rfl) (fun W1 hS hE => ?_) ?_
                    rotate_left; simp only [Act.put, List.setIfInBounds_toArray, List.set_cons_zero, List.set_cons_succ]; rotate_left
                    · clear hS hE
                      unfold ag.does
                      go_simp
                      try exact ⟨rfl, rfl⟩
                    refine ag.walk_val (by rfl) (fun W1 hS hE => ?_) ?_
                    rotate_left; simp only [Act.put, List.setIfInBounds_toArray, List.set_cons_zero, List.set_cons_succ]; rotate_left
                    · clear hS hE
                      unfold ag.does
                      go_simp
                      try exact ⟨rfl, rfl⟩
                    refine ag.walk_val (by rfl) (fun W1 hS hE => ?_) ?_
                    rotate_left; simp only [Act.put, List.setIfInBounds_toArray, List.set_cons_zero, List.set_cons_succ]; rotate_left
                    · obtain ⟨k0, k1, k2, k3⟩ := HKC.out W1 (HX1.out.trans (hS.mono HX1.out.size))
                      clear hS hE
                      unfold ag.does
                      go_simp
                      try exact ⟨rfl, rfl⟩
                    refine ag.walk_val (by rfl) (fun W1 hS hE => ?_) ?_
                    rotate_left; simp only [Act.put, List.setIfInBounds_toArray, List.set_cons_zero, List.set_cons_succ]; rotate_left
                    · clear hS hE
                      unfold ag.does
                      go_simp
                      try exact ⟨rfl, rfl⟩
                    refine ag.walk_val (by rfl) (fun W1 hS hE => ?_) ?_
                    rotate_left; simp only [Act.put, List.setIfInBounds_toArray, List.set_cons_zero, List.set_cons_succ]; rotate_left
                    · clear hS hE
                      unfold ag.does
                      go_simp
                      try exact ⟨rfl, rfl⟩
                    refine ag.walk_val (by rfl) (fun W1 hS hE => ?_) ?_
                    rotate_left; simp only [Act.put, List.setIfInBounds_toArray, List.set_cons_zero, List.set_cons_succ]; rotate_left
                    · clear hS hE
                      unfold ag.does
                      go_simp
                      try exact ⟨rfl, rfl⟩
                    refine ag.walk_val (by rfl) (fun W1 hS hE => ?_) ?_
                    rotate_left; simp only [Act.put, List.setIfInBounds_toArray, List.set_cons_zero, List.set_cons_succ]; rotate_left
                    · obtain ⟨k0, k1, k2, k3⟩ := HKC.out W1 (HX1.out.trans (hS.mono HX1.out.size))
                      clear hS hE
                      unfold ag.does
                      go_simp
                      try exact ⟨rfl, rfl⟩
                    refine ag.walk_sat (by rfl) (fun W1 hS hE => ?_) (fun y1 => ?_)
                    rotate_left; simp only [Act.put, List.setIfInBounds_toArray, List.set_cons_zero, List.set_cons_succ]; rotate_left
                    · have hc := HF2.out W1 (HX1.out.trans (hS.mono HX1.out.size))
                      clear hS hE
                      unfold ag.does
                      go_simp
                      refine (hc).mono ?_
                      rintro e W2 ⟨rfl, hb⟩
                      exact ⟨_, rfl, rfl, hb, ag.News.none (fun _ _ => trivial) _ _⟩
                    refine ag.walk_nil (fun wB hS hF' hP => ?_)
                    have hq1 : y1 = .bool false := hF'.1
                    subst hq1
                    clear hF' hP
                    have HS := Lib.hid hS
                    clear hS
                    have HX2 := Lib.hid (HX1.out.trans (HS.out.mono HX1.out.size))
                    clear HS
                    go_wp2_with fail
                    refine ag.region_ag (fun W1 => Below wB.heap.size wB W1) (fun _ _ _ _ => True)
                      [.val (.slice (some ⟨gA, 0, none⟩) (k + 1) c3), .val (.int .i64 (k : Int)), .val (.pointer (some ⟨gA, k, none⟩)), .val ((.slice a6 l.length c6)), .val (.slice (some ⟨gA, 0, none⟩) (k + 1) c3), .val (.int .i64 (q : Int)), .val (.pointer (some ⟨gA, q, none⟩)), .val ((.slice a9 Lq.length c9)), .sat (fun v _ => v = .int .i64 (0)) (fun _ w w' => Below w.heap.size w w'), .val (.int .i64 (0)), .val (.bool false), .val (.bool false), .val (.slice (some ⟨gA, 0, none⟩) (k + 1) c3), .val (.int .i64 (q : Int)), .val (.pointer (some ⟨gA, q, none⟩)), .val ((.slice a9 Lq.length c9)), .val (.slice (some ⟨gA, 0, none⟩) (k + 1) c3), .val (.int .i64 (k : Int)), .val (.pointer (some ⟨gA, k, none⟩)), .val ((.slice a6 l.length c6)), .sat (fun v _ => v = .int .i64 (0)) (fun _ w w' => Below w.heap.size w w'), .val (.int .i64 (0)), .val (.int .i64 (0)), .val (.bool false), .val (.bool false)]
                      (by kernel_rfl) (by kernel_rfl) rfl (⟨rfl, rfl, rfl, Nat.le_refl _, fun _ _ => rfl⟩) ?hstc1 ?hkc1 ?hwalkc1
                    case hstc1 =>
                      simp only [ag.Stab, ag.Row2, ag.Ok2, and_true]
                      repeat' apply And.intro
                      all_goals first
                        | exact fun h => absurd rfl h
                        | exact fun _ _ f v W W' hS hv _ ht => hv
                        | trivial
                    case hkc1 =>
                      simp only [ag.Keeps, and_true]
                      exact ⟨fun f W1 W2 hS _ ht => hS.trans (ht.mono hS.size), fun f W1 W2 hS _ ht => hS.trans (ht.mono hS.size)⟩
                    case hwalkc1 =>
                      refine ag.walk_val (by rfl) (fun W1 hS hE => ?_) ?_
                      rotate_left; simp only [Act.put, List.setIfInBounds_toArray, List.set_cons_zero, List.set_cons_succ]; rotate_left
                      · clear hS hE
                        unfold ag.does
                        go_simp
                        try exact ⟨rfl, rfl⟩
                      refine ag.walk_val (by rfl) (fun W1 hS hE => ?_) ?_
                      rotate_left; simp only [Act.put, List.setIfInBounds_toArray, List.set_cons_zero, List.set_cons_succ]; rotate_left
                      · clear hS hE
                        unfold ag.does
                        go_simp
                        try exact ⟨rfl, rfl⟩
                      refine ag.walk_val (by rfl) (fun W1 hS hE => ?_) ?_
                      rotate_left; simp only [Act.put, List.setIfInBounds_toArray, List.set_cons_zero, List.set_cons_succ]; rotate_left
                      · clear hS hE
                        unfold ag.does
                        go_simp
                        try exact ⟨rfl, rfl⟩
                      refine ag.walk_val (by rfl) (fun W1 hS hE => ?_) ?_
                      rotate_left; simp only [Act.put, List.setIfInBounds_toArray, List.set_cons_zero, List.set_cons_succ]; rotate_left
                      · obtain ⟨k0, k1, k2, k3⟩ := HKC.out W1 (HX2.out.trans (hS.mono HX2.out.size))
                        clear hS hE
                        unfold ag.does
                        go_simp
                        try exact ⟨rfl, rfl⟩
                      refine ag.walk_val (by rfl) (fun W1 hS hE => ?_) ?_
                      rotate_left; simp only [Act.put, List.setIfInBounds_toArray, List.set_cons_zero, List.set_cons_succ]; rotate_left
                      · clear hS hE
                        unfold ag.does
                        go_simp
                        try exact ⟨rfl, rfl⟩
                      refine ag.walk_val (by rfl) (fun W1 hS hE => ?_) ?_
                      rotate_left; simp only [Act.put, List.setIfInBounds_toArray, List.set_cons_zero, List.set_cons_succ]; rotate_left
                      · clear hS hE
                        unfold ag.does
                        go_simp
                        try exact ⟨rfl, rfl⟩
                      refine ag.walk_val (by rfl) (fun W1 hS hE => ?_) ?_
                      rotate_left; simp only [Act.put, List.setIfInBounds_toArray, List.set_cons_zero, List.set_cons_succ]; rotate_left
                      · clear hS hE
                        unfold ag.does
                        go_simp
                        try exact ⟨rfl, rfl⟩
                      refine ag.walk_val (by rfl) (fun W1 hS hE => ?_) ?_
                      rotate_left; simp only [Act.put, List.setIfInBounds_toArray, List.set_cons_zero, List.set_cons_succ]; rotate_left
                      · obtain ⟨k0, k1, k2, k3⟩ := HKC.out W1 (HX2.out.trans (hS.mono HX2.out.size))
                        clear hS hE
                        unfold ag.does
                        go_simp
                        try exact ⟨rfl, rfl⟩
                      refine ag.walk_sat (by rfl) (fun W1 hS hE => ?_) (fun y1 => ?_)
                      rotate_left; simp only [Act.put, List.setIfInBounds_toArray, List.set_cons_zero, List.set_cons_succ]; rotate_left
                      · have hc := HC1.out W1 (HX2.out.trans (hS.mono HX2.out.size))
                        clear hS hE
                        unfold ag.does
                        go_simp
                        refine (hc).mono ?_
                        rintro e W2 ⟨rfl, hb⟩
                        exact ⟨_, rfl, rfl, hb.1, ag.News.none (fun _ _ => trivial) _ _⟩
                      refine ag.walk_val (by rfl) (fun W1 hS hE => ?_) ?_
                      rotate_left; simp only [Act.put, List.setIfInBounds_toArray, List.set_cons_zero, List.set_cons_succ]; rotate_left
                      · clear hS hE
                        unfold ag.does
                        go_simp
                        try exact ⟨rfl, rfl⟩
                      refine ag.walk_val (by rfl) (fun W1 hS hE => ?_) ?_
                      rotate_left; simp only [Act.put, List.setIfInBounds_toArray, List.set_cons_zero, List.set_cons_succ]; rotate_left
                      · have hy1 : y1 = .int .i64 (0) := hE.get (by kernel_rfl)
                        subst hy1
                        clear hS hE
                        unfold ag.does
                        go_simp
                        try exact ⟨rfl, rfl⟩
                      refine ag.walk_val (by rfl) (fun W1 hS hE => ?_) ?_
                      rotate_left; simp only [Act.put, List.setIfInBounds_toArray, List.set_cons_zero, List.set_cons_succ]; rotate_left
                      · clear hS hE
                        unfold ag.does
                        go_simp
                        try exact ⟨rfl, rfl⟩
                      refine ag.walk_val (by rfl) (fun W1 hS hE => ?_) ?_
                      rotate_left; simp only [Act.put, List.setIfInBounds_toArray, List.set_cons_zero, List.set_cons_succ]; rotate_left
                      · clear hS hE
                        unfold ag.does
                        go_simp
                        try exact ⟨rfl, rfl⟩
                      refine ag.walk_val (by rfl) (fun W1 hS hE => ?_) ?_
                      rotate_left; simp only [Act.put, List.setIfInBounds_toArray, List.set_cons_zero, List.set_cons_succ]; rotate_left
                      · clear hS hE
                        unfold ag.does
                        go_simp
                        try exact ⟨rfl, rfl⟩
                      refine ag.walk_val (by rfl) (fun W1 hS hE => ?_) ?_
                      rotate_left; simp only [Act.put, List.setIfInBounds_toArray, List.set_cons_zero, List.set_cons_succ]; rotate_left
                      · clear hS hE
                        unfold ag.does
                        go_simp
                        try exact ⟨rfl, rfl⟩
                      refine ag.walk_val (by rfl) (fun W1 hS hE => ?_) ?_
                      rotate_left; simp only [Act.put, List.setIfInBounds_toArray, List.set_cons_zero, List.set_cons_succ]; rotate_left
                      · obtain ⟨k0, k1, k2, k3⟩ := HKC.out W1 (HX2.out.trans (hS.mono HX2.out.size))
                        clear hS hE
                        unfold ag.does
                        go_simp
                        try exact ⟨rfl, rfl⟩
                      refine ag.walk_val (by rfl) (fun W1 hS hE => ?_) ?_
                      rotate_left; simp only [Act.put, List.setIfInBounds_toArray, List.set_cons_zero, List.set_cons_succ]; rotate_left
                      · clear hS hE
                        unfold ag.does
                        go_simp
                        try exact ⟨rfl, rfl⟩
                      refine ag.walk_val (by rfl) (fun W1 hS hE => ?_) ?_
                      rotate_left; simp only [Act.put, List.setIfInBounds_toArray, List.set_cons_zero, List.set_cons_succ]; rotate_left
                      · clear hS hE
                        unfold ag.does
                        go_simp
                        try exact ⟨rfl, rfl⟩
                      refine ag.walk_val (by rfl) (fun W1 hS hE => ?_) ?_
                      rotate_left; simp only [Act.put, List.setIfInBounds_toArray, List.set_cons_zero, List.set_cons_succ]; rotate_left
                      · clear hS hE
                        unfold ag.does
                        go_simp
                        try exact ⟨rfl, rfl⟩
                      refine ag.walk_val (by rfl) (fun W1 hS hE => ?_) ?_
                      rotate_left; simp only [Act.put, List.setIfInBounds_toArray, List.set_cons_zero, List.set_cons_succ]; rotate_left
                      · obtain ⟨k0, k1, k2, k3⟩ := HKC.out W1 (HX2.out.trans (hS.mono HX2.out.size))
                        clear hS hE
                        unfold ag.does
                        go_simp
                        try exact ⟨rfl, rfl⟩
                      refine ag.walk_sat (by rfl) (fun W1 hS hE => ?_) (fun y2 => ?_)
                      rotate_left; simp only [Act.put, List.setIfInBounds_toArray, List.set_cons_zero, List.set_cons_succ]; rotate_left
                      · have hc := HC2.out W1 (HX2.out.trans (hS.mono HX2.out.size))
                        clear hS hE
                        unfold ag.does
                        go_simp
                        refine (hc).mono ?_
                        rintro e W2 ⟨rfl, hb⟩
                        exact ⟨_, rfl, rfl, hb.1, ag.News.none (fun _ _ => trivial) _ _⟩
                      refine ag.walk_val (by rfl) (fun W1 hS hE => ?_) ?_
                      rotate_left; simp only [Act.put, List.setIfInBounds_toArray, List.set_cons_zero, List.set_cons_succ]; rotate_left
                      · clear hS hE
                        unfold ag.does
                        go_simp
                        try exact ⟨rfl, rfl⟩
                      refine ag.walk_val (by rfl) (fun W1 hS hE => ?_) ?_
                      rotate_left; simp only [Act.put, List.setIfInBounds_toArray, List.set_cons_zero, List.set_cons_succ]; rotate_left
                      · clear hS hE
                        unfold ag.does
                        go_simp
                        first | exact ⟨rfl, rfl⟩ | rfl | decide | go_num
                      refine ag.walk_val (by rfl) (fun W1 hS hE => ?_) ?_
                      rotate_left; simp only [Act.put, List.setIfInBounds_toArray, List.set_cons_zero, List.set_cons_succ]; rotate_left
                      · have hy2 : y2 = .int .i64 (0) := hE.get (by kernel_rfl)
                        subst hy2
                        clear hS hE
                        unfold ag.does
                        go_simp
                        try exact ⟨rfl, rfl⟩
                      refine ag.walk_val (by rfl) (fun W1 hS hE => ?_) ?_
                      rotate_left; simp only [Act.put, List.setIfInBounds_toArray, List.set_cons_zero, List.set_cons_succ]; rotate_left
                      · clear hS hE
                        unfold ag.does
                        go_simp
                        try exact ⟨rfl, rfl⟩
                      refine ag.walk_nil (fun wC hS hF' hP => ?_)
                      clear hF' hP
                      have HS := Lib.hid hS
                      clear hS
                      have HX3 := Lib.hid (HX2.out.trans (HS.out.mono HX2.out.size))
                      clear HS
                      go_wp2_with fail
                      go_roundw
                      case rel => exact ⟨q + 1, by go_num, by omega, HX3⟩
                      case measure => simp [intOf]; omega
              · have hC0 : C = 1 := by rw [← hC]; rfl
                have hC1 : C2 = -1 := by rw [← hC2]; rfl
                subst hC0
                subst hC1
                clear hC hC2
                go_wp2_with fail
                refine ag.region_ag (fun W1 => Below wr.heap.size wr W1) (fun _ _ _ _ => True)
                  [.val (.slice (some ⟨gB, 0, none⟩) (k + 1) c4), .val (.int .i64 (k : Int)), .val (.pointer (some ⟨gB, k, none⟩)), .val ((.slice a7 l.length c7)), .val (.slice (some ⟨gB, 0, none⟩) (k + 1) c4), .val (.int .i64 (q : Int)), .val (.pointer (some ⟨gB, q, none⟩)), .val ((.slice a8 Lq.length c8)), .sat (fun v _ => v = .bool false) (fun _ w w' => Below w.heap.size w w')]
                  (by kernel_rfl) (by kernel_rfl) rfl (⟨rfl, rfl, rfl, Nat.le_refl _, fun _ _ => rfl⟩) ?hsta2 ?hka2 ?hwalka2
                case hsta2 =>
                  simp only [ag.Stab, ag.Row2, ag.Ok2, and_true]
                  repeat' apply And.intro
                  all_goals first
                    | exact fun h => absurd rfl h
                    | exact fun _ _ f v W W' hS hv _ ht => hv
                    | trivial
                case hka2 =>
                  simp only [ag.Keeps, and_true]
                  exact fun f W1 W2 hS _ ht => hS.trans (ht.mono hS.size)
                case hwalka2 =>
                  refine ag.walk_val (by rfl) (fun W1 hS hE => ?_) ?_
                  rotate_left; simp only [Act.put, List.setIfInBounds_toArray, List.set_cons_zero, List.set_cons_succ]; rotate_left
                  · clear hS hE
                    unfold ag.does
                    go_simp
                    try exact ⟨rfl, rfl⟩
                  refine ag.walk_val (by rfl) (fun W1 hS hE => ?_) ?_
                  rotate_left; simp only [Act.put, List.setIfInBounds_toArray, List.set_cons_zero, List.set_cons_succ]; rotate_left
                  · clear hS hE
                    unfold ag.does
                    go_simp
                    try exact ⟨rfl, rfl⟩
                  refine ag.walk_val (by rfl) (fun W1 hS hE => ?_) ?_
                  rotate_left; simp only [Act.put, List.setIfInBounds_toArray, List.set_cons_zero, List.set_cons_succ]; rotate_left
                  · clear hS hE
                    unfold ag.does
                    go_simp
                    try exact ⟨rfl, rfl⟩
                  refine ag.walk_val (by rfl) (fun W1 hS hE => ?_) ?_
                  rotate_left; simp only [Act.put, List.setIfInBounds_toArray, List.set_cons_zero, List.set_cons_succ]; rotate_left
                  · obtain ⟨k0, k1, k2, k3⟩ := HKC.out W1 (HX0.out.trans (hS.mono HX0.out.size))
                    clear hS hE
                    unfold ag.does
                    go_simp
                    try exact ⟨rfl, rfl⟩
                  refine ag.walk_val (by rfl) (fun W1 hS hE => ?_) ?_
                  rotate_left; simp only [Act.put, List.setIfInBounds_toArray, List.set_cons_zero, List.set_cons_succ]; rotate_left
                  · clear hS hE
                    unfold ag.does
                    go_simp
                    try exact ⟨rfl, rfl⟩
                  refine ag.walk_val (by rfl) (fun W1 hS hE => ?_) ?_
                  rotate_left; simp only [Act.put, List.setIfInBounds_toArray, List.set_cons_zero, List.set_cons_succ]; rotate_left
                  · clear hS hE
                    unfold ag.does
                    go_simp
                    try exact ⟨rfl, rfl⟩
                  refine ag.walk_val (by rfl) (fun W1 hS hE => ?_) ?_
                  rotate_left; simp only [Act.put, List.setIfInBounds_toArray, List.set_cons_zero, List.set_cons_succ]; rotate_left
                  · clear hS hE
                    unfold ag.does
                    go_simp
                    try exact ⟨rfl, rfl⟩
                  refine ag.walk_val (by rfl) (fun W1 hS hE => ?_) ?_
                  rotate_left; simp only [Act.put, List.setIfInBounds_toArray, List.set_cons_zero, List.set_cons_succ]; rotate_left
                  · obtain ⟨k0, k1, k2, k3⟩ := HKC.out W1 (HX0.out.trans (hS.mono HX0.out.size))
                    clear hS hE
                    unfold ag.does
                    go_simp
                    try exact ⟨rfl, rfl⟩
                  refine ag.walk_sat (by rfl) (fun W1 hS hE => ?_) (fun y1 => ?_)
                  rotate_left; simp only [Act.put, List.setIfInBounds_toArray, List.set_cons_zero, List.set_cons_succ]; rotate_left
                  · have hc := HF1.out W1 (HX0.out.trans (hS.mono HX0.out.size))
                    clear hS hE
                    unfold ag.does
                    go_simp
                    refine (hc).mono ?_
                    rintro e W2 ⟨rfl, hb⟩
                    exact ⟨_, rfl, rfl, hb, ag.News.none (fun _ _ => trivial) _ _⟩
                  refine ag.walk_nil (fun wA hS hF' hP => ?_)
                  have hq1 : y1 = .bool false := hF'.1
                  subst hq1
                  clear hF' hP
                  have HS := Lib.hid hS
                  clear hS
                  have HX1 := Lib.hid (HX0.out.trans (HS.out.mono HX0.out.size))
                  clear HS
                  go_wp2_with fail
                  refine ag.region_ag (fun W1 => Below wA.heap.size wA W1) (fun _ _ _ _ => True)
                    [.val (.slice (some ⟨gB, 0, none⟩) (k + 1) c4), .val (.int .i64 (q : Int)), .val (.pointer (some ⟨gB, q, none⟩)), .val ((.slice a8 Lq.length c8)), .val (.slice (some ⟨gB, 0, none⟩) (k + 1) c4), .val (.int .i64 (k : Int)), .val (.pointer (some ⟨gB, k, none⟩)), .val ((.slice a7 l.length c7)), .sat (fun v _ => v = .bool true) (fun _ w w' => Below w.heap.size w w')]
                    (by kernel_rfl) (by kernel_rfl) rfl (⟨rfl, rfl, rfl, Nat.le_refl _, fun _ _ => rfl⟩) ?hstb2 ?hkb2 ?hwalkb2
                  case hstb2 =>
                    simp only [ag.Stab, ag.Row2, ag.Ok2, and_true]
                    repeat' apply And.intro
                    all_goals first
                      | exact fun h => absurd rfl h
                      | exact fun _ _ f v W W' hS hv _ ht => hv
                      | trivial
                  case hkb2 =>
                    simp only [ag.Keeps, and_true]
                    exact fun f W1 W2 hS _ ht => hS.trans (ht.mono hS.size)
                  case hwalkb2 =>
                    refine ag.walk_val (by rfl) (fun W1 hS hE => ?_) ?_
                    rotate_left; simp only [Act.put, List.setIfInBounds_toArray, List.set_cons_zero, List.set_cons_succ]; rotate_left
                    · clear hS hE
                      unfold ag.does
                      go_simp
                      try exact ⟨rfl, rfl⟩
                    refine ag.walk_val (by rfl) (fun W1 hS hE => ?_) ?_
                    rotate_left; simp only [Act.put, List.setIfInBounds_toArray, List.set_cons_zero, List.set_cons_succ]; rotate_left
                    · clear hS hE
                      unfold ag.does
                      go_simp
                      try exact ⟨rfl, rfl⟩
                    refine ag.walk_val (by rfl) (fun W1 hS hE => ?_) ?_
                    rotate_left; simp only [Act.put, List.setIfInBounds_toArray, List.set_cons_zero, List.set_cons_succ]; rotate_left
                    · clear hS hE
                      unfold ag.does
                      go_simp
                      try exact ⟨rfl, rfl⟩
                    refine ag.walk_val (by rfl) (fun W1 hS hE => ?_) ?_
                    rotate_left; simp only [Act.put, List.setIfInBounds_toArray, List.set_cons_zero, List.set_cons_succ]; rotate_left
                    · obtain ⟨k0, k1, k2, k3⟩ := HKC.out W1 (HX1.out.trans (hS.mono HX1.out.size))
                      clear hS hE
                      unfold ag.does
                      go_simp
                      try exact ⟨rfl, rfl⟩
                    refine ag.walk_val (by rfl) (fun W1 hS hE => ?_) ?_
                    rotate_left; simp only [Act.put, List.setIfInBounds_toArray, List.set_cons_zero, List.set_cons_succ]; rotate_left
                    · clear hS hE
                      unfold ag.does
                      go_simp
                      try exact ⟨rfl, rfl⟩
                    refine ag.walk_val (by rfl) (fun W1 hS hE => ?_) ?_
                    rotate_left; simp only [Act.put, List.setIfInBounds_toArray, List.set_cons_zero, List.set_cons_succ]; rotate_left
                    · clear hS hE
                      unfold ag.does
                      go_simp
                      try exact ⟨rfl, rfl⟩
                    refine ag.walk_val (by rfl) (fun W1 hS hE => ?_) ?_
                    rotate_left; simp only [Act.put, List.setIfInBounds_toArray, List.set_cons_zero, List.set_cons_succ]; rotate_left
                    · clear hS hE
                      unfold ag.does
                      go_simp
                      try exact ⟨rfl, rfl⟩
                    refine ag.walk_val (by rfl) (fun W1 hS hE => ?_) ?_
                    rotate_left; simp only [Act.put, List.setIfInBounds_toArray, List.set_cons_zero, List.set_cons_succ]; rotate_left
                    · obtain ⟨k0, k1, k2, k3⟩ := HKC.out W1 (HX1.out.trans (hS.mono HX1.out.size))
                      clear hS hE
                      unfold ag.does
                      go_simp
                      try exact ⟨rfl, rfl⟩
                    refine ag.walk_sat (by rfl) (fun W1 hS hE => ?_) (fun y1 => ?_)
                    rotate_left; simp only [Act.put, List.setIfInBounds_toArray, List.set_cons_zero, List.set_cons_succ]; rotate_left
                    · have hc := HF2.out W1 (HX1.out.trans (hS.mono HX1.out.size))
                      clear hS hE
                      unfold ag.does
                      go_simp
                      refine (hc).mono ?_
                      rintro e W2 ⟨rfl, hb⟩
                      exact ⟨_, rfl, rfl, hb, ag.News.none (fun _ _ => trivial) _ _⟩
                    refine ag.walk_nil (fun wB hS hF' hP => ?_)
                    have hq1 : y1 = .bool true := hF'.1
                    subst hq1
                    clear hF' hP
                    have HS := Lib.hid hS
                    clear hS
                    have HX2 := Lib.hid (HX1.out.trans (HS.out.mono HX1.out.size))
                    clear HS
                    go_wp2_with fail
                    refine ag.region_ag (fun W1 => Below wB.heap.size wB W1) (fun _ _ _ _ => True)
                      [.val (.slice (some ⟨gA, 0, none⟩) (k + 1) c3), .val (.int .i64 (k : Int)), .val (.pointer (some ⟨gA, k, none⟩)), .val ((.slice a6 l.length c6)), .val (.slice (some ⟨gA, 0, none⟩) (k + 1) c3), .val (.int .i64 (q : Int)), .val (.pointer (some ⟨gA, q, none⟩)), .val ((.slice a9 Lq.length c9)), .sat (fun v _ => v = .int .i64 (1)) (fun _ w w' => Below w.heap.size w w'), .val (.int .i64 (1)), .val (.bool false), .val (.bool false), .val (.slice (some ⟨gA, 0, none⟩) (k + 1) c3), .val (.int .i64 (q : Int)), .val (.pointer (some ⟨gA, q, none⟩)), .val ((.slice a9 Lq.length c9)), .val (.slice (some ⟨gA, 0, none⟩) (k + 1) c3), .val (.int .i64 (k : Int)), .val (.pointer (some ⟨gA, k, none⟩)), .val ((.slice a6 l.length c6)), .sat (fun v _ => v = .int .i64 (-1)) (fun _ w w' => Below w.heap.size w w'), .val (.int .i64 (1)), .val (.int .i64 (-1)), .val (.bool false), .val (.bool false)]
                      (by kernel_rfl) (by kernel_rfl) rfl (⟨rfl, rfl, rfl, Nat.le_refl _, fun _ _ => rfl⟩) ?hstc2 ?hkc2 ?hwalkc2
                    case hstc2 =>
                      simp only [ag.Stab, ag.Row2, ag.Ok2, and_true]
                      repeat' apply And.intro
                      all_goals first
                        | exact fun h => absurd rfl h
                        | exact fun _ _ f v W W' hS hv _ ht => hv
                        | trivial
                    case hkc2 =>
                      simp only [ag.Keeps, and_true]
                      exact ⟨fun f W1 W2 hS _ ht => hS.trans (ht.mono hS.size), fun f W1 W2 hS _ ht => hS.trans (ht.mono hS.size)⟩
                    case hwalkc2 =>
                      refine ag.walk_val (by rfl) (fun W1 hS hE => ?_) ?_
                      rotate_left; simp only [Act.put, List.setIfInBounds_toArray, List.set_cons_zero, List.set_cons_succ]; rotate_left
                      · clear hS hE
                        unfold ag.does
                        go_simp
                        try exact ⟨rfl, rfl⟩
                      refine ag.walk_val (by rfl) (fun W1 hS hE => ?_) ?_
                      rotate_left; simp only [Act.put, List.setIfInBounds_toArray, List.set_cons_zero, List.set_cons_succ]; rotate_left
                      · clear hS hE
                        unfold ag.does
                        go_simp
                        try exact ⟨rfl, rfl⟩
                      refine ag.walk_val (by rfl) (fun W1 hS hE => ?_) ?_
                      rotate_left; simp only [Act.put, List.setIfInBounds_toArray, List.set_cons_zero, List.set_cons_succ]; rotate_left
                      · clear hS hE
                        unfold ag.does
                        go_simp
                        try exact ⟨rfl, rfl⟩
                      refine ag.walk_val (by rfl) (fun W1 hS hE => ?_) ?_
                      rotate_left; simp only [Act.put, List.setIfInBounds_toArray, List.set_cons_zero, List.set_cons_succ]; rotate_left
                      · obtain ⟨k0, k1, k2, k3⟩ := HKC.out W1 (HX2.out.trans (hS.mono HX2.out.size))
                        clear hS hE
                        unfold ag.does
                        go_simp
                        try exact ⟨rfl, rfl⟩
                      refine ag.walk_val (by rfl) (fun W1 hS hE => ?_) ?_
                      rotate_left; simp only [Act.put, List.setIfInBounds_toArray, List.set_cons_zero, List.set_cons_succ]; rotate_left
                      · clear hS hE
                        unfold ag.does
                        go_simp
                        try exact ⟨rfl, rfl⟩
                      refine ag.walk_val (by rfl) (fun W1 hS hE => ?_) ?_
                      rotate_left; simp only [Act.put, List.setIfInBounds_toArray, List.set_cons_zero, List.set_cons_succ]; rotate_left
                      · clear hS hE
                        unfold ag.does
                        go_simp
                        try exact ⟨rfl, rfl⟩
                      refine ag.walk_val (by rfl) (fun W1 hS hE => ?_) ?_
                      rotate_left; simp only [Act.put, List.setIfInBounds_toArray, List.set_cons_zero, List.set_cons_succ]; rotate_left
                      · clear hS hE
                        unfold ag.does
                        go_simp
                        try exact ⟨rfl, rfl⟩
                      refine ag.walk_val (by rfl) (fun W1 hS hE => ?_) ?_
                      rotate_left; simp only [Act.put, List.setIfInBounds_toArray, List.set_cons_zero, List.set_cons_succ]; rotate_left
                      · obtain ⟨k0, k1, k2, k3⟩ := HKC.out W1 (HX2.out.trans (hS.mono HX2.out.size))
                        clear hS hE
                        unfold ag.does
                        go_simp
                        try exact ⟨rfl, rfl⟩
                      refine ag.walk_sat (by rfl) (fun W1 hS hE => ?_) (fun y1 => ?_)
                      rotate_left; simp only [Act.put, List.setIfInBounds_toArray, List.set_cons_zero, List.set_cons_succ]; rotate_left
                      · have hc := HC1.out W1 (HX2.out.trans (hS.mono HX2.out.size))
                        clear hS hE
                        unfold ag.does
                        go_simp
                        refine (hc).mono ?_
                        rintro e W2 ⟨rfl, hb⟩
                        exact ⟨_, rfl, rfl, hb.1, ag.News.none (fun _ _ => trivial) _ _⟩
                      refine ag.walk_val (by rfl) (fun W1 hS hE => ?_) ?_
                      rotate_left; simp only [Act.put, List.setIfInBounds_toArray, List.set_cons_zero, List.set_cons_succ]; rotate_left
                      · clear hS hE
                        unfold ag.does
                        go_simp
                        try exact ⟨rfl, rfl⟩
                      refine ag.walk_val (by rfl) (fun W1 hS hE => ?_) ?_
                      rotate_left; simp only [Act.put, List.setIfInBounds_toArray, List.set_cons_zero, List.set_cons_succ]; rotate_left
                      · have hy1 : y1 = .int .i64 (1) := hE.get (by kernel_rfl)
                        subst hy1
                        clear hS hE
                        unfold ag.does
                        go_simp
                        try exact ⟨rfl, rfl⟩
                      refine ag.walk_val (by rfl) (fun W1 hS hE => ?_) ?_
                      rotate_left; simp only [Act.put, List.setIfInBounds_toArray, List.set_cons_zero, List.set_cons_succ]; rotate_left
                      · clear hS hE
                        unfold ag.does
                        go_simp
                        try exact ⟨rfl, rfl⟩
                      refine ag.walk_val (by rfl) (fun W1 hS hE => ?_) ?_
                      rotate_left; simp only [Act.put, List.setIfInBounds_toArray, List.set_cons_zero, List.set_cons_succ]; rotate_left
                      · clear hS hE
                        unfold ag.does
                        go_simp
                        try exact ⟨rfl, rfl⟩
                      refine ag.walk_val (by rfl) (fun W1 hS hE => ?_) ?_
                      rotate_left; simp only [Act.put, List.setIfInBounds_toArray, List.set_cons_zero, List.set_cons_succ]; rotate_left
                      · clear hS hE
                        unfold ag.does
                        go_simp
                        try exact ⟨rfl, rfl⟩
                      refine ag.walk_val (by rfl) (fun W1 hS hE => ?_) ?_
                      rotate_left; simp only [Act.put, List.setIfInBounds_toArray, List.set_cons_zero, List.set_cons_succ]; rotate_left
                      · clear hS hE
                        unfold ag.does
                        go_simp
                        try exact ⟨rfl, rfl⟩
                      refine ag.walk_val (by rfl) (fun W1 hS hE => ?_) ?_
                      rotate_left; simp only [Act.put, List.setIfInBounds_toArray, List.set_cons_zero, List.set_cons_succ]; rotate_left
                      · obtain ⟨k0, k1, k2, k3⟩ := HKC.out W1 (HX2.out.trans (hS.mono HX2.out.size))
                        clear hS hE
                        unfold ag.does
                        go_simp
                        try exact ⟨rfl, rfl⟩
                      refine ag.walk_val (by rfl) (fun W1 hS hE => ?_) ?_
                      rotate_left; simp only [Act.put, List.setIfInBounds_toArray, List.set_cons_zero, List.set_cons_succ]; rotate_left
                      · clear hS hE
                        unfold ag.does
                        go_simp
                        try exact ⟨rfl, rfl⟩
                      refine ag.walk_val (by rfl) (fun W1 hS hE => ?_) ?_
                      rotate_left; simp only [Act.put, List.setIfInBounds_toArray, List.set_cons_zero, List.set_cons_succ]; rotate_left
                      · clear hS hE
                        unfold ag.does
                        go_simp
                        try exact ⟨rfl, rfl⟩
                      refine ag.walk_val (by rfl) (fun W1 hS hE => ?_) ?_
                      rotate_left; simp only [Act.put, List.setIfInBounds_toArray, List.set_cons_zero, List.set_cons_succ]; rotate_left
                      · clear hS hE
                        unfold ag.does
                        go_simp
                        try exact ⟨rfl, rfl⟩
                      refine ag.walk_val (by rfl) (fun W1 hS hE => ?_) ?_
                      rotate_left; simp only [Act.put, List.setIfInBounds_toArray, List.set_cons_zero, List.set_cons_succ]; rotate_left
                      · obtain ⟨k0, k1, k2, k3⟩ := HKC.out W1 (HX2.out.trans (hS.mono HX2.out.size))
                        clear hS hE
                        unfold ag.does
                        go_simp
                        try exact ⟨rfl, rfl⟩
                      refine ag.walk_sat (by rfl) (fun W1 hS hE => ?_) (fun y2 => ?_)
                      rotate_left; simp only [Act.put, List.setIfInBounds_toArray, List.set_cons_zero, List.set_cons_succ]; rotate_left
                      · have hc := HC2.out W1 (HX2.out.trans (hS.mono HX2.out.size))
                        clear hS hE
                        unfold ag.does
                        go_simp
                        refine (hc).mono ?_
                        rintro e W2 ⟨rfl, hb⟩
                        exact ⟨_, rfl, rfl, hb.1, ag.News.none (fun _ _ => trivial) _ _⟩
                      refine ag.walk_val (by rfl) (fun W1 hS hE => ?_) ?_
                      rotate_left; simp only [Act.put, List.setIfInBounds_toArray, List.set_cons_zero, List.set_cons_succ]; rotate_left
                      · clear hS hE
                        unfold ag.does
                        go_simp
                        try exact ⟨rfl, rfl⟩
                      refine ag.walk_val (by rfl) (fun W1 hS hE => ?_) ?_
                      rotate_left; simp only [Act.put, List.setIfInBounds_toArray, List.set_cons_zero, List.set_cons_succ]; rotate_left
                      · clear hS hE
                        unfold ag.does
                        go_simp
                        first | exact ⟨rfl, rfl⟩ | rfl | decide | go_num
                      refine ag.walk_val (by rfl) (fun W1 hS hE => ?_) ?_
                      rotate_left; simp only [Act.put, List.setIfInBounds_toArray, List.set_cons_zero, List.set_cons_succ]; rotate_left
                      · have hy2 : y2 = .int .i64 (-1) := hE.get (by kernel_rfl)
                        subst hy2
                        clear hS hE
                        unfold ag.does
                        go_simp
                        try exact ⟨rfl, rfl⟩
                      refine ag.walk_val (by rfl) (fun W1 hS hE => ?_) ?_
                      rotate_left; simp only [Act.put, List.setIfInBounds_toArray, List.set_cons_zero, List.set_cons_succ]; rotate_left
                      · clear hS hE
                        unfold ag.does
                        go_simp
                        try exact ⟨rfl, rfl⟩
                      refine ag.walk_nil (fun wC hS hF' hP => ?_)
                      clear hF' hP
                      have HS := Lib.hid hS
                      clear hS
                      have HX3 := Lib.hid (HX2.out.trans (HS.out.mono HX2.out.size))
                      clear HS
                      go_wp2_with fail
                      go_roundw
                      case rel => exact ⟨q + 1, by go_num, by omega, HX3⟩
                      case measure => simp [intOf]; omega
              · have hC0 : C = -1 := by rw [← hC]; rfl
                have hC1 : C2 = 1 := by rw [← hC2]; rfl
                subst hC0
                subst hC1
                clear hC hC2
                go_wp2_with fail
                refine ag.region_ag (fun W1 => Below wr.heap.size wr W1) (fun _ _ _ _ => True)
                  [.val (.slice (some ⟨gB, 0, none⟩) (k + 1) c4), .val (.int .i64 (k : Int)), .val (.pointer (some ⟨gB, k, none⟩)), .val ((.slice a7 l.length c7)), .val (.slice (some ⟨gB, 0, none⟩) (k + 1) c4), .val (.int .i64 (q : Int)), .val (.pointer (some ⟨gB, q, none⟩)), .val ((.slice a8 Lq.length c8)), .sat (fun v _ => v = .bool true) (fun _ w w' => Below w.heap.size w w')]
                  (by kernel_rfl) (by kernel_rfl) rfl (⟨rfl, rfl, rfl, Nat.le_refl _, fun _ _ => rfl⟩) ?hsta3 ?hka3 ?hwalka3
                case hsta3 =>
                  simp only [ag.Stab, ag.Row2, ag.Ok2, and_true]
                  repeat' apply And.intro
                  all_goals first
                    | exact fun h => absurd rfl h
                    | exact fun _ _ f v W W' hS hv _ ht => hv
                    | trivial
                case hka3 =>
                  simp only [ag.Keeps, and_true]
                  exact fun f W1 W2 hS _ ht => hS.trans (ht.mono hS.size)
                case hwalka3 =>
                  refine ag.walk_val (by rfl) (fun W1 hS hE => ?_) ?_
                  rotate_left; simp only [Act.put, List.setIfInBounds_toArray, List.set_cons_zero, List.set_cons_succ]; rotate_left
                  · clear hS hE
                    unfold ag.does
                    go_simp
                    try exact ⟨rfl, rfl⟩
                  refine ag.walk_val (by rfl) (fun W1 hS hE => ?_) ?_
                  rotate_left; simp only [Act.put, List.setIfInBounds_toArray, List.set_cons_zero, List.set_cons_succ]; rotate_left
                  · clear hS hE
                    unfold ag.does
                    go_simp
                    try exact ⟨rfl, rfl⟩
                  refine ag.walk_val (by rfl) (fun W1 hS hE => ?_) ?_
                  rotate_left; simp only [Act.put, List.setIfInBounds_toArray, List.set_cons_zero, List.set_cons_succ]; rotate_left
                  · clear hS hE
                    unfold ag.does
                    go_simp
                    try exact ⟨rfl, rfl⟩
                  refine ag.walk_val (by rfl) (fun W1 hS hE => ?_) ?_
                  rotate_left; simp only [Act.put, List.setIfInBounds_toArray, List.set_cons_zero, List.set_cons_succ]; rotate_left
                  · obtain ⟨k0, k1, k2, k3⟩ := HKC.out W1 (HX0.out.trans (hS.mono HX0.out.size))
                    clear hS hE
                    unfold ag.does
                    go_simp
                    try exact ⟨rfl, rfl⟩
                  refine ag.walk_val (by rfl) (fun W1 hS hE => ?_) ?_
                  rotate_left; simp only [Act.put, List.setIfInBounds_toArray, List.set_cons_zero, List.set_cons_succ]; rotate_left
                  · clear hS hE
                    unfold ag.does
                    go_simp
                    try exact ⟨rfl, rfl⟩
                  refine ag.walk_val (by rfl) (fun W1 hS hE => ?_) ?_
                  rotate_left; simp only [Act.put, List.setIfInBounds_toArray, List.set_cons_zero, List.set_cons_succ]; rotate_left
                  · clear hS hE
                    unfold ag.does
                    go_simp
                    try exact ⟨rfl, rfl⟩
                  refine ag.walk_val (by rfl) (fun W1 hS hE => ?_) ?_
                  rotate_left; simp only [Act.put, List.setIfInBounds_toArray, List.set_cons_zero, List.set_cons_succ]; rotate_left
                  · clear hS hE
                    unfold ag.does
                    go_simp
                    try exact ⟨rfl, rfl⟩
                  refine ag.walk_val (by rfl) (fun W1 hS hE => ?_) ?_
                  rotate_left; simp only [Act.put, List.setIfInBounds_toArray, List.set_cons_zero, List.set_cons_succ]; rotate_left
                  · obtain ⟨k0, k1, k2, k3⟩ := HKC.out W1 (HX0.out.trans (hS.mono HX0.out.size))
                    clear hS hE
                    unfold ag.does
                    go_simp
                    try exact ⟨rfl, rfl⟩
                  refine ag.walk_sat (by rfl) (fun W1 hS hE => ?_) (fun y1 => ?_)
                  rotate_left; simp only [Act.put, List.setIfInBounds_toArray, List.set_cons_zero, List.set_cons_succ]; rotate_left
                  · have hc := HF1.out W1 (HX0.out.trans (hS.mono HX0.out.size))
                    clear hS hE
                    unfold ag.does
                    go_simp
                    refine (hc).mono ?_
                    rintro e W2 ⟨rfl, hb⟩
                    exact ⟨_, rfl, rfl, hb, ag.News.none (fun _ _ => trivial) _ _⟩
                  refine ag.walk_nil (fun wA hS hF' hP => ?_)
                  have hq1 : y1 = .bool true := hF'.1
                  subst hq1
                  clear hF' hP
                  have HS := Lib.hid hS
                  clear hS
                  have HX1 := Lib.hid (HX0.out.trans (HS.out.mono HX0.out.size))
                  clear HS
                  go_wp2_with fail
                  refine ag.region_ag (fun W1 => Below wA.heap.size wA W1) (fun _ _ _ _ => True)
                    [.val (.slice (some ⟨gB, 0, none⟩) (k + 1) c4), .val (.int .i64 (q : Int)), .val (.pointer (some ⟨gB, q, none⟩)), .val ((.slice a8 Lq.length c8)), .val (.slice (some ⟨gB, 0, none⟩) (k + 1) c4), .val (.int .i64 (k : Int)), .val (.pointer (some ⟨gB, k, none⟩)), .val ((.slice a7 l.length c7)), .sat (fun v _ => v = .bool false) (fun _ w w' => Below w.heap.size w w')]
                    (by kernel_rfl) (by kernel_rfl) rfl (⟨rfl, rfl, rfl, Nat.le_refl _, fun _ _ => rfl⟩) ?hstb3 ?hkb3 ?hwalkb3
                  case hstb3 =>
                    simp only [ag.Stab, ag.Row2, ag.Ok2, and_true]
                    repeat' apply And.intro
                    all_goals first
                      | exact fun h => absurd rfl h
                      | exact fun _ _ f v W W' hS hv _ ht => hv
                      | trivial
                  case hkb3 =>
                    simp only [ag.Keeps, and_true]
                    exact fun f W1 W2 hS _ ht => hS.trans (ht.mono hS.size)
                  case hwalkb3 =>
                    refine ag.walk_val (by rfl) (fun W1 hS hE => ?_) ?_
                    rotate_left; simp only [Act.put, List.setIfInBounds_toArray, List.set_cons_zero, List.set_cons_succ]; rotate_left
                    · clear hS hE
                      unfold ag.does
                      go_simp
                      try exact ⟨rfl, rfl⟩
                    refine ag.walk_val (by rfl) (fun W1 hS hE => ?_) ?_
                    rotate_left; simp only [Act.put, List.setIfInBounds_toArray, List.set_cons_zero, List.set_cons_succ]; rotate_left
                    · clear hS hE
                      unfold ag.does
                      go_simp
                      try exact ⟨rfl, rfl⟩
                    refine ag.walk_val (by rfl) (fun W1 hS hE => ?_) ?_
                    rotate_left; simp only [Act.put, List.setIfInBounds_toArray, List.set_cons_zero, List.set_cons_succ]; rotate_left
                    · clear hS hE
                      unfold ag.does
                      go_simp
                      try exact ⟨rfl, rfl⟩
                    refine ag.walk_val (by rfl) (fun W1 hS hE => ?_) ?_
                    rotate_left; simp only [Act.put, List.setIfInBounds_toArray, List.set_cons_zero, List.set_cons_succ]; rotate_left
                    · obtain ⟨k0, k1, k2, k3⟩ := HKC.out W1 (HX1.out.trans (hS.mono HX1.out.size))
                      clear hS hE
                      unfold ag.does
                      go_simp
                      try exact ⟨rfl, rfl⟩
                    refine ag.walk_val (by rfl) (fun W1 hS hE => ?_) ?_
                    rotate_left; simp only [Act.put, List.setIfInBounds_toArray, List.set_cons_zero, List.set_cons_succ]; rotate_left
                    · clear hS hE
                      unfold ag.does
                      go_simp
                      try exact ⟨rfl, rfl⟩
                    refine ag.walk_val (by rfl) (fun W1 hS hE => ?_) ?_
                    rotate_left; simp only [Act.put, List.setIfInBounds_toArray, List.set_cons_zero, List.set_cons_succ]; rotate_left
                    · clear hS hE
                      unfold ag.does
                      go_simp
                      try exact ⟨rfl, rfl⟩
                    refine ag.walk_val (by rfl) (fun W1 hS hE => ?_) ?_
                    rotate_left; simp only [Act.put, List.setIfInBounds_toArray, List.set_cons_zero, List.set_cons_succ]; rotate_left
                    · clear hS hE
                      unfold ag.does
                      go_simp
                      try exact ⟨rfl, rfl⟩
                    refine ag.walk_val (by rfl) (fun W1 hS hE => ?_) ?_
                    rotate_left; simp only [Act.put, List.setIfInBounds_toArray, List.set_cons_zero, List.set_cons_succ]; rotate_left
                    · obtain ⟨k0, k1, k2, k3⟩ := HKC.out W1 (HX1.out.trans (hS.mono HX1.out.size))
                      clear hS hE
                      unfold ag.does
                      go_simp
                      try exact ⟨rfl, rfl⟩
                    refine ag.walk_sat (by rfl) (fun W1 hS hE => ?_) (fun y1 => ?_)
                    rotate_left; simp only [Act.put, List.setIfInBounds_toArray, List.set_cons_zero, List.set_cons_succ]; rotate_left
                    · have hc := HF2.out W1 (HX1.out.trans (hS.mono HX1.out.size))
                      clear hS hE
                      unfold ag.does
                      go_simp
                      refine (hc).mono ?_
                      rintro e W2 ⟨rfl, hb⟩
                      exact ⟨_, rfl, rfl, hb, ag.News.none (fun _ _ => trivial) _ _⟩
                    refine ag.walk_nil (fun wB hS hF' hP => ?_)
                    have hq1 : y1 = .bool false := hF'.1
                    subst hq1
                    clear hF' hP
                    have HS := Lib.hid hS
                    clear hS
                    have HX2 := Lib.hid (HX1.out.trans (HS.out.mono HX1.out.size))
                    clear HS
                    go_wp2_with fail
                    refine ag.region_ag (fun W1 => Below wB.heap.size wB W1) (fun _ _ _ _ => True)
                      [.val (.slice (some ⟨gA, 0, none⟩) (k + 1) c3), .val (.int .i64 (k : Int)), .val (.pointer (some ⟨gA, k, none⟩)), .val ((.slice a6 l.length c6)), .val (.slice (some ⟨gA, 0, none⟩) (k + 1) c3), .val (.int .i64 (q : Int)), .val (.pointer (some ⟨gA, q, none⟩)), .val ((.slice a9 Lq.length c9)), .sat (fun v _ => v = .int .i64 (-1)) (fun _ w w' => Below w.heap.size w w'), .val (.int .i64 (-1)), .val (.bool false), .val (.bool false), .val (.slice (some ⟨gA, 0, none⟩) (k + 1) c3), .val (.int .i64 (q : Int)), .val (.pointer (some ⟨gA, q, none⟩)), .val ((.slice a9 Lq.length c9)), .val (.slice (some ⟨gA, 0, none⟩) (k + 1) c3), .val (.int .i64 (k : Int)), .val (.pointer (some ⟨gA, k, none⟩)), .val ((.slice a6 l.length c6)), .sat (fun v _ => v = .int .i64 (1)) (fun _ w w' => Below w.heap.size w w'), .val (.int .i64 (-1)), .val (.int .i64 (1)), .val (.bool false), .val (.bool false)]
                      (by kernel_rfl) (by kernel_rfl) rfl (⟨rfl, rfl, rfl, Nat.le_refl _, fun _ _ => rfl⟩) ?hstc3 ?hkc3 ?hwalkc3
                    case hstc3 =>
                      simp only [ag.Stab, ag.Row2, ag.Ok2, and_true]
                      repeat' apply And.intro
                      all_goals first
                        | exact fun h => absurd rfl h
                        | exact fun _ _ f v W W' hS hv _ ht => hv
                        | trivial
                    case hkc3 =>
                      simp only [ag.Keeps, and_true]
                      exact ⟨fun f W1 W2 hS _ ht => hS.trans (ht.mono hS.size), fun f W1 W2 hS _ ht => hS.trans (ht.mono hS.size)⟩
                    case hwalkc3 =>
                      refine ag.walk_val (by rfl) (fun W1 hS hE => ?_) ?_
                      rotate_left; simp only [Act.put, List.setIfInBounds_toArray, List.set_cons_zero, List.set_cons_succ]; rotate_left
                      · clear hS hE
                        unfold ag.does
                        go_simp
                        try exact ⟨rfl, rfl⟩
                      refine ag.walk_val (by rfl) (fun W1 hS hE => ?_) ?_
                      rotate_left; simp only [Act.put, List.setIfInBounds_toArray, List.set_cons_zero, List.set_cons_succ]; rotate_left
                      · clear hS hE
                        unfold ag.does
                        go_simp
                        try exact ⟨rfl, rfl⟩
                      refine ag.walk_val (by rfl) (fun W1 hS hE => ?_) ?_
                      rotate_left; simp only [Act.put, List.setIfInBounds_toArray, List.set_cons_zero, List.set_cons_succ]; rotate_left
                      · clear hS hE
                        unfold ag.does
                        go_simp
                        try exact ⟨rfl, rfl⟩
                      refine ag.walk_val (by rfl) (fun W1 hS hE => ?_) ?_
                      rotate_left; simp only [Act.put, List.setIfInBounds_toArray, List.set_cons_zero, List.set_cons_succ]; rotate_left
                      · obtain ⟨k0, k1, k2, k3⟩ := HKC.out W1 (HX2.out.trans (hS.mono HX2.out.size))
                        clear hS hE
                        unfold ag.does
                        go_simp
                        try exact ⟨rfl, rfl⟩
                      refine ag.walk_val (by rfl) (fun W1 hS hE => ?_) ?_
                      rotate_left; simp only [Act.put, List.setIfInBounds_toArray, List.set_cons_zero, List.set_cons_succ]; rotate_left
                      · clear hS hE
                        unfold ag.does
                        go_simp
                        try exact ⟨rfl, rfl⟩
                      refine ag.walk_val (by rfl) (fun W1 hS hE => ?_) ?_
                      rotate_left; simp only [Act.put, List.setIfInBounds_toArray, List.set_cons_zero, List.set_cons_succ]; rotate_left
                      · clear hS hE
                        unfold ag.does
                        go_simp
                        try exact ⟨rfl, rfl⟩
                      refine ag.walk_val (by rfl) (fun W1 hS hE => ?_) ?_
                      rotate_left; simp only [Act.put, List.setIfInBounds_toArray, List.set_cons_zero, List.set_cons_succ]; rotate_left
                      · clear hS hE
                        unfold ag.does
                        go_simp
                        try exact ⟨rfl, rfl⟩
                      refine ag.walk_val (by rfl) (fun W1 hS hE => ?_) ?_
                      rotate_left; simp only [Act.put, List.setIfInBounds_toArray, List.set_cons_zero, List.set_cons_succ]; rotate_left
                      · obtain ⟨k0, k1, k2, k3⟩ := HKC.out W1 (HX2.out.trans (hS.mono HX2.out.size))
                        clear hS hE
                        unfold ag.does
                        go_simp
                        try exact ⟨rfl, rfl⟩
                      refine ag.walk_sat (by rfl) (fun W1 hS hE => ?_) (fun y1 => ?_)
                      rotate_left; simp only [Act.put, List.setIfInBounds_toArray, List.set_cons_zero, List.set_cons_succ]; rotate_left
                      · have hc := HC1.out W1 (HX2.out.trans (hS.mono HX2.out.size))
                        clear hS hE
                        unfold ag.does
                        go_simp
                        refine (hc).mono ?_
                        rintro e W2 ⟨rfl, hb⟩
                        exact ⟨_, rfl, rfl, hb.1, ag.News.none (fun _ _ => trivial) _ _⟩
                      refine ag.walk_val (by rfl) (fun W1 hS hE => ?_) ?_
                      rotate_left; simp only [Act.put, List.setIfInBounds_toArray, List.set_cons_zero, List.set_cons_succ]; rotate_left
                      · clear hS hE
                        unfold ag.does
                        go_simp
                        try exact ⟨rfl, rfl⟩
                      refine ag.walk_val (by rfl) (fun W1 hS hE => ?_) ?_
                      rotate_left; simp only [Act.put, List.setIfInBounds_toArray, List.set_cons_zero, List.set_cons_succ]; rotate_left
                      · have hy1 : y1 = .int .i64 (-1) := hE.get (by kernel_rfl)
                        subst hy1
                        clear hS hE
                        unfold ag.does
                        go_simp
                        try exact ⟨rfl, rfl⟩
                      refine ag.walk_val (by rfl) (fun W1 hS hE => ?_) ?_
                      rotate_left; simp only [Act.put, List.setIfInBounds_toArray, List.set_cons_zero, List.set_cons_succ]; rotate_left
                      · clear hS hE
                        unfold ag.does
                        go_simp
                        try exact ⟨rfl, rfl⟩
                      refine ag.walk_val (by rfl) (fun W1 hS hE => ?_) ?_
                      rotate_left; simp only [Act.put, List.setIfInBounds_toArray, List.set_cons_zero, List.set_cons_succ]; rotate_left
                      · clear hS hE
                        unfold ag.does
                        go_simp
                        try exact ⟨rfl, rfl⟩
                      refine ag.walk_val (by rfl) (fun W1 hS hE => ?_) ?_
                      rotate_left; simp only [Act.put, List.setIfInBounds_toArray, List.set_cons_zero, List.set_cons_succ]; rotate_left
                      · clear hS hE
                        unfold ag.does
                        go_simp
                        try exact ⟨rfl, rfl⟩
                      refine ag.walk_val (by rfl) (fun W1 hS hE => ?_) ?_
                      rotate_left; simp only [Act.put, List.setIfInBounds_toArray, List.set_cons_zero, List.set_cons_succ]; rotate_left
                      · clear hS hE
                        unfold ag.does
                        go_simp
                        try exact ⟨rfl, rfl⟩
                      refine ag.walk_val (by rfl) (fun W1 hS hE => ?_) ?_
                      rotate_left; simp only [Act.put, List.setIfInBounds_toArray, List.set_cons_zero, List.set_cons_succ]; rotate_left
                      · obtain ⟨k0, k1, k2, k3⟩ := HKC.out W1 (HX2.out.trans (hS.mono HX2.out.size))
                        clear hS hE
                        unfold ag.does
                        go_simp
                        try exact ⟨rfl, rfl⟩
                      refine ag.walk_val (by rfl) (fun W1 hS hE => ?_) ?_
                      rotate_left; simp only [Act.put, List.setIfInBounds_toArray, List.set_cons_zero, List.set_cons_succ]; rotate_left
                      · clear hS hE
                        unfold ag.does
                        go_simp
                        try exact ⟨rfl, rfl⟩
                      refine ag.walk_val (by rfl) (fun W1 hS hE => ?_) ?_
                      rotate_left; simp only [Act.put, List.setIfInBounds_toArray, List.set_cons_zero, List.set_cons_succ]; rotate_left
                      · clear hS hE
                        unfold ag.does
                        go_simp
                        try exact ⟨rfl, rfl⟩
                      refine ag.walk_val (by rfl) (fun W1 hS hE => ?_) ?_
                      rotate_left; simp only [Act.put, List.setIfInBounds_toArray, List.set_cons_zero, List.set_cons_succ]; rotate_left
                      · clear hS hE
                        unfold ag.does
                        go_simp
                        try exact ⟨rfl, rfl⟩
                      refine ag.walk_val (by rfl) (fun W1 hS hE => ?_) ?_
                      rotate_left; simp only [Act.put, List.setIfInBounds_toArray, List.set_cons_zero, List.set_cons_succ]; rotate_left
                      · obtain ⟨k0, k1, k2, k3⟩ := HKC.out W1 (HX2.out.trans (hS.mono HX2.out.size))
                        clear hS hE
                        unfold ag.does
                        go_simp
                        try exact ⟨rfl, rfl⟩
                      refine ag.walk_sat (by rfl) (fun W1 hS hE => ?_) (fun y2 => ?_)
                      rotate_left; simp only [Act.put, List.setIfInBounds_toArray, List.set_cons_zero, List.set_cons_succ]; rotate_left
                      · have hc := HC2.out W1 (HX2.out.trans (hS.mono HX2.out.size))
                        clear hS hE
                        unfold ag.does
                        go_simp
                        refine (hc).mono ?_
                        rintro e W2 ⟨rfl, hb⟩
                        exact ⟨_, rfl, rfl, hb.1, ag.News.none (fun _ _ => trivial) _ _⟩
                      refine ag.walk_val (by rfl) (fun W1 hS hE => ?_) ?_
                      rotate_left; simp only [Act.put, List.setIfInBounds_toArray, List.set_cons_zero, List.set_cons_succ]; rotate_left
                      · clear hS hE
                        unfold ag.does
                        go_simp
                        try exact ⟨rfl, rfl⟩
                      refine ag.walk_val (by rfl) (fun W1 hS hE => ?_) ?_
                      rotate_left; simp only [Act.put, List.setIfInBounds_toArray, List.set_cons_zero, List.set_cons_succ]; rotate_left
                      · clear hS hE
                        unfold ag.does
                        go_simp
                        first | exact ⟨rfl, rfl⟩ | rfl | decide | go_num
                      refine ag.walk_val (by rfl) (fun W1 hS hE => ?_) ?_
                      rotate_left; simp only [Act.put, List.setIfInBounds_toArray, List.set_cons_zero, List.set_cons_succ]; rotate_left
                      · have hy2 : y2 = .int .i64 (1) := hE.get (by kernel_rfl)
                        subst hy2
                        clear hS hE
                        unfold ag.does
                        go_simp
                        try exact ⟨rfl, rfl⟩
                      refine ag.walk_val (by rfl) (fun W1 hS hE => ?_) ?_
                      rotate_left; simp only [Act.put, List.setIfInBounds_toArray, List.set_cons_zero, List.set_cons_succ]; rotate_left
                      · clear hS hE
                        unfold ag.does
                        go_simp
                        try exact ⟨rfl, rfl⟩
                      refine ag.walk_nil (fun wC hS hF' hP => ?_)
                      clear hF' hP
                      have HS := Lib.hid hS
                      clear hS
                      have HX3 := Lib.hid (HX2.out.trans (HS.out.mono HX2.out.size))
                      clear HS
                      go_wp2_with fail
                      go_roundw
                      case rel => exact ⟨q + 1, by go_num, by omega, HX3⟩
                      case measure => simp [intOf]; omega
              · have hC0 : C = 1 := by rw [← hC]; rfl
                have hC1 : C2 = -1 := by rw [← hC2]; rfl
                subst hC0
                subst hC1
                clear hC hC2
                go_wp2_with fail
                refine ag.region_ag (fun W1 => Below wr.heap.size wr W1) (fun _ _ _ _ => True)
                  [.val (.slice (some ⟨gB, 0, none⟩) (k + 1) c4), .val (.int .i64 (k : Int)), .val (.pointer (some ⟨gB, k, none⟩)), .val ((.slice a7 l.length c7)), .val (.slice (some ⟨gB, 0, none⟩) (k + 1) c4), .val (.int .i64 (q : Int)), .val (.pointer (some ⟨gB, q, none⟩)), .val ((.slice a8 Lq.length c8)), .sat (fun v _ => v = .bool true) (fun _ w w' => Below w.heap.size w w')]
                  (by kernel_rfl) (by kernel_rfl) rfl (⟨rfl, rfl, rfl, Nat.le_refl _, fun _ _ => rfl⟩) ?hsta4 ?hka4 ?hwalka4
                case hsta4 =>
                  simp only [ag.Stab, ag.Row2, ag.Ok2, and_true]
                  repeat' apply And.intro
                  all_goals first
                    | exact fun h => absurd rfl h
                    | exact fun _ _ f v W W' hS hv _ ht => hv
                    | trivial
                case hka4 =>
                  simp only [ag.Keeps, and_true]
                  exact fun f W1 W2 hS _ ht => hS.trans (ht.mono hS.size)
                case hwalka4 =>
                  refine ag.walk_val (by rfl) (fun W1 hS hE => ?_) ?_
                  rotate_left; simp only [Act.put, List.setIfInBounds_toArray, List.set_cons_zero, List.set_cons_succ]; rotate_left
                  · clear hS hE
                    unfold ag.does
                    go_simp
                    try exact ⟨rfl, rfl⟩
                  refine ag.walk_val (by rfl) (fun W1 hS hE => ?_) ?_
                  rotate_left; simp only [Act.put, List.setIfInBounds_toArray, List.set_cons_zero, List.set_cons_succ]; rotate_left
                  · clear hS hE
                    unfold ag.does
                    go_simp
                    try exact ⟨rfl, rfl⟩
                  refine ag.walk_val (by rfl) (fun W1 hS hE => ?_) ?_
                  rotate_left; simp only [Act.put, List.setIfInBounds_toArray, List.set_cons_zero, List.set_cons_succ]; rotate_left
                  · clear hS hE
                    unfold ag.does
                    go_simp
                    try exact ⟨rfl, rfl⟩
                  refine ag.walk_val (by rfl) (fun W1 hS hE => ?_) ?_
                  rotate_left; simp only [Act.put, List.setIfInBounds_toArray, List.set_cons_zero, List.set_cons_succ]; rotate_left
                  · obtain ⟨k0, k1, k2, k3⟩ := HKC.out W1 (HX0.out.trans (hS.mono HX0.out.size))
                    clear hS hE
                    unfold ag.does
                    go_simp
                    try exact ⟨rfl, rfl⟩
                  refine ag.walk_val (by rfl) (fun W1 hS hE => ?_) ?_
                  rotate_left; simp only [Act.put, List.setIfInBounds_toArray, List.set_cons_zero, List.set_cons_succ]; rotate_left
                  · clear hS hE
                    unfold ag.does
                    go_simp
                    try exact ⟨rfl, rfl⟩
                  refine ag.walk_val (by rfl) (fun W1 hS hE => ?_) ?_
                  rotate_left; simp only [Act.put, List.setIfInBounds_toArray, List.set_cons_zero, List.set_cons_succ]; rotate_left
                  · clear hS hE
                    unfold ag.does
                    go_simp
                    try exact ⟨rfl, rfl⟩
                  refine ag.walk_val (by rfl) (fun W1 hS hE => ?_) ?_
                  rotate_left; simp only [Act.put, List.setIfInBounds_toArray, List.set_cons_zero, List.set_cons_succ]; rotate_left
                  · clear hS hE
                    unfold ag.does
                    go_simp
                    try exact ⟨rfl, rfl⟩
                  refine ag.walk_val (by rfl) (fun W1 hS hE => ?_) ?_
                  rotate_left; simp only [Act.put, List.setIfInBounds_toArray, List.set_cons_zero, List.set_cons_succ]; rotate_left
                  · obtain ⟨k0, k1, k2, k3⟩ := HKC.out W1 (HX0.out.trans (hS.mono HX0.out.size))
                    clear hS hE
                    unfold ag.does
                    go_simp
                    try exact ⟨rfl, rfl⟩
                  refine ag.walk_sat (by rfl) (fun W1 hS hE => ?_) (fun y1 => ?_)
                  rotate_left; simp only [Act.put, List.setIfInBounds_toArray, List.set_cons_zero, List.set_cons_succ]; rotate_left
                  · have hc := HF1.out W1 (HX0.out.trans (hS.mono HX0.out.size))
                    clear hS hE
                    unfold ag.does
                    go_simp
                    refine (hc).mono ?_
                    rintro e W2 ⟨rfl, hb⟩
                    exact ⟨_, rfl, rfl, hb, ag.News.none (fun _ _ => trivial) _ _⟩
                  refine ag.walk_nil (fun wA hS hF' hP => ?_)
                  have hq1 : y1 = .bool true := hF'.1
                  subst hq1
                  clear hF' hP
                  have HS := Lib.hid hS
                  clear hS
                  have HX1 := Lib.hid (HX0.out.trans (HS.out.mono HX0.out.size))
                  clear HS
                  go_wp2_with fail
                  refine ag.region_ag (fun W1 => Below wA.heap.size wA W1) (fun _ _ _ _ => True)
                    [.val (.slice (some ⟨gB, 0, none⟩) (k + 1) c4), .val (.int .i64 (q : Int)), .val (.pointer (some ⟨gB, q, none⟩)), .val ((.slice a8 Lq.length c8)), .val (.slice (some ⟨gB, 0, none⟩) (k + 1) c4), .val (.int .i64 (k : Int)), .val (.pointer (some ⟨gB, k, none⟩)), .val ((.slice a7 l.length c7)), .sat (fun v _ => v = .bool true) (fun _ w w' => Below w.heap.size w w')]
                    (by kernel_rfl) (by kernel_rfl) rfl (⟨rfl, rfl, rfl, Nat.le_refl _, fun _ _ => rfl⟩) ?hstb4 ?hkb4 ?hwalkb4
                  case hstb4 =>
                    simp only [ag.Stab, ag.Row2, ag.Ok2, and_true]
                    repeat' apply And.intro
                    all_goals first
                      | exact fun h => absurd rfl h
                      | exact fun _ _ f v W W' hS hv _ ht => hv
                      | trivial
                  case hkb4 =>
                    simp only [ag.Keeps, and_true]
                    exact fun f W1 W2 hS _ ht => hS.trans (ht.mono hS.size)
                  case hwalkb4 =>
                    refine ag.walk_val (by rfl) (fun W1 hS hE => ?_) ?_
                    rotate_left; simp only [Act.put, List.setIfInBounds_toArray, List.set_cons_zero, List.set_cons_succ]; rotate_left
                    · clear hS hE
                      unfold ag.does
                      go_simp
                      try exact ⟨rfl, rfl⟩
                    refine ag.walk_val (by rfl) (fun W1 hS hE => ?_) ?_
                    rotate_left; simp only [Act.put, List.setIfInBounds_toArray, List.set_cons_zero, List.set_cons_succ]; rotate_left
                    · clear hS hE
                      unfold ag.does
                      go_simp
                      try exact ⟨rfl, rfl⟩
                    refine ag.walk_val (by rfl) (fun W1 hS hE => ?_) ?_
                    rotate_left; simp only [Act.put, List.setIfInBounds_toArray, List.set_cons_zero, List.set_cons_succ]; rotate_left
                    · clear hS hE
                      unfold ag.does
                      go_simp
                      try exact ⟨rfl, rfl⟩
                    refine ag.walk_val (by rfl) (fun W1 hS hE => ?_) ?_
                    rotate_left; simp only [Act.put, List.setIfInBounds_toArray, List.set_cons_zero, List.set_cons_succ]; rotate_left
                    · obtain ⟨k0, k1, k2, k3⟩ := HKC.out W1 (HX1.out.trans (hS.mono HX1.out.size))
                      clear hS hE
                      unfold ag.does
                      go_simp
                      try exact ⟨rfl, rfl⟩
                    refine ag.walk_val (by rfl) (fun W1 hS hE => ?_) ?_
                    rotate_left; simp only [Act.put, List.setIfInBounds_toArray, List.set_cons_zero, List.set_cons_succ]; rotate_left
                    · clear hS hE
                      unfold ag.does
                      go_simp
                      try exact ⟨rfl, rfl⟩
                    refine ag.walk_val (by rfl) (fun W1 hS hE => ?_) ?_
                    rotate_left; simp only [Act.put, List.setIfInBounds_toArray, List.set_cons_zero, List.set_cons_succ]; rotate_left
                    · clear hS hE
                      unfold ag.does
                      go_simp
                      try exact ⟨rfl, rfl⟩
                    refine ag.walk_val (by rfl) (fun W1 hS hE => ?_) ?_
                    rotate_left; simp only [Act.put, List.setIfInBounds_toArray, List.set_cons_zero, List.set_cons_succ]; rotate_left
                    · clear hS hE
                      unfold ag.does
                      go_simp
                      try exact ⟨rfl, rfl⟩
                    refine ag.walk_val (by rfl) (fun W1 hS hE => ?_) ?_
                    rotate_left; simp only [Act.put, List.setIfInBounds_toArray, List.set_cons_zero, List.set_cons_succ]; rotate_left
                    · obtain ⟨k0, k1, k2, k3⟩ := HKC.out W1 (HX1.out.trans (hS.mono HX1.out.size))
                      clear hS hE
                      unfold ag.does
                      go_simp
                      try exact ⟨rfl, rfl⟩
                    refine ag.walk_sat (by rfl) (fun W1 hS hE => ?_) (fun y1 => ?_)
                    rotate_left; simp only [Act.put, List.setIfInBounds_toArray, List.set_cons_zero, List.set_cons_succ]; rotate_left
                    · have hc := HF2.out W1 (HX1.out.trans (hS.mono HX1.out.size))
                      clear hS hE
                      unfold ag.does
                      go_simp
                      refine (hc).mono ?_
                      rintro e W2 ⟨rfl, hb⟩
                      exact ⟨_, rfl, rfl, hb, ag.News.none (fun _ _ => trivial) _ _⟩
                    refine ag.walk_nil (fun wB hS hF' hP => ?_)
                    have hq1 : y1 = .bool true := hF'.1
                    subst hq1
                    clear hF' hP
                    have HS := Lib.hid hS
                    clear hS
                    have HX2 := Lib.hid (HX1.out.trans (HS.out.mono HX1.out.size))
                    clear HS
                    go_wp2_with fail
                    refine ag.region_ag (fun W1 => Below wB.heap.size wB W1) (fun _ _ _ _ => True)
                      [.val (.slice (some ⟨gA, 0, none⟩) (k + 1) c3), .val (.int .i64 (k : Int)), .val (.pointer (some ⟨gA, k, none⟩)), .val ((.slice a6 l.length c6)), .val (.slice (some ⟨gA, 0, none⟩) (k + 1) c3), .val (.int .i64 (q : Int)), .val (.pointer (some ⟨gA, q, none⟩)), .val ((.slice a9 Lq.length c9)), .sat (fun v _ => v = .int .i64 (1)) (fun _ w w' => Below w.heap.size w w'), .val (.int .i64 (1)), .val (.bool false), .val (.bool false), .val (.slice (some ⟨gA, 0, none⟩) (k + 1) c3), .val (.int .i64 (q : Int)), .val (.pointer (some ⟨gA, q, none⟩)), .val ((.slice a9 Lq.length c9)), .val (.slice (some ⟨gA, 0, none⟩) (k + 1) c3), .val (.int .i64 (k : Int)), .val (.pointer (some ⟨gA, k, none⟩)), .val ((.slice a6 l.length c6)), .sat (fun v _ => v = .int .i64 (-1)) (fun _ w w' => Below w.heap.size w w'), .val (.int .i64 (1)), .val (.int .i64 (-1)), .val (.bool false), .val (.bool false)]
                      (by kernel_rfl) (by kernel_rfl) rfl (⟨rfl, rfl, rfl, Nat.le_refl _, fun _ _ => rfl⟩) ?hstc4 ?hkc4 ?hwalkc4
                    case hstc4 =>
                      simp only [ag.Stab, ag.Row2, ag.Ok2, and_true]
                      repeat' apply And.intro
                      all_goals first
                        | exact fun h => absurd rfl h
                        | exact fun _ _ f v W W' hS hv _ ht => hv
                        | trivial
                    case hkc4 =>
                      simp only [ag.Keeps, and_true]
                      exact ⟨fun f W1 W2 hS _ ht => hS.trans (ht.mono hS.size), fun f W1 W2 hS _ ht => hS.trans (ht.mono hS.size)⟩
                    case hwalkc4 =>
                      refine ag.walk_val (by rfl) (fun W1 hS hE => ?_) ?_
                      rotate_left; simp only [Act.put, List.setIfInBounds_toArray, List.set_cons_zero, List.set_cons_succ]; rotate_left
                      · clear hS hE
                        unfold ag.does
                        go_simp
                        try exact ⟨rfl, rfl⟩
                      refine ag.walk_val (by rfl) (fun W1 hS hE => ?_) ?_
                      rotate_left; simp only [Act.put, List.setIfInBounds_toArray, List.set_cons_zero, List.set_cons_succ]; rotate_left
                      · clear hS hE
                        unfold ag.does
                        go_simp
                        try exact ⟨rfl, rfl⟩
                      refine ag.walk_val (by rfl) (fun W1 hS hE => ?_) ?_
                      rotate_left; simp only [Act.put, List.setIfInBounds_toArray, List.set_cons_zero, List.set_cons_succ]; rotate_left
                      · clear hS hE
                        unfold ag.does
                        go_simp
                        try exact ⟨rfl, rfl⟩
                      refine ag.walk_val (by rfl) (fun W1 hS hE => ?_) ?_
                      rotate_left; simp only [Act.put, List.setIfInBounds_toArray, List.set_cons_zero, List.set_cons_succ]; rotate_left
                      · obtain ⟨k0, k1, k2, k3⟩ := HKC.out W1 (HX2.out.trans (hS.mono HX2.out.size))
                        clear hS hE
                        unfold ag.does
                        go_simp
                        try exact ⟨rfl, rfl⟩
                      refine ag.walk_val (by rfl) (fun W1 hS hE => ?_) ?_
                      rotate_left; simp only [Act.put, List.setIfInBounds_toArray, List.set_cons_zero, List.set_cons_succ]; rotate_left
                      · clear hS hE
                        unfold ag.does
                        go_simp
                        try exact ⟨rfl, rfl⟩
                      refine ag.walk_val (by rfl) (fun W1 hS hE => ?_) ?_
                      rotate_left; simp only [Act.put, List.setIfInBounds_toArray, List.set_cons_zero, List.set_cons_succ]; rotate_left
                      · clear hS hE
                        unfold ag.does
                        go_simp
                        try exact ⟨rfl, rfl⟩
                      refine ag.walk_val (by rfl) (fun W1 hS hE => ?_) ?_
                      rotate_left; simp only [Act.put, List.setIfInBounds_toArray, List.set_cons_zero, List.set_cons_succ]; rotate_left
                      · clear hS hE
                        unfold ag.does
                        go_simp
                        try exact ⟨rfl, rfl⟩
                      refine ag.walk_val (by rfl) (fun W1 hS hE => ?_) ?_
                      rotate_left; simp only [Act.put, List.setIfInBounds_toArray, List.set_cons_zero, List.set_cons_succ]; rotate_left
                      · obtain ⟨k0, k1, k2, k3⟩ := HKC.out W1 (HX2.out.trans (hS.mono HX2.out.size))
                        clear hS hE
                        unfold ag.does
                        go_simp
                        try exact ⟨rfl, rfl⟩
                      refine ag.walk_sat (by rfl) (fun W1 hS hE => ?_) (fun y1 => ?_)
                      rotate_left; simp only [Act.put, List.setIfInBounds_toArray, List.set_cons_zero, List.set_cons_succ]; rotate_left
                      · have hc := HC1.out W1 (HX2.out.trans (hS.mono HX2.out.size))
                        clear hS hE
                        unfold ag.does
                        go_simp
                        refine (hc).mono ?_
                        rintro e W2 ⟨rfl, hb⟩
                        exact ⟨_, rfl, rfl, hb.1, ag.News.none (fun _ _ => trivial) _ _⟩
                      refine ag.walk_val (by rfl) (fun W1 hS hE => ?_) ?_
                      rotate_left; simp only [Act.put, List.setIfInBounds_toArray, List.set_cons_zero, List.set_cons_succ]; rotate_left
                      · clear hS hE
                        unfold ag.does
                        go_simp
                        try exact ⟨rfl, rfl⟩
                      refine ag.walk_val (by rfl) (fun W1 hS hE => ?_) ?_
                      rotate_left; simp only [Act.put, List.setIfInBounds_toArray, List.set_cons_zero, List.set_cons_succ]; rotate_left
                      · have hy1 : y1 = .int .i64 (1) := hE.get (by kernel_rfl)
                        subst hy1
                        clear hS hE
                        unfold ag.does
                        go_simp
                        try exact ⟨rfl, rfl⟩
                      refine ag.walk_val (by rfl) (fun W1 hS hE => ?_) ?_
                      rotate_left; simp only [Act.put, List.setIfInBounds_toArray, List.set_cons_zero, List.set_cons_succ]; rotate_left
                      · clear hS hE
                        unfold ag.does
                        go_simp
                        try exact ⟨rfl, rfl⟩
                      refine ag.walk_val (by rfl) (fun W1 hS hE => ?_) ?_
                      rotate_left; simp only [Act.put, List.setIfInBounds_toArray, List.set_cons_zero, List.set_cons_succ]; rotate_left
                      · clear hS hE
                        unfold ag.does
                        go_simp
                        try exact ⟨rfl, rfl⟩
                      refine ag.walk_val (by rfl) (fun W1 hS hE => ?_) ?_
                      rotate_left; simp only [Act.put, List.setIfInBounds_toArray, List.set_cons_zero, List.set_cons_succ]; rotate_left
                      · clear hS hE
                        unfold ag.does
                        go_simp
                        try exact ⟨rfl, rfl⟩
                      refine ag.walk_val (by rfl) (fun W1 hS hE => ?_) ?_
                      rotate_left; simp only [Act.put, List.setIfInBounds_toArray, List.set_cons_zero, List.set_cons_succ]; rotate_left
                      · clear hS hE
                        unfold ag.does
                        go_simp
                        try exact ⟨rfl, rfl⟩
                      refine ag.walk_val (by rfl) (fun W1 hS hE => ?_) ?_
                      rotate_left; simp only [Act.put, List.setIfInBounds_toArray, List.set_cons_zero, List.set_cons_succ]; rotate_left
                      · obtain ⟨k0, k1, k2, k3⟩ := HKC.out W1 (HX2.out.trans (hS.mono HX2.out.size))
                        clear hS hE
                        unfold ag.does
                        go_simp
                        try exact ⟨rfl, rfl⟩
                      refine ag.walk_val (by rfl) (fun W1 hS hE => ?_) ?_
                      rotate_left; simp only [Act.put, List.setIfInBounds_toArray, List.set_cons_zero, List.set_cons_succ]; rotate_left
                      · clear hS hE
                        unfold ag.does
                        go_simp
                        try exact ⟨rfl, rfl⟩
                      refine ag.walk_val (by rfl) (fun W1 hS hE => ?_) ?_
                      rotate_left; simp only [Act.put, List.setIfInBounds_toArray, List.set_cons_zero, List.set_cons_succ]; rotate_left
                      · clear hS hE
                        unfold ag.does
                        go_simp
                        try exact ⟨rfl, rfl⟩
                      refine ag.walk_val (by rfl) (fun W1 hS hE => ?_) ?_
                      rotate_left; simp only [Act.put, List.setIfInBounds_toArray, List.set_cons_zero, List.set_cons_succ]; rotate_left
                      · clear hS hE
                        unfold ag.does
                        go_simp
                        try exact ⟨rfl, rfl⟩
                      refine ag.walk_val (by rfl) (fun W1 hS hE => ?_) ?_
                      rotate_left; simp only [Act.put, List.setIfInBounds_toArray, List.set_cons_zero, List.set_cons_succ]; rotate_left
                      · obtain ⟨k0, k1, k2, k3⟩ := HKC.out W1 (HX2.out.trans (hS.mono HX2.out.size))
                        clear hS hE
                        unfold ag.does
                        go_simp
                        try exact ⟨rfl, rfl⟩
                      refine ag.walk_sat (by rfl) (fun W1 hS hE => ?_) (fun y2 => ?_)
                      rotate_left; simp only [Act.put, List.setIfInBounds_toArray, List.set_cons_zero, List.set_cons_succ]; rotate_left
                      · have hc := HC2.out W1 (HX2.out.trans (hS.mono HX2.out.size))
                        clear hS hE
                        unfold ag.does
                        go_simp
                        refine (hc).mono ?_
                        rintro e W2 ⟨rfl, hb⟩
                        exact ⟨_, rfl, rfl, hb.1, ag.News.none (fun _ _ => trivial) _ _⟩
                      refine ag.walk_val (by rfl) (fun W1 hS hE => ?_) ?_
                      rotate_left; simp only [Act.put, List.setIfInBounds_toArray, List.set_cons_zero, List.set_cons_succ]; rotate_left
                      · clear hS hE
                        unfold ag.does
                        go_simp
                        try exact ⟨rfl, rfl⟩
                      refine ag.walk_val (by rfl) (fun W1 hS hE => ?_) ?_
                      rotate_left; simp only [Act.put, List.setIfInBounds_toArray, List.set_cons_zero, List.set_cons_succ]; rotate_left
                      · clear hS hE
                        unfold ag.does
                        go_simp
                        first | exact ⟨rfl, rfl⟩ | rfl | decide | go_num
                      refine ag.walk_val (by rfl) (fun W1 hS hE => ?_) ?_
                      rotate_left; simp only [Act.put, List.setIfInBounds_toArray, List.set_cons_zero, List.set_cons_succ]; rotate_left
                      · have hy2 : y2 = .int .i64 (-1) := hE.get (by kernel_rfl)
                        subst hy2
                        clear hS hE
                        unfold ag.does
                        go_simp
                        try exact ⟨rfl, rfl⟩
                      refine ag.walk_val (by rfl) (fun W1 hS hE => ?_) ?_
                      rotate_left; simp only [Act.put, List.setIfInBounds_toArray, List.set_cons_zero, List.set_cons_succ]; rotate_left
                      · clear hS hE
                        unfold ag.does
                        go_simp
                        try exact ⟨rfl, rfl⟩
                      refine ag.walk_nil (fun wC hS hF' hP => ?_)
                      clear hF' hP
                      have HS := Lib.hid hS
                      clear hS
                      have HX3 := Lib.hid (HX2.out.trans (HS.out.mono HX2.out.size))
                      clear HS
                      go_wp2_with fail
                      go_roundw
                      case rel => exact ⟨q + 1, by go_num, by omega, HX3⟩
                      case measure => simp [intOf]; omega
            · have d3 : ¬ (q : Int) < (k : Int) := by omega
              have HBE := Lib.hid (HB4.out.trans (HX0.out.mono HB4.out.size))
              have HTE := Lib.hid (HT1.out.later HX0.out)
              go_wp2_with fail
              go_roundw
              case rel => exact ⟨k + 1, some ⟨gA, 0, none⟩, some ⟨gB, 0, none⟩, c3, c4, ra', rb', ls', rfl, rfl, by go_num, by omega, by omega, HTE, HBE⟩
              case measure => simp [intOf]; omega
        · have d2 : ¬ (k : Int) < 8 := by omega
          go_wp2_with fail
          go_meet
          exact ⟨k, aA, aB, cA, cB, ra, rb, ls, rfl, rfl, hk8, HT, HB⟩
      · have d1 : ¬ (k : Int) < (vs.length : Int) := by omega
        go_wp2_with fail
        go_meet
        exact ⟨k, aA, aB, cA, cB, ra, rb, ls, rfl, rfl, hk8, HT, HB⟩
end Go.Proofs.YtpkkhbmlclicfaaDoor.val
