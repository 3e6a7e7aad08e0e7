/- The rows of some lists, twice, walked. -/
import Derived.Test.YtpkkhbmlclicfaaBagT
namespace Go.Proofs.Ytpkkhbmlclicfaa.val
set_option linter.unusedVariables false
open Go.RowKit Go.Sort
attribute [local go_sem] ag.upon_value ag.upon_skip ag.upon_enter
attribute [local go_sem] Oper.semAt_some
theorem infoRow' : (Try.prog.info? 49).map (fun i => (i.zero, i.size, i.bytes)) = some (some (.slice none 0 0), 1, 24) := by kernel_rfl
theorem infoRow7' : (Try.prog.info? 35).map (fun i => (i.zero, i.size, i.bytes)) = some (some (.slice none 0 0), 1, 24) := by kernel_rfl
theorem owns_nilcap {T : TypeId} {B n : Nat} {W : World} {u : Value} {xs : List Value} (h : W.ownsRow B T 3 u n xs) : ∀ m c, u = .slice none m c → c = 0 := by
  intro m c e
  subst e
  rcases h.2 with ⟨e, -⟩ | ⟨g, cap, cur, e, _⟩
  · simp only [Value.slice.injEq] at e; exact e.2.2
  · simp only [Value.slice.injEq] at e; cases e.1
/-- lists of plain values that came in -/
def Ins (W : World) (vs : List Value) (xss : List (List Pl)) : Prop := vs.length = xss.length ∧ ∀ (j : Nat) u x, vs[j]? = some u → xss[j]? = some x → Row W u 3 x.length (pCells x) ∧ (∀ y ∈ x, PB y) ∧ x.length ≤ 9223372036854775807
/-- rows, twice: as the program has them and as the document has them -/
def TT (B : Nat) (ka : Nat) (sa : Value) (ra : List Value) (kb : Nat) (sb : Value) (rb : List Value) (la lb : List (List V)) (W : World) : Prop :=
  W.ownsRow B 49 1 sa ka ra ∧ W.ownsRow B 35 1 sb kb rb ∧ RwT TV B W ra la ∧ RwT TR B W rb lb
theorem TT.later {B ka kb : Nat} {sa sb : Value} {ra rb : List Value} {la lb : List (List V)} {W W' : World} (h : TT B ka sa ra kb sb rb la lb W) (hb : Below W.heap.size W W') : TT B ka sa ra kb sb rb la lb W' :=
  ⟨owns_below h.1 hb, owns_below h.2.1 hb, h.2.2.1.later hb, h.2.2.2.later hb⟩
theorem TT.appA {B ka kb : Nat} {sa sb sa' u : Value} {ra rb : List Value} {la lb : List (List V)} {l : List V} {W W' : World} (h : TT B ka sa ra kb sb rb la lb W) (hu : W.ownsRow B TV 3 u l.length (vCells l)) (hg : W.grownBy W' sa.ownBlock) (ho : W'.ownsRow B 49 1 sa' (ka + 1) (ra ++ [u])) : TT B (ka + 1) sa' (ra ++ [u]) kb sb rb (la ++ [l]) lb W' :=
  ⟨ho, h.2.1.kept hg (owns_ne_owns h.2.1 h.1 (by decide)), (h.2.2.1.grown hg (h.2.2.1.apart h.1 (by decide))).snoc (hu.kept hg (owns_ne_owns hu h.1 (by decide))), h.2.2.2.grown hg (h.2.2.2.apart h.1 (by decide))⟩
theorem TT.appB {B ka kb : Nat} {sa sb sb' u : Value} {ra rb : List Value} {la lb : List (List V)} {l : List V} {W W' : World} (h : TT B ka sa ra kb sb rb la lb W) (hu : W.ownsRow B TR 3 u l.length (vCells l)) (hg : W.grownBy W' sb.ownBlock) (ho : W'.ownsRow B 35 1 sb' (kb + 1) (rb ++ [u])) : TT B ka sa ra (kb + 1) sb' (rb ++ [u]) la (lb ++ [l]) W' :=
  ⟨h.1.kept hg (owns_ne_owns h.1 h.2.1 (by decide)), ho, h.2.2.1.grown hg (h.2.2.1.apart h.2.1 (by decide)), (h.2.2.2.grown hg (h.2.2.2.apart h.2.1 (by decide))).snoc (hu.kept hg (owns_ne_owns hu h.2.1 (by decide)))⟩
/-- what has been told: so many rows, twice -/
def Told (B : Nat) (k : Nat) (sa sb : Value) (ra rb : List Value) (ls : List (List V)) (W : World) : Prop :=
  ls.length = k ∧ (∀ l ∈ ls, Goods l ∧ l.length ≤ 4) ∧ ra.length = k ∧ rb.length = k ∧ TT B k sa ra k sb rb ls ls W
theorem Told.later {B k : Nat} {sa sb : Value} {ra rb : List Value} {ls : List (List V)} {W W' : World} (h : Told B k sa sb ra rb ls W) (hb : Below W.heap.size W W') : Told B k sa sb ra rb ls W' :=
  ⟨h.1, h.2.1, h.2.2.1, h.2.2.2.1, h.2.2.2.2.later hb⟩
set_option maxRecDepth 100000 in
set_option maxHeartbeats 4000000 in
theorem rows8_any (v : Value) (vs : List Value) (xss : List (List Pl)) (hn : vs.length ≤ 9223372036854775807) (W : World) (hv : Row W v 1 vs.length vs) (hi : Ins W vs xss) :
    Calls Try.prog 7 #[v] W fun e w' => ∃ sa sb, e = .returned (.tuple #[sa, sb]) ∧ ∃ ra rb ls, Hid (Told W.heap.size ls.length sa sb ra rb ls w') ∧ ls.length ≤ 12 ∧ Below W.heap.size W w' := by
  obtain ⟨i0, hi0, hz0, hz1, hz2⟩ := info_parts infoRow'
  obtain ⟨j0, hj, hy0, hy1, hy2⟩ := info_parts infoRow7'
  have HV := Lib.hid hv
  have HI := Lib.hid hi
  obtain ⟨a, cap, rfl, -⟩ := hv
  have hn0 : (0 : Int) ≤ (vs.length : Int) := by omega
  have hn1 : (vs.length : Int) ≤ 9223372036854775807 := by omega
  clear hi
  go_enter Try.func7, Try.ntmps7
  go_wp2_with fail
  go_loopw [4, 5, 6] (fun sa sb i wr => ∃ (k : Nat) (aA aB : Option Addr) (cA cB : Nat) (ra rb : List Value) (ls : List (List V)), sa = .slice aA k cA ∧ sb = .slice aB k cB ∧ i = .int .i64 (k : Int) ∧ k ≤ vs.length ∧ k ≤ 12 ∧ Hid (Told W.heap.size k sa sb ra rb ls wr) ∧ Hid (Below W.heap.size W wr)) (fun _ _ i _ => 12 - (intOf i).toNat)
  case atStart => exact ⟨0, none, none, 0, 0, [], [], [], rfl, rfl, rfl, by omega, by omega, Lib.hid ⟨rfl, by simp, rfl, rfl, ⟨World.ownsRow_nil _ _ _ _, World.ownsRow_nil _ _ _ _, RwT.nil _ _ _, RwT.nil _ _ _⟩⟩, Lib.hid (Below.refl _ _)⟩
  case round =>
      obtain ⟨wo, rfl⟩ : ∃ wo : World, wo = wr := ⟨_, rfl⟩
      obtain ⟨k, aA, aB, cA, cB, ra, rb, ls, rfl, rfl, rfl, hk, hk8, HT, HB⟩ := hrel
      have hd0 : (0 : Int) ≤ (k : Int) := by omega
      by_cases h1 : k < vs.length
      · have d1 : (k : Int) < (vs.length : Int) := by omega
        by_cases h2 : k < 12
        · have d2 : (k : Int) < 12 := by omega
          obtain ⟨b, off, cap', ea, g0⟩ := row_at (HV.out.later HB.out) k h1
          simp only [Value.slice.injEq] at ea
          obtain ⟨rfl, -, rfl⟩ := ea
          have hkx : k < xss.length := by rw [← HI.out.1]; exact h1
          obtain ⟨ho1, ho2, ho3⟩ := HI.out.2 k _ _ (List.getElem?_eq_getElem h1) (List.getElem?_eq_getElem hkx)
          have HTD := Lib.hid (told8_any vs[k] xss[k] ho3 ho2 wo (ho1.later HB.out))
          generalize vs[k] = U at *
          clear ho1 ho2 ho3 hkx
          have hb0 := HB.out.size
          go_upto_region 7 with (go_at_call 24; (with_reducible refine (HTD.out).mono ?_); rintro e w2 ⟨va, vb, l, rfl, hl4, hgl, hoa, hob, hb2⟩; obtain ⟨a6, c6, rfl⟩ := owns_shape hoa; obtain ⟨a7, c7, rfl⟩ := owns_shape hob; have HOA := Lib.hid hoa; have HOB := Lib.hid hob; have HGL := Lib.hid hgl; have HB2 := Lib.hid hb2; clear hoa hob hgl hb2)
          have hb02 : W.heap.size ≤ w2.heap.size := Nat.le_trans hb0 HB2.out.size
          have HBW := Lib.hid (HB.out.trans (HB2.out.mono hb0))
          have HT2 := Lib.hid (HT.out.2.2.2.2.later HB2.out)
          have HUA := Lib.hid (owns_base HOA.out (fun g hg => Nat.le_trans hb0 (HOA.out.lt g hg).1))
          have HUB := Lib.hid (owns_base HOB.out (fun g hg => Nat.le_trans hb0 (HOB.out.lt g hg).1))
          have HRA := Lib.hid (Row.of_owns HOA.out)
          have HRB := Lib.hid (Row.of_owns HOB.out)
          have H63 : Hid (k + 1 ≤ maxLen) := Lib.hid (by unfold maxLen; omega)
          have H64 : Hid ((k + 1) * 24 ≤ 140737488355328) := Lib.hid (by omega)
          clear HOA HOB
          have HN3 := Lib.hid (fun (v3 : Value) (w3 : World) (hown3 : w3.ownsRow W.heap.size 49 1 v3 (k + 1) (ra ++ [.slice a6 l.length c6])) (hgrow3 : (w2.alloc (.cells #[.slice a6 l.length c6] 49)).grownBy w3 (Value.slice aA k cA).ownBlock) => by
            have hb := below_alloc1 w2 (.cells #[.slice a6 l.length c6] 49)
            have hT := HT2.out.later hb
            have hA := owns_below HUA.out hb
            have hB := owns_below HUB.out hb
            have hBW := HBW.out.alloc hb02 (.cells #[.slice a6 l.length c6] 49)
            exact (⟨hT.appA hA hgrow3 hown3, hB.kept hgrow3 (owns_ne_owns hB hT.1 (by decide)), hBW.grown hgrow3 hBW.size (fun j hj => (hT.1.lt j hj).1)⟩ : TT W.heap.size (k + 1) v3 (ra ++ [.slice a6 l.length c6]) k (.slice aB k cB) rb (ls ++ [l]) ls w3 ∧ w3.ownsRow W.heap.size TR 3 (.slice a7 l.length c7) l.length (vCells l) ∧ Below W.heap.size W w3))
          have HN4 := Lib.hid (fun (v3 : Value) (w3 : World) (h3 : TT W.heap.size (k + 1) v3 (ra ++ [.slice a6 l.length c6]) k (.slice aB k cB) rb (ls ++ [l]) ls w3 ∧ w3.ownsRow W.heap.size TR 3 (.slice a7 l.length c7) l.length (vCells l) ∧ Below W.heap.size W w3) (v4 : Value) (w4 : World) (hown4 : w4.ownsRow W.heap.size 35 1 v4 (k + 1) (rb ++ [.slice a7 l.length c7])) (hgrow4 : (w3.alloc (.cells #[.slice a7 l.length c7] 35)).grownBy w4 (Value.slice aB k cB).ownBlock) => by
            have hb := below_alloc1 w3 (.cells #[.slice a7 l.length c7] 35)
            have hT := h3.1.later hb
            have hB := owns_below h3.2.1 hb
            have hBW := h3.2.2.alloc h3.2.2.size (.cells #[.slice a7 l.length c7] 35)
            exact (⟨hT.appB hB hgrow4 hown4, hBW.grown hgrow4 hBW.size (fun j hj => (hT.2.1.lt j hj).1)⟩ : TT W.heap.size (k + 1) v3 (ra ++ [.slice a6 l.length c6]) (k + 1) v4 (rb ++ [.slice a7 l.length c7]) (ls ++ [l]) (ls ++ [l]) w4 ∧ Below W.heap.size W w4))
          have hb03 : W.heap.size ≤ (w2.alloc (.cells #[.slice a6 l.length c6] 49)).heap.size := by simp only [World.size_alloc]; omega
          have HOA2 := Lib.hid (HT2.out.1.alloc (.cells #[.slice a6 l.length c6] 49))
          have HONE : Hid (∀ (a : Option Addr) (n c : Nat), ∀ u ∈ [Value.slice a n c], u.oneCell' = true) := Lib.hid (fun a n c u hu => by rw [List.mem_singleton.1 hu]; rfl)
          clear HTD
          go_wp2_with (first | (at_builtin; refine wpList_append_own _ rfl (.tmp 27) (.tmp 29) 24 rfl W.heap.size 49 i0 (.slice none 0 0) 1 24 Try.underlying24 hi0 hz0 hz1 hz2 rfl (by decide) _ _ _ rfl HOA2.out ⟨w2.heap.size, 0, none⟩ 1 1 [.slice a6 l.length c6] rfl rfl (cell_one_new _ _ _) (HONE.out _ _ _) H63.out H64.out hb03 ?_; intro v3 w3 hown3 hgrow3 _; have H3 := Lib.hid (HN3.out _ _ hown3 hgrow3); obtain ⟨a3, c3, rfl⟩ := owns_shape hown3; clear hown3 hgrow3; have hb04 : W.heap.size ≤ (w3.alloc (.cells #[.slice a7 l.length c7] 35)).heap.size := (H3.out.2.2.alloc H3.out.2.2.size (.cells #[.slice a7 l.length c7] 35)).size; have HOB3 := Lib.hid (H3.out.1.2.1.alloc (.cells #[.slice a7 l.length c7] 35))) | (at_builtin; refine wpList_append_own _ rfl (.tmp 31) (.tmp 33) 25 rfl W.heap.size 35 j0 (.slice none 0 0) 1 24 Try.underlying25 hj hy0 hy1 hy2 rfl (by decide) _ _ _ rfl HOB3.out ⟨w3.heap.size, 0, none⟩ 1 1 [.slice a7 l.length c7] rfl rfl (cell_one_new _ _ _) (HONE.out _ _ _) H63.out H64.out hb04 ?_; intro v4 w4 hown4 hgrow4 _; have H4 := Lib.hid (HN4.out _ _ H3.out _ _ hown4 hgrow4); obtain ⟨a4, c4, rfl⟩ := owns_shape hown4; clear hown4 hgrow4))
          have hTT := H4.out.1
          have HB4 := Lib.hid H4.out.2
          have hra := HT.out.2.2.1
          have hrb := HT.out.2.2.2.1
          have hls := HT.out.1
          have HGD := Lib.hid HT.out.2.1
          obtain ⟨ra', hra'⟩ : ∃ ra', ra ++ [Value.slice a6 l.length c6] = ra' := ⟨_, rfl⟩
          obtain ⟨rb', hrb'⟩ : ∃ rb', rb ++ [Value.slice a7 l.length c7] = rb' := ⟨_, rfl⟩
          obtain ⟨ls', hls'⟩ : ∃ ls', ls ++ [l] = ls' := ⟨_, rfl⟩
          rw [hra', hrb', hls'] at hTT
          have hT1 : Told W.heap.size (k + 1) (.slice a3 (k + 1) c3) (.slice a4 (k + 1) c4) ra' rb' ls' w4 := ⟨by rw [← hls', List.length_append, hls]; rfl, fun x hx => by
            rw [← hls'] at hx
            rcases List.mem_append.1 hx with hx | hx
            · exact HGD.out x hx
            · rw [List.mem_singleton.1 hx]; exact ⟨HGL.out, hl4⟩, by rw [← hra', List.length_append, hra]; rfl, by rw [← hrb', List.length_append, hrb]; rfl, hTT⟩
          have HT1 := Lib.hid hT1
          clear hTT hra hrb hls hra' hrb' hls' hT1 HN3 HN4 H3 H4 HT HT2 HUA HUB HRA HRB H63 H64 HOA2 HONE hb03
          go_roundw
          case rel => exact ⟨k + 1, a3, a4, c3, c4, ra', rb', ls', rfl, rfl, by go_num, by omega, by omega, HT1, HB4⟩
          case measure => simp [intOf]; omega
        · have d2 : ¬ (k : Int) < 12 := by omega
          go_wp2_with fail
          go_ret2
          have hl := HT.out.1
          exact ⟨_, _, rfl, ra, rb, ls, by rw [hl]; exact HT, by rw [hl]; exact hk8, HB.out⟩
      · have d1 : ¬ (k : Int) < (vs.length : Int) := by omega
        go_wp2_with fail
        go_ret2
        have hl := HT.out.1
        exact ⟨_, _, rfl, ra, rb, ls, by rw [hl]; exact HT, by rw [hl]; exact hk8, HB.out⟩
end Go.Proofs.Ytpkkhbmlclicfaa.val
