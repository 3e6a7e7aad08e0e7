/- All parts of an expression, told one by one: the function that tells them. -/
import Derived.Test.YtjnlimahcodomaaExprEG
import Derived.Test.YtjnlimahcodomaaRngX
import Derived.Stop.RegionWithIn
import Derived.BigRegionIn
namespace Go.Proofs.Ytjnlimahcodomaa.ex
set_option linter.unusedVariables false
open Go.RowKit
open val (V null veq6)
set_option maxRecDepth 100000 in
set_option maxHeartbeats 400000 in
theorem all_any (r : Er) (a : Option Addr) (n c : Nat) (hlv : r.lv = .slice a n c) (w : World) : Calls Try.prog 27 #[r.val] w fun e w' => e = .returned (.func (.func 44) #[] #[.pointer (some ⟨w.heap.size, 0, none⟩)]) ∧ w' = w.alloc (.cells r.cells.toArray TE) := by
  obtain ⟨rk, rop, rv, rtb, rnm, rlv⟩ := r
  dsimp only at hlv
  subst hlv
  unfold Er.val Er.cells
  dsimp only
  go_enter Try.func27, Try.ntmps27
  go_wp2_with fail
  go_ret
  exact ⟨rfl, rfl⟩
/-- in the wide fence the depth says nothing -/
theorem round_wide {n m : Nat} {P : Program} {l : Nat} {f : FuncId} {tmps : Array Value} {assign body : Code} {w : World} {R : Ending → World → Prop} (h : RoundIn Fence.wide n P l f tmps assign body w R) : RoundIn Fence.wide m P l f tmps assign body w R := ⟨h.1, fun c cs _ => h.2 c cs (room_wide _)⟩
theorem yield_wide {n m : Nat} {P : Program} {l : Nat} {args : Array Value} {w : World} {R : Ending → World → Prop} (h : YieldAt Fence.wide n P l args w R) : YieldAt Fence.wide m P l args w R := by
  obtain ⟨fn, tmps, assign, body, h1, h2⟩ := h
  exact ⟨fn, tmps, assign, body, h1, round_wide h2⟩
/-- a tree stays while a loop's body turns other blocks -/
theorem ExAt.onlyX {T : TypeId} {X P : Nat → Prop} {B : Nat} {W W' : World} (hX : ∀ b, X b → ¬ P b) (ho : OnlyX B P W W') : ∀ {d : Nat} {e : Ex} {r : Er}, ExAt T X d W e r → ExAt T X d W' e r
  | 0, _, _, h => h.elim
  | d + 1, e, r, ⟨h1, h2, h3, h4, h5, h6, us, h7, h8, h9⟩ =>
    ⟨h1, h2, h3, h4, h5, h6, us, h7, owns_onlyX h8 ho (fun g hg => hX g (h6 g hg)), fun i x u hx hu => (h9 i x u hx hu).onlyX hX ho⟩
end Go.Proofs.Ytjnlimahcodomaa.ex
/- All parts of an expression, told one by one: the walk through the tree. -/
namespace Go.Proofs.Ytjnlimahcodomaa.ex
set_option linter.unusedVariables false
open Go.RowKit
open val (V null veq6)
/-- what is yielded: a part, as it lies in memory -/
def PartA (X : Nat → Prop) (d0 : Nat) (ps : List Ex) (k : Nat) (W : World) (xs : Array Value) : Prop := ∃ x s, ps[k]? = some x ∧ xs = #[Er.val s] ∧ ExAt TE X d0 W x s
theorem yield_bb {e : Ending} {A B : Prop} (h : (e = .returned (.bool true) ∧ A) ∨ (e = .returned (.bool false) ∧ B)) : ∃ bb, e = .returned (.bool bb) ∧ ((bb = true ∧ A) ∨ (bb = false ∧ B)) := by
  rcases h with ⟨rfl, h⟩ | ⟨rfl, h⟩
  · exact ⟨true, rfl, .inl ⟨rfl, h⟩⟩
  · exact ⟨false, rfl, .inr ⟨rfl, h⟩⟩
theorem partsL_at {l : List Ex} {j i : Nat} {x y : Ex} (hx : l[j]? = some x) (hy : x.parts[i]? = some y) : (partsL l)[(partsL (l.take j)).length + i]? = some y := by
  induction l generalizing j with
  | nil => simp at hx
  | cons a l ih =>
    cases j with
    | zero =>
      simp only [List.getElem?_cons_zero, Option.some.injEq] at hx
      subst hx
      have hi := (List.getElem?_eq_some_iff.1 hy).1
      simp only [List.take_zero, partsL, List.length_nil, Nat.zero_add]
      rw [List.getElem?_append_left hi]; exact hy
    | succ j =>
      have := ih (by simpa using hx)
      simp only [List.take_succ_cons, partsL, List.length_append]
      rw [List.getElem?_append_right (by omega), ← this]
      congr 1; omega
theorem Flds.onlyX {B : Nat} {P : Nat → Prop} {W W' : World} {b : Nat} {T : TypeId} {fs : List Value} (h : Flds W b T fs) (ho : OnlyX B P W W') (hn : ¬ P b) : Flds W' b T fs := ho.cells b _ h rfl hn
/-- the walk goes on, or it stopped -/
def VPost (w : World) (P : Nat → Prop) (N k : Nat) (J Jx : Nat → World → Prop) (W : World) (en : Ending) (W' : World) : Prop := ∃ bb, en = .returned (.bool bb) ∧ ((bb = true ∧ J k W' ∧ OnlyX w.heap.size P W W') ∨ (bb = false ∧ ∃ k', k' ≤ N ∧ Jx k' W'))
set_option maxRecDepth 100000 in
set_option maxHeartbeats 4000000 in
theorem visit_in : ∀ (d : Nat), d ≤ 1000 → ∀ (d0 n l k0 S : Nat) (X P : Nat → Prop) (ps : List Ex) (e : Ex) (r : Er) (w W : World) (J Jx : Nat → World → Prop), d ≤ d0 → ExAt TE X d w e r → (∀ b, X b → ¬ P b) → (∀ b, P b → b < w.heap.size) → OnlyX w.heap.size P w W → S ≤ W.heap.size → AbidesFrom S J →
    (∀ i x, e.parts[i]? = some x → ps[k0 + i]? = some x) → e.slim →
    (∀ k W1 xs, k < ps.length → J k W1 → PartA X d0 ps k W1 xs → YieldAt Fence.wide 0 Try.prog l xs W1 fun en W' =>
      (en = .returned (.bool true) ∧ J (k + 1) W' ∧ OnlyX w.heap.size P W1 W') ∨ (en = .returned (.bool false) ∧ Jx (k + 1) W')) → J k0 W →
    CallsIn Fence.wide n Try.prog 45 #[r.val, .func (.yield l) #[] #[]] W (VPost w P ps.length (k0 + e.parts.length) J Jx W)
  | 0, _, _, _, _, _, _, _, _, _, _, _, _, _, _, _, _, h, _, _, _, _, _, _, _, _, _ => h.elim
  | d + 1, hd, d0, n, l, k0, S, X, P, ps, e, r, w, W, J, Jx, hd0, h, hXP, hP, hW, hS, hJ, hps, hslim, hY, hJ0 => by
    have IH := Lib.hid (fun (k1 : Nat) (e1 : Ex) (r1 : Er) (W1 : World) (h1 : ExAt TE X d w e1 r1) (hW1 : OnlyX w.heap.size P w W1) (hS1 : S ≤ W1.heap.size) (hp1 : ∀ i x, e1.parts[i]? = some x → ps[k1 + i]? = some x) (hs1 : e1.slim) (hJ1 : J k1 W1) => callsIn_wide.1 (visit_in d (by omega) d0 0 l k1 S X P ps e1 r1 w W1 J Jx (by omega) h1 hXP hP hW1 hS1 hJ hp1 hs1 hY hJ1))
    obtain ⟨hsl1, hsl2⟩ := Ex.slim_parts hslim
    obtain ⟨av, cv, us, hlv, hul, hrow, hch⟩ := h.parts
    have HP0 : Hid (ps[k0]? = some e) := Lib.hid (by have := hps 0 e (by rw [e.parts_eq]; rfl); simpa using this)
    have HPK : Hid (∀ j x, e.l[j]? = some x → ∀ i y, x.parts[i]? = some y → ps[k0 + 1 + (partsL (e.l.take j)).length + i]? = some y) := Lib.hid (fun j x hx i y hy => by
      have h1 := partsL_at hx hy
      have := hps (1 + ((partsL (e.l.take j)).length + i)) y (by rw [e.parts_eq, Nat.add_comm 1, List.getElem?_cons_succ]; exact h1)
      rw [← this]; congr 1; omega)
    obtain ⟨N, hN⟩ : ∃ N, e.l.length = N := ⟨_, rfl⟩
    rw [hN] at hlv hul hrow hsl1
    have HN := Lib.hid hN; have HUL := Lib.hid hul; have HR := Lib.hid hrow; have HC := Lib.hid hch; have HSL := Lib.hid hsl2; have HW := Lib.hid hW
    have HX := Lib.hid hXP; have HPB := Lib.hid hP; have HJ := Lib.hid hJ; have HS := Lib.hid hS
    have HPE : Hid (k0 + e.parts.length = k0 + 1 + (partsL e.l).length) := Lib.hid (by rw [e.parts_eq, List.length_cons]; omega)
    have HXB : Hid (∀ b, (Value.slice av N cv).ownBlock = some b → X b) := Lib.hid (by rw [← hlv]; exact h.2.2.2.2.2.1)
    have hn0 : (0 : Int) ≤ (N : Int) := by omega
    have hn1 : (N : Int) ≤ 1000 := by omega
    obtain ⟨rk, rop, rv, rtb, rnm, rlv⟩ := r
    dsimp only at hlv
    subst hlv
    obtain ⟨W1, hW1⟩ : ∃ W1, W.alloc (.cells #[.int .i64 rk, .int .i64 rop, .int .i64 rv.k, .int .i64 rv.n, .string rv.s, .string rtb, .string rnm, .slice av N cv] TE) = W1 := ⟨_, rfl⟩
    have f1 : Flds W1 W.heap.size TE [.int .i64 rk, .int .i64 rop, .int .i64 rv.k, .int .i64 rv.n, .string rv.s, .string rtb, .string rnm, .slice av N cv] := by rw [← hW1]; exact Flds.new W TE _
    have hb1 : Below W.heap.size W W1 := by rw [← hW1]; exact (Below.refl _ _).alloc (Nat.le_refl _) _
    have hJ1 : J k0 W1 := hJ k0 W W1 none hJ0 (grown_of_below hb1) (fun r h => by cases h)
    have hX1 : OnlyX w.heap.size P w W1 := hW.trans (OnlyX.of_below hb1)
    have hA1 : ExAt TE X (d + 1) W1 e ⟨rk, rop, rv, rtb, rnm, .slice av N cv⟩ := h.onlyX hXP hX1
    have hk0 : k0 < ps.length := (List.getElem?_eq_some_iff.1 HP0.out).1
    have HYY := Lib.hid (hY k0 W1 _ hk0 hJ1 ⟨e, _, HP0.out, rfl, hA1.mono hd0 (fun b _ hb => hb)⟩)
    obtain ⟨fn, tmps, assign, body, hy, hR⟩ := HYY.out
    have HRD := Lib.hid (round_wide (m := n - 1) hR)
    have F1 := Lib.hid f1
    have HOX : Hid (OnlyX w.heap.size P W W1) := Lib.hid (OnlyX.of_below hb1)
    have H1W := Lib.hid hW1; have HX1 := Lib.hid hX1
    clear hW1 f1 hb1 hJ1 hX1 hA1 HYY hR h hul hrow hch hsl2 hW hXP hP hJ hS hJ0 hY hps hslim hN
    unfold Er.val
    dsimp only
    refine callsIn_of_wp Try.func45 rfl trivial ?_ rfl
    simp only [Try.ntmps45, List.size_toArray, List.length_cons, List.length_nil, Nat.reduceAdd, Nat.reduceSub, Array.replicate_succ, Array.replicate_zero, List.push_toArray, List.append_toArray, List.nil_append, List.cons_append]
    unfold Er.val at hy
    dsimp only at hy
    gi_wp2_with fail
    rw [H1W.out, hy]
    have q7 := F1.out.cell 7
    have l7 := F1.out.lt
    simp only [List.getElem?_cons_zero, List.getElem?_cons_succ] at q7
    refine ⟨(fun h => (by cases h)), HRD.out.mono ?_⟩
    rintro en W3 hpp
    obtain ⟨bb, rfl, hbb⟩ := yield_bb hpp
    have HBB := Lib.hid hbb
    clear hbb hpp q7 l7 hy HRD
    cases bb with
    | false =>
      have hJx : Jx (k0 + 1) W3 := by
        rcases HBB.out with ⟨h1, -⟩ | ⟨-, h1⟩
        · cases h1
        · exact h1
      clear HBB
      gi_wp2
      go_ret
      exact ⟨false, rfl, .inr ⟨rfl, _, hk0, hJx⟩⟩
    | true =>
      obtain ⟨hJ3, hO3⟩ : J (k0 + 1) W3 ∧ OnlyX w.heap.size P W1 W3 := by
        rcases HBB.out with ⟨-, h1, h2⟩ | ⟨h1, -⟩
        · exact ⟨h1, h2⟩
        · cases h1
      have HO3 := Lib.hid (HX1.out.trans hO3)
      have HOW := Lib.hid (HOX.out.trans hO3)
      have F3 := Lib.hid (Flds.onlyX F1.out hO3 (fun hp => by have := HPB.out _ hp; have := HW.out.size; omega))
      have q7 := F3.out.cell 7
      have l7 := F3.out.lt
      simp only [List.getElem?_cons_zero, List.getElem?_cons_succ] at q7
      clear HBB hO3
      gi_wp2
      gi_loopw [14] (fun i wr => ∃ j : Nat, i = .int .i64 (j : Int) ∧ j ≤ N ∧ J (k0 + 1 + (partsL (e.l.take j)).length) wr ∧ Hid (OnlyX w.heap.size P W wr)) (fun i _ => N - (intOf i).toNat)
      case atStart => exact ⟨0, rfl, Nat.zero_le _, hJ3, HOW⟩
      case round =>
        obtain ⟨j, rfl, hj, hJw, HWO⟩ := hrel
        have j0 : (0 : Int) ≤ (j : Int) := by omega
        by_cases hjn : j < N
        · have dj : (j : Int) < (N : Int) := by omega
          have hja : j < e.l.length := by have := HN.out; omega
          have hju : j < us.length := by have := HUL.out; omega
          have hx := List.getElem?_eq_getElem hja
          have hu := List.getElem?_eq_getElem hju
          have HXS := Lib.hid (HSL.out _ (List.getElem_mem hja))
          generalize e.l[j] = x at hx HXS
          generalize us[j] = u at hu
          have HXU := Lib.hid (HC.out j x u hx hu)
          have HO0 := Lib.hid (HW.out.trans HWO.out)
          have hrw := owns_onlyX HR.out HO0.out (fun g hg => HX.out g (HXB.out g hg))
          obtain ⟨ga, rfl, hga, c0, c1, c2, c3, c4, c5, c6, c7⟩ := part_cells hrw hjn hu
          obtain ⟨d', rfl⟩ := HXU.out.pos
          obtain ⟨au, cu, us', hul', -⟩ := HXU.out.parts
          obtain ⟨uk, uop, uv, utb, unm, ulv⟩ := u
          dsimp only at hul' c0 c1 c2 c3 c4 c5 c6 c7
          subst hul'
          have hb2 : Below wr.heap.size wr (wr.alloc (.cells #[.int .i64 uk, .int .i64 uop, .int .i64 uv.k, .int .i64 uv.n, .string uv.s, .string utb, .string unm, .slice au x.l.length cu] TE)) := (Below.refl _ _).alloc (Nat.le_refl _) _
          have HB2 : Hid (OnlyX w.heap.size P wr (wr.alloc (.cells #[.int .i64 uk, .int .i64 uop, .int .i64 uv.k, .int .i64 uv.n, .string uv.s, .string utb, .string unm, .slice au x.l.length cu] TE))) := Lib.hid (OnlyX.of_below hb2)
          have hSw : S ≤ wr.heap.size := Nat.le_trans HS.out HWO.out.size
          have hJ2 := HJ.out _ _ _ none hJw (grown_of_below hb2) (fun r h => by cases h)
          have hK : k0 + 1 + (partsL (e.l.take (j + 1))).length = k0 + 1 + (partsL (e.l.take j)).length + x.parts.length := by rw [partsL_take hx, List.length_append]; omega
          have HK := Lib.hid hK
          have HCL := Lib.hid (IH.out (k0 + 1 + (partsL (e.l.take j)).length) x ⟨uk, uop, uv, utb, unm, .slice au x.l.length cu⟩ _ HXU.out (HO0.out.trans HB2.out) (by rw [World.size_alloc]; omega) (HPK.out j x hx) HXS.out hJ2)
          clear hJ2 hb2 hSw hK hx hu hrw hja hju hJw
          unfold Er.val at HCL
          dsimp only at HCL
          gi_wp2_with fail
          refine ⟨trivial, (fun h => (by cases h)), (callsIn_wide.2 HCL.out).mono ?_⟩
          rintro en W5 ⟨bb, rfl, hbb⟩
          have HBB := Lib.hid hbb
          clear hbb HCL c0 c1 c2 c3 c4 c5 c6 c7
          cases bb with
          | false =>
            have hst : ∃ k', k' ≤ ps.length ∧ Jx k' W5 := by
              rcases HBB.out with ⟨h1, -⟩ | ⟨-, h1⟩
              · cases h1
              · exact h1
            clear HBB
            gi_wp2
            go_ret
            exact ⟨false, rfl, .inr ⟨rfl, hst⟩⟩
          | true =>
            obtain ⟨hJ5, hO5⟩ : J (k0 + 1 + (partsL (e.l.take (j + 1))).length) W5 ∧ OnlyX w.heap.size P (wr.alloc (.cells #[.int .i64 uk, .int .i64 uop, .int .i64 uv.k, .int .i64 uv.n, .string uv.s, .string utb, .string unm, .slice au x.l.length cu] TE)) W5 := by
              rcases HBB.out with ⟨-, h1, h2⟩ | ⟨h1, -⟩
              · exact ⟨by rw [HK.out]; exact h1, h2⟩
              · cases h1
            have HO5 := Lib.hid (HWO.out.trans (HB2.out.trans hO5))
            clear HBB hO5
            gi_wp2
            go_roundw
            case rel => exact ⟨j + 1, by go_num, by omega, hJ5, HO5⟩
            case measure => simp [intOf]; omega
        · have dj : ¬ (j : Int) < (N : Int) := by omega
          have hjn' : j = N := by omega
          have hJN : J (k0 + e.parts.length) wr := by
            rw [HPE.out]
            rw [List.take_of_length_le (by have := HN.out; omega)] at hJw
            exact hJw
          gi_wp2
          go_ret
          exact ⟨true, rfl, .inl ⟨rfl, hJN, HWO.out⟩⟩
set_option maxRecDepth 100000 in
set_option maxHeartbeats 4000000 in
theorem all_seq (n : Nat) (g : Nat) {d : Nat} (hd : d ≤ 1000) {X P : Nat → Prop} {e : Ex} {r : Er} {w : World} (h : ExAt TE X d w e r) (hs : e.slim) (hXP : ∀ b, X b → ¬ P b) (hP : ∀ b, P b → b < w.heap.size) (hg : Flds w g TE r.cells) (hgP : ¬ P g) :
    SeqArg Fence.wide n Try.prog 44 #[.pointer (some ⟨g, 0, none⟩)] (PartA X d e.parts) (OnlyX w.heap.size P) e.parts.length w := by
  intro l J Jx W hW hJ hJx hY h0
  have hO : OnlyX w.heap.size P w W := OnlyX.of_below hW
  have hgW := Flds.onlyX hg hO hgP
  have HV := Lib.hid (visit_in d hd d n l 0 W.heap.size X P e.parts e r w W J Jx (Nat.le_refl _) h hXP hP hO (Nat.le_refl _) hJ (fun i x hx => by rw [Nat.zero_add]; exact hx) hs (fun k W1 xs hk hJ1 hA => yield_wide (hY k W1 xs hk hJ1 hA)) h0)
  obtain ⟨d', rfl⟩ := h.pos
  obtain ⟨av, cv, us, hlv, -⟩ := h.parts
  obtain ⟨rk, rop, rv, rtb, rnm, rlv⟩ := r
  dsimp only at hlv
  subst hlv
  have q0 := hgW.cell 0; have q1 := hgW.cell 1; have q2 := hgW.cell 2; have q3 := hgW.cell 3; have q4 := hgW.cell 4; have q5 := hgW.cell 5; have q6 := hgW.cell 6; have q7 := hgW.cell 7
  have hl := hgW.lt
  unfold Er.cells at q0 q1 q2 q3 q4 q5 q6 q7
  simp only [List.getElem?_cons_zero, List.getElem?_cons_succ] at q0 q1 q2 q3 q4 q5 q6 q7
  unfold Er.val at HV
  dsimp only at HV
  clear hY hJ hJx h0 h hg hgW hO hW
  refine callsIn_of_wp Try.func44 rfl trivial ?_ rfl
  simp only [Try.ntmps44, List.size_toArray, List.length_cons, List.length_nil, Nat.reduceAdd, Nat.reduceSub, Array.replicate_succ, Array.replicate_zero, List.push_toArray, List.append_toArray, List.nil_append, List.cons_append]
  gi_wp2_with fail
  refine ⟨trivial, (fun h => (by cases h)), (callsIn_wide.2 (callsIn_wide.1 HV.out)).mono ?_⟩
  rintro en W5 ⟨bb, rfl, hbb⟩
  have HBB := Lib.hid hbb
  clear hbb
  gi_wp2
  have hpost : J e.parts.length W5 ∨ ∃ k, k ≤ e.parts.length ∧ Jx k W5 := by
    rcases HBB.out with ⟨-, h1, -⟩ | ⟨-, h1⟩
    · exact .inl (by rw [Nat.zero_add] at h1; exact h1)
    · exact .inr h1
  refine (by first | exact bodyPost_end (results_none rfl _ _ _) rfl ⟨⟨_, rfl⟩, hpost⟩ | exact bodyPost_ret (results_none rfl _ _ _) rfl ⟨⟨_, rfl⟩, hpost⟩)
end Go.Proofs.Ytjnlimahcodomaa.ex
/- Parts of an expression as plain data, in memory. -/
namespace Go.Proofs.Ytjnlimahcodomaa.ex
set_option linter.unusedVariables false
open Go.RowKit
open val (V null veq6)
abbrev TP : TypeId := 65
def pCells (l : List Pt) : List Value := l.flatMap fun x => [.int .u8 x.k, .int .u8 x.op, .int .u8 x.vk, .int .u8 x.n, .int .i64 x.x, .string x.nm, .string x.tb]
def Pt.cells (x : Pt) : List Value := [.int .u8 x.k, .int .u8 x.op, .int .u8 x.vk, .int .u8 x.n, .int .i64 x.x, .string x.nm, .string x.tb]
theorem pCells_len (l : List Pt) : (pCells l).length = l.length * 7 := by
  induction l with
  | nil => rfl
  | cons a l ih => unfold pCells at ih ⊢; rw [List.flatMap_cons, List.length_append, ih]; simp; omega
theorem pCells_cons (v : Pt) (l : List Pt) : pCells (v :: l) = .int .u8 v.k :: .int .u8 v.op :: .int .u8 v.vk :: .int .u8 v.n :: .int .i64 v.x :: .string v.nm :: .string v.tb :: pCells l := rfl
theorem pCells_at : ∀ (l : List Pt) (j : Nat) (v : Pt), l[j]? = some v → (pCells l)[j * 7]? = some (.int .u8 v.k) ∧ (pCells l)[j * 7 + 1]? = some (.int .u8 v.op) ∧ (pCells l)[j * 7 + 2]? = some (.int .u8 v.vk) ∧ (pCells l)[j * 7 + 3]? = some (.int .u8 v.n) ∧ (pCells l)[j * 7 + 4]? = some (.int .i64 v.x) ∧ (pCells l)[j * 7 + 5]? = some (.string v.nm) ∧ (pCells l)[j * 7 + 6]? = some (.string v.tb)
  | [], j, v, h => by simp at h
  | a :: l, 0, v, h => by
    simp at h; subst h
    rw [pCells_cons]; simp
  | a :: l, j + 1, v, h => by
    have := pCells_at l j v (by simpa using h)
    rw [pCells_cons, show (j + 1) * 7 = j * 7 + 7 by omega]
    simpa using this
theorem pts_at0 {w : World} {b off cap n : Nat} {xs : List Pt} {k : Nat} {x : Pt} (hv : Row w (.slice (some ⟨b, off, none⟩) n cap) 7 n (pCells xs)) (hk : k < n) (hx : xs[k]? = some x) (wq : World) (hb : Below w.heap.size w wq) :
    wq.cell? ⟨b, off + k * 7, none⟩ = some (.int .u8 x.k) ∧ wq.cell? ⟨b, off + k * 7 + 1, none⟩ = some (.int .u8 x.op) ∧ wq.cell? ⟨b, off + k * 7 + 2, none⟩ = some (.int .u8 x.vk) ∧ wq.cell? ⟨b, off + k * 7 + 3, none⟩ = some (.int .u8 x.n) ∧ wq.cell? ⟨b, off + k * 7 + 4, none⟩ = some (.int .i64 x.x) ∧ wq.cell? ⟨b, off + k * 7 + 5, none⟩ = some (.string x.nm) ∧ wq.cell? ⟨b, off + k * 7 + 6, none⟩ = some (.string x.tb) ∧ b < wq.heap.size := by
  obtain ⟨b', off', cap', ea, hcell⟩ := (hv.later hb).pos (by omega)
  simp only [Value.slice.injEq, Option.some.injEq, Addr.mk.injEq] at ea
  obtain ⟨⟨rfl, rfl, -⟩, -, rfl⟩ := ea
  obtain ⟨c0, c1, c2, c3, c4, c5, c6⟩ := pCells_at xs k _ hx
  have g0 := (hcell (k * 7) (by omega)).trans c0
  have g1 := (hcell (k * 7 + 1) (by omega)).trans c1
  have g2 := (hcell (k * 7 + 2) (by omega)).trans c2
  have g3 := (hcell (k * 7 + 3) (by omega)).trans c3
  have g4 := (hcell (k * 7 + 4) (by omega)).trans c4
  have g5 := (hcell (k * 7 + 5) (by omega)).trans c5
  have g6 := (hcell (k * 7 + 6) (by omega)).trans c6
  rw [← Nat.add_assoc] at g1 g2 g3 g4 g5 g6
  exact ⟨g0, g1, g2, g3, g4, g5, g6, World.block_lt_of_cell? wq _ g0⟩
/-- an expression's cells, spelled -/
def eC (k op vk vn : Int) (vs tb nm : ByteArray) (L : Value) : List Value := [.int .i64 k, .int .i64 op, .int .i64 vk, .int .i64 vn, .string vs, .string tb, .string nm, L]
/-- what a builder has made before its loop -/
structure Pre (w : World) (g8 g9 : Nat) (x : Pt) (fs : List Value) (W : World) : Prop where
  f6 : Flds W w.heap.size TQ (eC 0 0 0 0 ByteArray.empty ByteArray.empty ByteArray.empty (.slice none 0 0))
  f8 : Flds W g8 TP x.cells
  f9 : Flds W g9 TQ fs
  bel : Below w.heap.size w W
theorem Pre.set {w W : World} {g8 g9 : Nat} {x : Pt} {fs : List Value} (h : Pre w g8 g9 x fs W) (h8 : w.heap.size < g8) (h9 : g8 < g9) (i : Nat) (u : Value) : Pre w g8 g9 x (fs.set i u) (W.setCell ⟨g9, i, none⟩ u) :=
  ⟨h.f6.other _ _ (by show w.heap.size ≠ g9; omega), h.f8.other _ _ (by show g8 ≠ g9; omega), h.f9.set i u, h.bel.setCell (by show w.heap.size ≤ g9; omega) _⟩
theorem Pre.drew {w W : World} {g8 g9 : Nat} {x : Pt} {fs : List Value} (h : Pre w g8 g9 x fs W) : Pre w g8 g9 x fs W.drew := ⟨h.f6, h.f8, h.f9, h.bel.drew⟩
/-- two texts that are stored in any order -/
structure TwoG (w : World) (g8 g9 : Nat) (x : Pt) (f : ByteArray → ByteArray → List Value) (a1 b1 : ByteArray) (W : World) : Prop where
  go : ∃ a b, (a = ByteArray.empty ∨ a = a1) ∧ (b = ByteArray.empty ∨ b = b1) ∧ Pre w g8 g9 x (f a b) W
section
variable {w W W' : World} {g8 g9 : Nat} {x : Pt} {k op vk vn : Int} {vs a1 b1 : ByteArray} {L : Value}
/-- the texts of an expression in the making -/
def fT (k op vk vn : Int) (vs : ByteArray) (L : Value) (tb nm : ByteArray) : List Value := eC k op vk vn vs tb nm L
theorem TwoG.start (h : Pre w g8 g9 x (fT k op vk vn vs L ByteArray.empty ByteArray.empty) W) : TwoG w g8 g9 x (fT k op vk vn vs L) a1 b1 W.drew := ⟨⟨_, _, .inl rfl, .inl rfl, h.drew⟩⟩
theorem TwoG.part (h : TwoG w g8 g9 x (fT k op vk vn vs L) a1 b1 W) : W.cell? ⟨g8, 5, none⟩ = some (.string x.nm) ∧ W.cell? ⟨g8, 6, none⟩ = some (.string x.tb) ∧ g8 < W.heap.size := by
  obtain ⟨⟨a, b, -, -, hf⟩⟩ := h
  exact ⟨hf.f8.cell 5, hf.f8.cell 6, hf.f8.lt⟩
theorem TwoG.at (h : TwoG w g8 g9 x (fT k op vk vn vs L) a1 b1 W) : g9 < W.heap.size ∧ W.frozen? ⟨g9, 5, none⟩ = false ∧ W.frozen? ⟨g9, 6, none⟩ = false ∧ (∃ a, W.cell? ⟨g9, 5, none⟩ = some (.string a)) ∧ (∃ b, W.cell? ⟨g9, 6, none⟩ = some (.string b)) := by
  obtain ⟨⟨a, b, -, -, hf⟩⟩ := h
  exact ⟨hf.f9.lt, hf.f9.frozen 5, hf.f9.frozen 6, ⟨a, hf.f9.cell 5⟩, ⟨b, hf.f9.cell 6⟩⟩
theorem TwoG.set1 (h : TwoG w g8 g9 x (fT k op vk vn vs L) a1 b1 W) : (W.setCell ⟨g9, 5, none⟩ (.string a1)).cell? ⟨g9, 5, none⟩ = some (.string a1) := by
  obtain ⟨⟨a, b, -, -, hf⟩⟩ := h
  exact (hf.f9.set 5 (.string a1)).cell 5
theorem TwoG.set2 (h : TwoG w g8 g9 x (fT k op vk vn vs L) a1 b1 W) : (W.setCell ⟨g9, 6, none⟩ (.string b1)).cell? ⟨g9, 6, none⟩ = some (.string b1) := by
  obtain ⟨⟨a, b, -, -, hf⟩⟩ := h
  exact (hf.f9.set 6 (.string b1)).cell 6
theorem TwoG.st1 {u : Value} (h : W.cell? ⟨g9, 5, none⟩ = some u) {y : Value} (ht : W' = W.setCell ⟨g9, 6, none⟩ y) : W'.cell? ⟨g9, 5, none⟩ = some u := by
  rw [ht]; exact (World.cell?_setCell_other _ _ _ _ (by simp)).trans h
theorem TwoG.st2 {u : Value} (h : W.cell? ⟨g9, 6, none⟩ = some u) {y : Value} (ht : W' = W.setCell ⟨g9, 5, none⟩ y) : W'.cell? ⟨g9, 6, none⟩ = some u := by
  rw [ht]; exact (World.cell?_setCell_other _ _ _ _ (by simp)).trans h
theorem TwoG.k1 (h8 : w.heap.size < g8) (h9 : g8 < g9) (h : TwoG w g8 g9 x (fT k op vk vn vs L) a1 b1 W) (ht : W' = W.setCell ⟨g9, 5, none⟩ (.string a1)) : TwoG w g8 g9 x (fT k op vk vn vs L) a1 b1 W' := by
  obtain ⟨⟨a, b, ha, hb, hf⟩⟩ := h
  rw [ht]
  exact ⟨⟨a1, b, .inr rfl, hb, hf.set h8 h9 5 (.string a1)⟩⟩
theorem TwoG.k2 (h8 : w.heap.size < g8) (h9 : g8 < g9) (h : TwoG w g8 g9 x (fT k op vk vn vs L) a1 b1 W) (ht : W' = W.setCell ⟨g9, 6, none⟩ (.string b1)) : TwoG w g8 g9 x (fT k op vk vn vs L) a1 b1 W' := by
  obtain ⟨⟨a, b, ha, hb, hf⟩⟩ := h
  rw [ht]
  exact ⟨⟨a, b1, ha, .inr rfl, hf.set h8 h9 6 (.string b1)⟩⟩
theorem TwoG.fin (h : TwoG w g8 g9 x (fT k op vk vn vs L) a1 b1 W) (h1 : W.cell? ⟨g9, 5, none⟩ = some (.string a1)) (h2 : W.cell? ⟨g9, 6, none⟩ = some (.string b1)) : Pre w g8 g9 x (fT k op vk vn vs L a1 b1) W := by
  obtain ⟨⟨a, b, ha, hb, hf⟩⟩ := h
  have e1 := (hf.f9.cell 5).symm.trans h1
  have e2 := (hf.f9.cell 6).symm.trans h2
  unfold fT eC at e1 e2
  simp at e1 e2
  subst e1; subst e2
  exact hf
end
theorem builtF_some {ps : List Pt} {f a : Nat} {x : Pt} (h : ps[a]? = some x) : builtF ps (f + 1) a = (x.ex (kids (builtF ps f) x.num.toNat (a + 1)).1, (kids (builtF ps f) x.num.toNat (a + 1)).2) := by
  conv => lhs; unfold builtF
  rw [h]
theorem builtF_none {ps : List Pt} {f a : Nat} (h : ps.length ≤ a) : builtF ps f a = (leaf1, a + 1) := by
  cases f with
  | zero => rfl
  | succ f =>
    conv => lhs; unfold builtF
    rw [List.getElem?_eq_none h]
theorem kids_get (g : Nat → Ex × Nat) (n a j : Nat) (h : j < n) : (kids g n a).1[j]? = some (g (kids g j a).2).1 := by
  induction n with
  | zero => omega
  | succ n ih =>
    show ((kids g n a).1 ++ [(g (kids g n a).2).1])[j]? = _
    by_cases hj : j < n
    · rw [List.getElem?_append_left (by rw [kids_len]; exact hj)]; exact ih hj
    · have : j = n := by omega
      subst this
      rw [List.getElem?_append_right (by rw [kids_len]; omega), kids_len, Nat.sub_self]; rfl
theorem Pre.grown {w W W' : World} {g8 g9 : Nat} {x : Pt} {fs : List Value} {row : Option Nat} (h : Pre w g8 g9 x fs W) (hg : W.grownBy W' row) (hr : ∀ b, row = some b → w.heap.size < b ∧ g8 ≠ b ∧ g9 ≠ b) : Pre w g8 g9 x fs W' :=
  ⟨h.f6.grown hg (fun e => by have := (hr _ e.symm).1; omega), h.f8.grown hg (fun e => (hr _ e.symm).2.1 rfl), h.f9.grown hg (fun e => (hr _ e.symm).2.2 rfl), h.bel.grown hg h.bel.size (fun b e => by have := (hr b e).1; omega)⟩
theorem NewL.aside {T : TypeId} {B d : Nat} {l : List Ex} {j : Nat} {L : Value} {ss : List Er} {W W' : World} {g : Nat} (h : NewL T B d l j L ss W) (hg : W.grownBy W' (some g)) (hge : W.heap.size ≤ g) : NewL T B d l j L ss W' := by
  refine ⟨h.form, h.len, h.row.kept hg ?_, fun i x s hi hx hs => ?_⟩
  · cases hob : L.ownBlock with
    | none => exact .inl rfl
    | some b => exact .inr fun e => by have := (h.row.lt b hob).2; simp only [Option.some.injEq] at e; omega
  · have h1 := (h.at_ i x s hi hx hs).mono (Y := fun b => (B ≤ b ∧ L.ownBlock ≠ some b) ∧ b < W.heap.size) (Nat.le_refl _) (fun b hb hX => ⟨hX, hb⟩)
    exact (h1.grown hg (fun b e hX => by simp only [Option.some.injEq] at e; have := hX.2; omega)).mono (Nat.le_refl _) (fun b _ hX => hX.1)
/-- a number's last bit -/
theorem and_one (x : Int) : bits .and .i64 x 1 = x % 2 := by
  have e : (BitVec.ofInt 64 x &&& BitVec.ofInt 64 1).toNat = (x % 2).toNat := by
    rw [BitVec.toNat_and, BitVec.toNat_ofInt, BitVec.toNat_ofInt, show ((1 : Int) % ((2 ^ 64 : Nat) : Int)).toNat = 1 from by decide, Nat.and_one_is_mod]
    have h64 : ((2 ^ 64 : Nat) : Int) = 18446744073709551616 := by decide
    rw [h64]
    omega
  show IntKind.i64.wrap ((BitVec.ofInt 64 x &&& BitVec.ofInt 64 1).toNat : Int) = _
  rw [e, IntKind.wrap_i64]
  omega
theorem kids_room (ps : List Pt) (hps : ∀ x ∈ ps, PB x) (f a : Nat) (ha : a < ps.length) (n : Nat) : (kids (builtF ps f) n (a + 1)).2 + 2 ≤ n + 3 * min (kids (builtF ps f) n (a + 1)).2 ps.length := by
  have hk : ∀ n, (kids (builtF ps f) n (a + 1)).2 + 3 * min (a + 1) ps.length ≤ a + 1 + n + 3 * min (kids (builtF ps f) n (a + 1)).2 ps.length := by
    intro n
    induction n with
    | zero => simp [kids]
    | succ n ihn =>
      have := builtF_span ps hps f (kids (builtF ps f) n (a + 1)).2
      show (builtF ps f (kids (builtF ps f) n (a + 1)).2).2 + _ ≤ a + 1 + (n + 1) + 3 * min (builtF ps f (kids (builtF ps f) n (a + 1)).2).2 _
      omega
  have := hk n
  omega
end Go.Proofs.Ytjnlimahcodomaa.ex
