/- Expressions that the law builds: how many parts, how many children. Plain. -/
import Derived.Test.YtfnajccnlcfbiaaDoorExprE
import Derived.Test.YtfnajccnlcfbiaaDoorRngX
import Derived.Stop.RegionWithIn
import Derived.BigRegionIn
namespace Go.Proofs.YtfnajccnlcfbiaaDoor.ex
set_option linter.unusedVariables false
open val (V null)
theorem leaf1_parts : leaf1.parts = [leaf1] := by unfold leaf1; simp [Ex.parts, partsL]
theorem ex_parts (x : Pt) (l : List Ex) : (x.ex l).parts = x.ex l :: partsL l := by unfold Pt.ex; simp [Ex.parts]
/-- each part takes one place -/
theorem builtF_count (ps : List Pt) (f : Nat) : ∀ a, (builtF ps f a).1.parts.length + a = (builtF ps f a).2 := by
  induction f with
  | zero => intro a; show leaf1.parts.length + a = a + 1; rw [leaf1_parts]; simp; omega
  | succ f ih =>
    intro a
    unfold builtF
    cases h : ps[a]? with
    | none => show leaf1.parts.length + a = a + 1; rw [leaf1_parts]; simp; omega
    | some x =>
      have hk : ∀ n, (partsL (kids (builtF ps f) n (a + 1)).1).length + (a + 1) = (kids (builtF ps f) n (a + 1)).2 := by
        intro n
        induction n with
        | zero => simp [kids, partsL]
        | succ n ihn =>
          have := ih (kids (builtF ps f) n (a + 1)).2
          simp only [kids, partsL_snoc, List.length_append]
          omega
      have := hk x.num.toNat
      show (x.ex (kids (builtF ps f) x.num.toNat (a + 1)).1).parts.length + a = (kids (builtF ps f) x.num.toNat (a + 1)).2
      rw [ex_parts, List.length_cons]
      omega
/-- how far it goes -/
theorem builtF_span (ps : List Pt) (hps : ∀ x ∈ ps, PB x) (f : Nat) : ∀ a, (builtF ps f a).2 + 3 * min a ps.length ≤ a + 1 + 3 * min (builtF ps f a).2 ps.length := by
  induction f with
  | zero => intro a; show a + 1 + _ ≤ a + 1 + 3 * min (a + 1) _; omega
  | succ f ih =>
    intro a
    unfold builtF
    cases h : ps[a]? with
    | none => show a + 1 + _ ≤ a + 1 + 3 * min (a + 1) _; omega
    | some x =>
      have hal : a < ps.length := (List.getElem?_eq_some_iff.1 h).1
      have hn := (Pt.num_le (hps x (List.mem_of_getElem? h)))
      have hk : ∀ n, (kids (builtF ps f) n (a + 1)).2 + 3 * min (a + 1) ps.length ≤ a + 1 + n + 3 * min (kids (builtF ps f) n (a + 1)).2 ps.length := by
        intro n
        induction n with
        | zero => simp [kids]
        | succ n ihn =>
          have := ih (kids (builtF ps f) n (a + 1)).2
          show (builtF ps f (kids (builtF ps f) n (a + 1)).2).2 + _ ≤ a + 1 + (n + 1) + 3 * min (builtF ps f (kids (builtF ps f) n (a + 1)).2).2 _
          omega
      have := hk x.num.toNat
      show (kids (builtF ps f) x.num.toNat (a + 1)).2 + _ ≤ a + 1 + 3 * min (kids (builtF ps f) x.num.toNat (a + 1)).2 _
      omega
theorem builtF_few (ps : List Pt) (hps : ∀ x ∈ ps, PB x) (hl : ps.length ≤ 40) (f a : Nat) (ha : a ≤ ps.length) : (builtF ps f a).2 ≤ 121 ∧ (builtF ps f a).1.parts.length ≤ 121 := by
  have h1 := builtF_span ps hps f a
  have h2 := builtF_count ps f a
  omega
theorem slimL_snoc {l : List Ex} {x : Ex} (h : slimL l) (hx : x.slim) : slimL (l ++ [x]) := by
  induction l with
  | nil => exact ⟨hx, trivial⟩
  | cons a l ih =>
    unfold slimL at h
    exact ⟨h.1, ih h.2⟩
theorem builtF_slim (ps : List Pt) (hps : ∀ x ∈ ps, PB x) (f : Nat) : ∀ a, (builtF ps f a).1.slim := by
  induction f with
  | zero => intro a; show leaf1.slim; unfold leaf1; simp [Ex.slim, slimL]
  | succ f ih =>
    intro a
    unfold builtF
    cases h : ps[a]? with
    | none => show leaf1.slim; unfold leaf1; simp [Ex.slim, slimL]
    | some x =>
      have hn := (Pt.num_le (hps x (List.mem_of_getElem? h)))
      have hk : ∀ n, slimL (kids (builtF ps f) n (a + 1)).1 := by
        intro n
        induction n with
        | zero => simp [kids, slimL]
        | succ n ihn => exact slimL_snoc ihn (ih _)
      show (x.ex (kids (builtF ps f) x.num.toNat (a + 1)).1).slim
      unfold Pt.ex Ex.slim
      exact ⟨by rw [kids_len]; omega, hk _⟩
/-- the parts of a slim one are slim, and no deeper -/
theorem parts_slim : ∀ e : Ex, e.slim → ∀ x ∈ e.parts, x.slim ∧ x.depth ≤ e.depth := by
  intro e
  induction e using Ex.ind with
  | h k op v tb nm l ih =>
    intro hs x hx
    obtain ⟨h1, h2⟩ := Ex.slim_parts hs
    simp only [Ex.parts, partsL_flat, List.mem_cons, List.mem_flatMap] at hx
    rcases hx with rfl | ⟨y, hy, hxy⟩
    · exact ⟨hs, Nat.le_refl _⟩
    · obtain ⟨p1, p2⟩ := ih y hy (h2 y hy) x hxy
      refine ⟨p1, ?_⟩
      have := depthL_le hy
      simp only [Ex.depth]
      omega
end Go.Proofs.YtfnajccnlcfbiaaDoor.ex
/- All parts of an expression, as the law lists them; walked. -/
namespace Go.Proofs.YtfnajccnlcfbiaaDoor.ex
set_option linter.unusedVariables false
open Go.RowKit
open val (V null veq6)
theorem infoQ : (Tryd.prog.info? 28).map (fun i => (i.zero, i.size, i.bytes)) = some (some (.agg #[.int .i64 0, .int .i64 0, .int .i64 0, .int .i64 0, .string ByteArray.empty, .string ByteArray.empty, .string ByteArray.empty, .slice none 0 0]), 8, 104) := by kernel_rfl
theorem partsL_take {l : List Ex} {j : Nat} {x : Ex} (h : l[j]? = some x) : partsL (l.take (j + 1)) = partsL (l.take j) ++ x.parts := by
  rw [List.take_add_one, h]; exact partsL_snoc _ _
theorem partsL_take_le (l : List Ex) (j : Nat) : (partsL (l.take j)).length ≤ (partsL l).length := by
  rw [partsL_flat, partsL_flat]
  conv => rhs; rw [← List.take_append_drop j l, List.flatMap_append, List.length_append]
  omega
/-- a list of trees in a row -/
def RowAt (T : TypeId) (X : Nat → Prop) (B d : Nat) (v : Value) (l : List Ex) (W : World) : Prop := ∃ rs : List Er, rs.length = l.length ∧ W.ownsRow B T 8 v l.length (erCells rs) ∧ ∀ (i : Nat) x s, l[i]? = some x → rs[i]? = some s → ExAt T X d W x s
theorem RowAt.ones {T : TypeId} {X : Nat → Prop} {d : Nat} {W : World} {l : List Ex} {rs : List Er} (hl : rs.length = l.length) (h : ∀ (i : Nat) x s, l[i]? = some x → rs[i]? = some s → ExAt T X d W x s) : ∀ u ∈ erCells rs, u.oneCell' = true := by
  intro u hu
  unfold erCells at hu
  obtain ⟨s, hs, hu⟩ := List.mem_flatMap.1 hu
  obtain ⟨i, hi⟩ := List.getElem?_of_mem hs
  have hil := (List.getElem?_eq_some_iff.1 hi).1
  exact cells_one (h i l[i] s (List.getElem?_eq_getElem (by omega)) hi) u hu
theorem RowAt.later {T : TypeId} {X : Nat → Prop} {B d : Nat} {v : Value} {W W' : World} {l : List Ex} (h : RowAt T X B d v l W) (hb : Below W.heap.size W W') : RowAt T X B d v l W' := by
  obtain ⟨rs, h1, h2, h3⟩ := h
  exact ⟨rs, h1, owns_below h2 hb, fun i x s hx hs => (h3 i x s hx hs).later hb⟩
/-- an append of a whole list -/
theorem RowAt.app {T : TypeId} {X : Nat → Prop} {B d : Nat} {v v' : Value} {W W' : World} {l l' : List Ex} {rs ps : List Er} (hX : ∀ b, X b → b < B) (h1 : rs.length = l.length) (h2 : W.ownsRow B T 8 v l.length (erCells rs)) (h3 : ∀ (i : Nat) x s, l[i]? = some x → rs[i]? = some s → ExAt T X d W x s)
    (k1 : ps.length = l'.length) (k3 : ∀ (i : Nat) x s, l'[i]? = some x → ps[i]? = some s → ExAt T X d W x s) (hap : Appended B T 8 v l.length l'.length (erCells rs) (erCells ps) W v' W') : RowAt T X B d v' (l ++ l') W' := by
  have gr : ∀ {x : Ex} {s : Er}, ExAt T X d W x s → ExAt T X d W' x s := fun h => h.grown hap.grown (fun b e hb => by have := hX b hb; have := (h2.lt b e).1; omega)
  refine ⟨rs ++ ps, by rw [List.length_append, List.length_append, h1, k1], by rw [List.length_append, erCells_append]; exact hap.own, fun i x s hx hs => ?_⟩
  by_cases hi : i < l.length
  · rw [List.getElem?_append_left hi] at hx
    rw [List.getElem?_append_left (by omega)] at hs
    exact gr (h3 i x s hx hs)
  · rw [List.getElem?_append_right (by omega)] at hx
    rw [List.getElem?_append_right (by omega), h1] at hs
    exact gr (k3 _ x s hx hs)
set_option maxRecDepth 100000 in
set_option maxHeartbeats 4000000 in
theorem parts_any : ∀ (d : Nat), d ≤ 1000 → ∀ (X : Nat → Prop) (e : Ex) (r : Er) (w : World), (∀ b, X b → b < w.heap.size) → e.parts.length ≤ 100000 → e.slim → ExAt TQ X d w e r →
    Calls Tryd.prog 16 #[r.val] w fun en w' => ∃ a c, en = .returned (.slice a e.parts.length c) ∧ RowAt TQ X w.heap.size d (.slice a e.parts.length c) e.parts w' ∧ Below w.heap.size w w'
  | 0, _, _, _, _, _, _, _, _, h => h.elim
  | d + 1, hd, X, e, r, w, hX, hpl, hsl, h => by
    have IH := Lib.hid (fun (e : Ex) (r : Er) (w : World) (hX : ∀ b, X b → b < w.heap.size) (hp : e.parts.length ≤ 100000) (hs : e.slim) (h : ExAt TQ X d w e r) => parts_any d (by omega) X e r w hX hp hs h)
    obtain ⟨hsl1, hsl2⟩ := Ex.slim_parts hsl
    obtain ⟨av, cv, us, hlv, hul, hrow, hch⟩ := h.parts
    have HSELF := Lib.hid h
    have HX := Lib.hid hX
    have HPL := Lib.hid hpl
    have HPE : Hid (e.parts = e :: partsL e.l) := Lib.hid e.parts_eq
    obtain ⟨n, hn⟩ : ∃ n, e.l.length = n := ⟨_, rfl⟩
    rw [hn] at hlv hul hrow hsl1
    have HN := Lib.hid hn
    have HUL := Lib.hid hul
    have HR := Lib.hid hrow
    have HC := Lib.hid hch
    have HSL := Lib.hid hsl2
    have hn0 : (0 : Int) ≤ (n : Int) := by omega
    have hn1 : (n : Int) ≤ 1000 := by omega
    clear h hn hul hrow hch hsl hsl2 hX hpl
    obtain ⟨rk, rop, rv, rtb, rnm, rlv⟩ := r
    dsimp only at hlv
    subst hlv
    unfold Er.val
    dsimp only
    obtain ⟨i0, hi, hz0, hz1, hz2⟩ := info_of infoQ
    obtain ⟨W1, hW1⟩ : ∃ W1, (w.alloc (.cells #[.int .i64 rk, .int .i64 rop, .int .i64 rv.k, .int .i64 rv.n, .string rv.s, .string rtb, .string rnm, .slice av n cv] TQ)).alloc (.cells #[.int .i64 rk, .int .i64 rop, .int .i64 rv.k, .int .i64 rv.n, .string rv.s, .string rtb, .string rnm, .slice av n cv] TQ) = W1 := ⟨_, rfl⟩
    have f1 : Flds W1 w.heap.size TQ [.int .i64 rk, .int .i64 rop, .int .i64 rv.k, .int .i64 rv.n, .string rv.s, .string rtb, .string rnm, .slice av n cv] := by rw [← hW1]; exact (Flds.new w TQ _).alloc _
    have f2 : Flds W1 (w.heap.size + 1) TQ [.int .i64 rk, .int .i64 rop, .int .i64 rv.k, .int .i64 rv.n, .string rv.s, .string rtb, .string rnm, .slice av n cv] := by
      rw [← hW1]
      have := Flds.new (w.alloc (.cells #[.int .i64 rk, .int .i64 rop, .int .i64 rv.k, .int .i64 rv.n, .string rv.s, .string rtb, .string rnm, .slice av n cv] TQ)) TQ [.int .i64 rk, .int .i64 rop, .int .i64 rv.k, .int .i64 rv.n, .string rv.s, .string rtb, .string rnm, .slice av n cv]
      rw [World.size_alloc] at this; exact this
    have hb1 : Below w.heap.size w W1 := by rw [← hW1]; exact ((Below.refl _ _).alloc (Nat.le_refl _) _).alloc (by simp) _
    have HW1 := Lib.hid hW1
    have hra : RowAt TQ X (w.heap.size + 1) (d + 1) (.slice (some ⟨w.heap.size + 1, 0, none⟩) 1 1) [e] W1 := ⟨[⟨rk, rop, rv, rtb, rnm, .slice av n cv⟩], rfl, owns_of_flds f2 rfl (Nat.le_refl _) (by decide), fun i x s hx hs => by
      cases i with
      | zero => simp at hx hs; subst hx; subst hs; exact HSELF.out.later hb1
      | succ i => simp at hx⟩
    have HF1 := Lib.hid f1
    have HRA := Lib.hid hra
    have HB1 := Lib.hid hb1
    clear hW1 f1 f2 hb1 hra
    go_enter Tryd.func16, Tryd.ntmps16
    go_upto_region 2 with fail
    rw [HW1.out]
    clear HW1
    go_wp2_with fail
    go_loopw [3, 4] (fun o i wr => ∃ (j m : Nat) (aO : Option Addr) (cO : Nat), i = .int .i64 (j : Int) ∧ j ≤ n ∧ o = .slice aO m cO ∧ m = (e :: partsL (e.l.take j)).length ∧ Hid (RowAt TQ X (w.heap.size + 1) (d + 1) (.slice aO m cO) (e :: partsL (e.l.take j)) wr) ∧ Hid (Flds wr w.heap.size TQ [.int .i64 rk, .int .i64 rop, .int .i64 rv.k, .int .i64 rv.n, .string rv.s, .string rtb, .string rnm, .slice av n cv]) ∧ Hid (Below w.heap.size w wr)) (fun _ i _ => n - (intOf i).toNat)
    case atStart => exact ⟨0, 1, _, _, rfl, Nat.zero_le _, rfl, rfl, HRA, HF1, HB1⟩
    case round =>
      obtain ⟨j, m, aO, cO, rfl, hj, rfl, hm, HRW, HF, HB⟩ := hrel
      have j0 : (0 : Int) ≤ (j : Int) := by omega
      have q7 := HF.out.cell 7
      have l7 := HF.out.lt
      simp only [List.getElem?_cons_zero, List.getElem?_cons_succ] at q7
      by_cases hjn : j < n
      · have dj : (j : Int) < (n : Int) := by omega
        have hja : j < e.l.length := by have := HN.out; omega
        have hju : j < us.length := by have := HUL.out; omega
        have hx := List.getElem?_eq_getElem hja
        have hu := List.getElem?_eq_getElem hju
        have hxs := HSL.out _ (List.getElem_mem hja)
        generalize e.l[j] = x at hx hxs
        generalize us[j] = u at hu
        have hxu := (HC.out j x u hx hu).later HB.out
        obtain ⟨ga, rfl, hga, c0, c1, c2, c3, c4, c5, c6, c7⟩ := part_cells (owns_below HR.out HB.out) hjn hu
        obtain ⟨d', rfl⟩ := hxu.pos
        obtain ⟨au, cu, us', hul', -⟩ := hxu.parts
        obtain ⟨uk, uop, uv, utb, unm, ulv⟩ := u
        dsimp only at hul' c0 c1 c2 c3 c4 c5 c6 c7
        subst hul'
        have HPT := Lib.hid (partsL_take hx)
        have hlen : (partsL (e.l.take (j + 1))).length ≤ (partsL e.l).length := partsL_take_le _ _
        have hpl : (partsL (e.l.take j)).length + x.parts.length + 1 ≤ 100000 := by
          have h1 := HPL.out
          rw [HPE.out, List.length_cons] at h1
          rw [HPT.out, List.length_append] at hlen
          omega
        have HCL := Lib.hid (show Calls Tryd.prog 16 #[.agg #[.int .i64 uk, .int .i64 uop, .int .i64 uv.k, .int .i64 uv.n, .string uv.s, .string utb, .string unm, .slice au x.l.length cu]] wr (fun en w' => ∃ a c, en = .returned (.slice a x.parts.length c) ∧ RowAt TQ X wr.heap.size (d' + 1) (.slice a x.parts.length c) x.parts w' ∧ Below wr.heap.size wr w') from IH.out x ⟨uk, uop, uv, utb, unm, .slice au x.l.length cu⟩ wr (fun b hb => Nat.lt_of_lt_of_le (HX.out b hb) HB.out.size) (by omega) hxs hxu)
        have HPLN := Lib.hid hpl
        have HXB := Lib.hid hx
        have hmm : m + x.parts.length ≤ 100000 := by rw [hm, List.length_cons]; omega
        have HM := Lib.hid hm
        have hrs := HRW.out
        obtain ⟨rs, r1, r2, r3⟩ := hrs
        have HR1 := Lib.hid r1; have HR2 := Lib.hid r2; have HR3 := Lib.hid r3
        obtain ⟨K, hK⟩ : ∃ K, x.parts.length = K := ⟨_, rfl⟩
        rw [hK] at HCL hmm
        have HKK := Lib.hid hK
        have h63 : m + K ≤ maxLen := by unfold maxLen; omega
        have h64 : (m + K) * 104 ≤ 140737488355328 := by omega
        clear hx hu hxs hxu hlen hpl hja hju hm r1 r2 r3 hK
        go_wp2_with (first
          | (go_at_call 16; refine HCL.out.mono ?_; rintro en w2 ⟨a2, cc2, rfl, hr2, hb2⟩; have HB2 := Lib.hid hb2; obtain ⟨ps, s1, s2, s3⟩ := hr2; have HS1 := Lib.hid s1; have HS2 := Lib.hid s2; have HS3 := Lib.hid s3; have HONE := Lib.hid (RowAt.ones s1 s3); have HO2 := Lib.hid (owns_below HR2.out hb2); (rw [← HM.out] at HO2); clear hb2 s1 s2 s3)
          | (at_builtin; refine wpList_append_row _ rfl (.tmp 14) (.tmp 20) 26 (by rfl) (w.heap.size + 1) TQ i0 _ 8 104 Tryd.underlying26 hi hz0 hz1 hz2 rfl (by decide) (.slice aO m cO) m (erCells rs) (by rfl) HO2.out (.slice a2 K cc2) K (erCells ps) (by rfl) (by have := Row.of_owns HS2.out; rw [HKK.out] at this; exact this) HONE.out h63 h64 (Nat.le_trans HF.out.lt HB2.out.size) ?_; intro a9 c9 w9 hap; have HAP := Lib.hid hap; clear hap))
        go_roundw
        case rel =>
          have hap := HAP.out
          rw [HM.out, ← HKK.out] at hap
          have hnew := RowAt.app (fun b hb => by have := HX.out b hb; omega) HR1.out (owns_below HR2.out HB2.out |> fun h => by rw [← HM.out]; rw [← HM.out] at h; exact h) (fun i y t hy ht => (HR3.out i y t hy ht).later HB2.out) HS1.out (fun i y t hy ht => (HS3.out i y t hy ht).mono (by omega) (fun b _ hb => hb)) hap
          have hlt := fun b (hb : (Value.slice aO m cO).ownBlock = some b) => (HO2.out.lt b hb).1
          have hg9 := HAP.out.grown
          have hll : m + K = (e :: partsL (e.l.take (j + 1))).length := by rw [HM.out, HPT.out, List.length_cons, List.length_cons, List.length_append, HKK.out]; omega
          refine ⟨j + 1, m + K, a9, c9, by go_num, by omega, rfl, hll, Lib.hid ?_, Lib.hid ((HF.out.later HB2.out).grown hg9 (fun e => by have := hlt _ e.symm; omega)), Lib.hid ((HB.out.trans (HB2.out.mono HB.out.size)).grown hg9 (Nat.le_trans HB.out.size HB2.out.size) (fun b e => by have := hlt b e; omega))⟩
          rw [HPT.out, ← List.cons_append]
          rw [← HM.out, HKK.out] at hnew
          exact hnew
        case measure => simp [intOf]; omega
      · have dj : ¬ (j : Int) < (n : Int) := by omega
        have hjn' : j = n := by omega
        have HE : Hid (e :: partsL (e.l.take j) = e.parts) := Lib.hid (by rw [HPE.out, List.take_of_length_le (by have := HN.out; omega)])
        have hrw := HRW.out
        rw [HE.out] at hrw hm
        subst hm
        have HRF := Lib.hid hrw
        clear hrw
        go_wp2_with fail
        go_ret
        obtain ⟨rs, r1, r2, r3⟩ := HRF.out
        exact ⟨_, _, rfl, ⟨rs, r1, owns_base r2 (fun g hg => by have := (r2.lt g hg).1; omega), r3⟩, HB.out⟩
end Go.Proofs.YtfnajccnlcfbiaaDoor.ex
/- All parts of an expression, told one by one: the function that tells them. -/
namespace Go.Proofs.YtfnajccnlcfbiaaDoor.ex
set_option linter.unusedVariables false
open Go.RowKit
open val (V null veq6)
set_option maxRecDepth 100000 in
set_option maxHeartbeats 400000 in
theorem all_any (r : Er) (a : Option Addr) (n c : Nat) (hlv : r.lv = .slice a n c) (w : World) : Calls Tryd.prog 17 #[r.val] w fun e w' => e = .returned (.func (.func 26) #[] #[.pointer (some ⟨w.heap.size, 0, none⟩)]) ∧ w' = w.alloc (.cells r.cells.toArray TE) := by
  obtain ⟨rk, rop, rv, rtb, rnm, rlv⟩ := r
  dsimp only at hlv
  subst hlv
  unfold Er.val Er.cells
  dsimp only
  go_enter Tryd.func17, Tryd.ntmps17
  go_wp2_with fail
  go_ret
  exact ⟨rfl, rfl⟩
/-- in the wide fence the depth says nothing -/
theorem round_wide {n m : Nat} {P : Program} {l : Nat} {f : FuncId} {tmps : Array Value} {assign body : Code} {w : World} {R : Ending → World → Prop} (h : RoundIn Fence.wide n P l f tmps assign body w R) : RoundIn Fence.wide m P l f tmps assign body w R := ⟨h.1, fun c cs _ => h.2 c cs (room_wide _)⟩
theorem yield_wide {n m : Nat} {P : Program} {l : Nat} {args : Array Value} {w : World} {R : Ending → World → Prop} (h : YieldAt Fence.wide n P l args w R) : YieldAt Fence.wide m P l args w R := by
  obtain ⟨fn, tmps, assign, body, h1, h2⟩ := h
  exact ⟨fn, tmps, assign, body, h1, round_wide h2⟩
/-- a tree stays while a loop's body turns other blocks -/
theorem ExAt.onlyX {T : TypeId} {X P : Nat → Prop} {B : Nat} {W W' : World} (hX : ∀ b, X b → ¬ P b) (ho : OnlyX B P W W') : ∀ {d : Nat} {e : Ex} {r : Er}, ExAt T X d W e r → ExAt T X d W' e r
  | 0, _, _, h => h.elim
  | d + 1, e, r, ⟨h1, h2, h3, h4, h5, h6, us, h7, h8, h9⟩ =>
    ⟨h1, h2, h3, h4, h5, h6, us, h7, owns_onlyX h8 ho (fun g hg => hX g (h6 g hg)), fun i x u hx hu => (h9 i x u hx hu).onlyX hX ho⟩
end Go.Proofs.YtfnajccnlcfbiaaDoor.ex
/- All parts of an expression, told one by one: the walk through the tree. -/
namespace Go.Proofs.YtfnajccnlcfbiaaDoor.ex
set_option linter.unusedVariables false
open Go.RowKit
open val (V null veq6)
/-- what is yielded: a part, as it lies in memory -/
def PartA (X : Nat → Prop) (d0 : Nat) (ps : List Ex) (k : Nat) (W : World) (xs : Array Value) : Prop := ∃ x s, ps[k]? = some x ∧ xs = #[Er.val s] ∧ ExAt TE X d0 W x s
theorem yield_bb {e : Ending} {A B : Prop} (h : (e = .returned (.bool true) ∧ A) ∨ (e = .returned (.bool false) ∧ B)) : ∃ bb, e = .returned (.bool bb) ∧ ((bb = true ∧ A) ∨ (bb = false ∧ B)) := by
  rcases h with ⟨rfl, h⟩ | ⟨rfl, h⟩
  · exact ⟨true, rfl, .inl ⟨rfl, h⟩⟩
  · exact ⟨false, rfl, .inr ⟨rfl, h⟩⟩
theorem partsL_at {l : List Ex} {j i : Nat} {x y : Ex} (hx : l[j]? = some x) (hy : x.parts[i]? = some y) : (partsL l)[(partsL (l.take j)).length + i]? = some y := by
  induction l generalizing j with
  | nil => simp at hx
  | cons a l ih =>
    cases j with
    | zero =>
      simp only [List.getElem?_cons_zero, Option.some.injEq] at hx
      subst hx
      have hi := (List.getElem?_eq_some_iff.1 hy).1
      simp only [List.take_zero, partsL, List.length_nil, Nat.zero_add]
      rw [List.getElem?_append_left hi]; exact hy
    | succ j =>
      have := ih (by simpa using hx)
      simp only [List.take_succ_cons, partsL, List.length_append]
      rw [List.getElem?_append_right (by omega), ← this]
      congr 1; omega
theorem Flds.onlyX {B : Nat} {P : Nat → Prop} {W W' : World} {b : Nat} {T : TypeId} {fs : List Value} (h : Flds W b T fs) (ho : OnlyX B P W W') (hn : ¬ P b) : Flds W' b T fs := ho.cells b _ h rfl hn
/-- the walk goes on, or it stopped -/
def VPost (w : World) (P : Nat → Prop) (N k : Nat) (J Jx : Nat → World → Prop) (W : World) (en : Ending) (W' : World) : Prop := ∃ bb, en = .returned (.bool bb) ∧ ((bb = true ∧ J k W' ∧ OnlyX w.heap.size P W W') ∨ (bb = false ∧ ∃ k', k' ≤ N ∧ Jx k' W'))
set_option maxRecDepth 100000 in
set_option maxHeartbeats 4000000 in
theorem visit_in : ∀ (d : Nat), d ≤ 1000 → ∀ (d0 n l k0 S : Nat) (X P : Nat → Prop) (ps : List Ex) (e : Ex) (r : Er) (w W : World) (J Jx : Nat → World → Prop), d ≤ d0 → ExAt TE X d w e r → (∀ b, X b → ¬ P b) → (∀ b, P b → b < w.heap.size) → OnlyX w.heap.size P w W → S ≤ W.heap.size → AbidesFrom S J →
    (∀ i x, e.parts[i]? = some x → ps[k0 + i]? = some x) → e.slim →
    (∀ k W1 xs, k < ps.length → J k W1 → PartA X d0 ps k W1 xs → YieldAt Fence.wide 0 Tryd.prog l xs W1 fun en W' =>
      (en = .returned (.bool true) ∧ J (k + 1) W' ∧ OnlyX w.heap.size P W1 W') ∨ (en = .returned (.bool false) ∧ Jx (k + 1) W')) → J k0 W →
    CallsIn Fence.wide n Tryd.prog 27 #[r.val, .func (.yield l) #[] #[]] W (VPost w P ps.length (k0 + e.parts.length) J Jx W)
  | 0, _, _, _, _, _, _, _, _, _, _, _, _, _, _, _, _, h, _, _, _, _, _, _, _, _, _ => h.elim
  | d + 1, hd, d0, n, l, k0, S, X, P, ps, e, r, w, W, J, Jx, hd0, h, hXP, hP, hW, hS, hJ, hps, hslim, hY, hJ0 => by
    have IH := Lib.hid (fun (k1 : Nat) (e1 : Ex) (r1 : Er) (W1 : World) (h1 : ExAt TE X d w e1 r1) (hW1 : OnlyX w.heap.size P w W1) (hS1 : S ≤ W1.heap.size) (hp1 : ∀ i x, e1.parts[i]? = some x → ps[k1 + i]? = some x) (hs1 : e1.slim) (hJ1 : J k1 W1) => callsIn_wide.1 (visit_in d (by omega) d0 0 l k1 S X P ps e1 r1 w W1 J Jx (by omega) h1 hXP hP hW1 hS1 hJ hp1 hs1 hY hJ1))
    obtain ⟨hsl1, hsl2⟩ := Ex.slim_parts hslim
    obtain ⟨av, cv, us, hlv, hul, hrow, hch⟩ := h.parts
    have HP0 : Hid (ps[k0]? = some e) := Lib.hid (by have := hps 0 e (by rw [e.parts_eq]; rfl); simpa using this)
    have HPK : Hid (∀ j x, e.l[j]? = some x → ∀ i y, x.parts[i]? = some y → ps[k0 + 1 + (partsL (e.l.take j)).length + i]? = some y) := Lib.hid (fun j x hx i y hy => by
      have h1 := partsL_at hx hy
      have := hps (1 + ((partsL (e.l.take j)).length + i)) y (by rw [e.parts_eq, Nat.add_comm 1, List.getElem?_cons_succ]; exact h1)
      rw [← this]; congr 1; omega)
    obtain ⟨N, hN⟩ : ∃ N, e.l.length = N := ⟨_, rfl⟩
    rw [hN] at hlv hul hrow hsl1
    have HN := Lib.hid hN; have HUL := Lib.hid hul; have HR := Lib.hid hrow; have HC := Lib.hid hch; have HSL := Lib.hid hsl2; have HW := Lib.hid hW
    have HX := Lib.hid hXP; have HPB := Lib.hid hP; have HJ := Lib.hid hJ; have HS := Lib.hid hS
    have HPE : Hid (k0 + e.parts.length = k0 + 1 + (partsL e.l).length) := Lib.hid (by rw [e.parts_eq, List.length_cons]; omega)
    have HXB : Hid (∀ b, (Value.slice av N cv).ownBlock = some b → X b) := Lib.hid (by rw [← hlv]; exact h.2.2.2.2.2.1)
    have hn0 : (0 : Int) ≤ (N : Int) := by omega
    have hn1 : (N : Int) ≤ 1000 := by omega
    obtain ⟨rk, rop, rv, rtb, rnm, rlv⟩ := r
    dsimp only at hlv
    subst hlv
    obtain ⟨W1, hW1⟩ : ∃ W1, W.alloc (.cells #[.int .i64 rk, .int .i64 rop, .int .i64 rv.k, .int .i64 rv.n, .string rv.s, .string rtb, .string rnm, .slice av N cv] TE) = W1 := ⟨_, rfl⟩
    have f1 : Flds W1 W.heap.size TE [.int .i64 rk, .int .i64 rop, .int .i64 rv.k, .int .i64 rv.n, .string rv.s, .string rtb, .string rnm, .slice av N cv] := by rw [← hW1]; exact Flds.new W TE _
    have hb1 : Below W.heap.size W W1 := by rw [← hW1]; exact (Below.refl _ _).alloc (Nat.le_refl _) _
    have hJ1 : J k0 W1 := hJ k0 W W1 none hJ0 (grown_of_below hb1) (fun r h => by cases h)
    have hX1 : OnlyX w.heap.size P w W1 := hW.trans (OnlyX.of_below hb1)
    have hA1 : ExAt TE X (d + 1) W1 e ⟨rk, rop, rv, rtb, rnm, .slice av N cv⟩ := h.onlyX hXP hX1
    have hk0 : k0 < ps.length := (List.getElem?_eq_some_iff.1 HP0.out).1
    have HYY := Lib.hid (hY k0 W1 _ hk0 hJ1 ⟨e, _, HP0.out, rfl, hA1.mono hd0 (fun b _ hb => hb)⟩)
    obtain ⟨fn, tmps, assign, body, hy, hR⟩ := HYY.out
    have HRD := Lib.hid (round_wide (m := n - 1) hR)
    have F1 := Lib.hid f1
    have HOX : Hid (OnlyX w.heap.size P W W1) := Lib.hid (OnlyX.of_below hb1)
    have H1W := Lib.hid hW1; have HX1 := Lib.hid hX1
    clear hW1 f1 hb1 hJ1 hX1 hA1 HYY hR h hul hrow hch hsl2 hW hXP hP hJ hS hJ0 hY hps hslim hN
    unfold Er.val
    dsimp only
    refine callsIn_of_wp Tryd.func27 rfl trivial ?_ rfl
    simp only [Tryd.ntmps27, List.size_toArray, List.length_cons, List.length_nil, Nat.reduceAdd, Nat.reduceSub, Array.replicate_succ, Array.replicate_zero, List.push_toArray, List.append_toArray, List.nil_append, List.cons_append]
    unfold Er.val at hy
    dsimp only at hy
    gi_wp2_with fail
    rw [H1W.out, hy]
    have q7 := F1.out.cell 7
    have l7 := F1.out.lt
    simp only [List.getElem?_cons_zero, List.getElem?_cons_succ] at q7
    refine ⟨(fun h => (by cases h)), HRD.out.mono ?_⟩
    rintro en W3 hpp
    obtain ⟨bb, rfl, hbb⟩ := yield_bb hpp
    have HBB := Lib.hid hbb
    clear hbb hpp q7 l7 hy HRD
    cases bb with
    | false =>
      have hJx : Jx (k0 + 1) W3 := by
        rcases HBB.out with ⟨h1, -⟩ | ⟨-, h1⟩
        · cases h1
        · exact h1
      clear HBB
      gi_wp2
      go_ret
      exact ⟨false, rfl, .inr ⟨rfl, _, hk0, hJx⟩⟩
    | true =>
      obtain ⟨hJ3, hO3⟩ : J (k0 + 1) W3 ∧ OnlyX w.heap.size P W1 W3 := by
        rcases HBB.out with ⟨-, h1, h2⟩ | ⟨h1, -⟩
        · exact ⟨h1, h2⟩
        · cases h1
      have HO3 := Lib.hid (HX1.out.trans hO3)
      have HOW := Lib.hid (HOX.out.trans hO3)
      have F3 := Lib.hid (Flds.onlyX F1.out hO3 (fun hp => by have := HPB.out _ hp; have := HW.out.size; omega))
      have q7 := F3.out.cell 7
      have l7 := F3.out.lt
      simp only [List.getElem?_cons_zero, List.getElem?_cons_succ] at q7
      clear HBB hO3
      gi_wp2
      gi_loopw [14] (fun i wr => ∃ j : Nat, i = .int .i64 (j : Int) ∧ j ≤ N ∧ J (k0 + 1 + (partsL (e.l.take j)).length) wr ∧ Hid (OnlyX w.heap.size P W wr)) (fun i _ => N - (intOf i).toNat)
      case atStart => exact ⟨0, rfl, Nat.zero_le _, hJ3, HOW⟩
      case round =>
        obtain ⟨j, rfl, hj, hJw, HWO⟩ := hrel
        have j0 : (0 : Int) ≤ (j : Int) := by omega
        by_cases hjn : j < N
        · have dj : (j : Int) < (N : Int) := by omega
          have hja : j < e.l.length := by have := HN.out; omega
          have hju : j < us.length := by have := HUL.out; omega
          have hx := List.getElem?_eq_getElem hja
          have hu := List.getElem?_eq_getElem hju
          have HXS := Lib.hid (HSL.out _ (List.getElem_mem hja))
          generalize e.l[j] = x at hx HXS
          generalize us[j] = u at hu
          have HXU := Lib.hid (HC.out j x u hx hu)
          have HO0 := Lib.hid (HW.out.trans HWO.out)
          have hrw := owns_onlyX HR.out HO0.out (fun g hg => HX.out g (HXB.out g hg))
          obtain ⟨ga, rfl, hga, c0, c1, c2, c3, c4, c5, c6, c7⟩ := part_cells hrw hjn hu
          obtain ⟨d', rfl⟩ := HXU.out.pos
          obtain ⟨au, cu, us', hul', -⟩ := HXU.out.parts
          obtain ⟨uk, uop, uv, utb, unm, ulv⟩ := u
          dsimp only at hul' c0 c1 c2 c3 c4 c5 c6 c7
          subst hul'
          have hb2 : Below wr.heap.size wr (wr.alloc (.cells #[.int .i64 uk, .int .i64 uop, .int .i64 uv.k, .int .i64 uv.n, .string uv.s, .string utb, .string unm, .slice au x.l.length cu] TE)) := (Below.refl _ _).alloc (Nat.le_refl _) _
          have HB2 : Hid (OnlyX w.heap.size P wr (wr.alloc (.cells #[.int .i64 uk, .int .i64 uop, .int .i64 uv.k, .int .i64 uv.n, .string uv.s, .string utb, .string unm, .slice au x.l.length cu] TE))) := Lib.hid (OnlyX.of_below hb2)
          have hSw : S ≤ wr.heap.size := Nat.le_trans HS.out HWO.out.size
          have hJ2 := HJ.out _ _ _ none hJw (grown_of_below hb2) (fun r h => by cases h)
          have hK : k0 + 1 + (partsL (e.l.take (j + 1))).length = k0 + 1 + (partsL (e.l.take j)).length + x.parts.length := by rw [partsL_take hx, List.length_append]; omega
          have HK := Lib.hid hK
          have HCL := Lib.hid (IH.out (k0 + 1 + (partsL (e.l.take j)).length) x ⟨uk, uop, uv, utb, unm, .slice au x.l.length cu⟩ _ HXU.out (HO0.out.trans HB2.out) (by rw [World.size_alloc]; omega) (HPK.out j x hx) HXS.out hJ2)
          clear hJ2 hb2 hSw hK hx hu hrw hja hju hJw
          unfold Er.val at HCL
          dsimp only at HCL
          gi_wp2_with fail
          refine ⟨trivial, (fun h => (by cases h)), (callsIn_wide.2 HCL.out).mono ?_⟩
          rintro en W5 ⟨bb, rfl, hbb⟩
          have HBB := Lib.hid hbb
          clear hbb HCL c0 c1 c2 c3 c4 c5 c6 c7
          cases bb with
          | false =>
            have hst : ∃ k', k' ≤ ps.length ∧ Jx k' W5 := by
              rcases HBB.out with ⟨h1, -⟩ | ⟨-, h1⟩
              · cases h1
              · exact h1
            clear HBB
            gi_wp2
            go_ret
            exact ⟨false, rfl, .inr ⟨rfl, hst⟩⟩
          | true =>
            obtain ⟨hJ5, hO5⟩ : J (k0 + 1 + (partsL (e.l.take (j + 1))).length) W5 ∧ OnlyX w.heap.size P (wr.alloc (.cells #[.int .i64 uk, .int .i64 uop, .int .i64 uv.k, .int .i64 uv.n, .string uv.s, .string utb, .string unm, .slice au x.l.length cu] TE)) W5 := by
              rcases HBB.out with ⟨-, h1, h2⟩ | ⟨h1, -⟩
              · exact ⟨by rw [HK.out]; exact h1, h2⟩
              · cases h1
            have HO5 := Lib.hid (HWO.out.trans (HB2.out.trans hO5))
            clear HBB hO5
            gi_wp2
            go_roundw
            case rel => exact ⟨j + 1, by go_num, by omega, hJ5, HO5⟩
            case measure => simp [intOf]; omega
        · have dj : ¬ (j : Int) < (N : Int) := by omega
          have hjn' : j = N := by omega
          have hJN : J (k0 + e.parts.length) wr := by
            rw [HPE.out]
            rw [List.take_of_length_le (by have := HN.out; omega)] at hJw
            exact hJw
          gi_wp2
          go_ret
          exact ⟨true, rfl, .inl ⟨rfl, hJN, HWO.out⟩⟩
set_option maxRecDepth 100000 in
set_option maxHeartbeats 4000000 in
theorem all_seq (n : Nat) (g : Nat) {d : Nat} (hd : d ≤ 1000) {X P : Nat → Prop} {e : Ex} {r : Er} {w : World} (h : ExAt TE X d w e r) (hs : e.slim) (hXP : ∀ b, X b → ¬ P b) (hP : ∀ b, P b → b < w.heap.size) (hg : Flds w g TE r.cells) (hgP : ¬ P g) :
    SeqArg Fence.wide n Tryd.prog 26 #[.pointer (some ⟨g, 0, none⟩)] (PartA X d e.parts) (OnlyX w.heap.size P) e.parts.length w := by
  intro l J Jx W hW hJ hJx hY h0
  have hO : OnlyX w.heap.size P w W := OnlyX.of_below hW
  have hgW := Flds.onlyX hg hO hgP
  have HV := Lib.hid (visit_in d hd d n l 0 W.heap.size X P e.parts e r w W J Jx (Nat.le_refl _) h hXP hP hO (Nat.le_refl _) hJ (fun i x hx => by rw [Nat.zero_add]; exact hx) hs (fun k W1 xs hk hJ1 hA => yield_wide (hY k W1 xs hk hJ1 hA)) h0)
  obtain ⟨d', rfl⟩ := h.pos
  obtain ⟨av, cv, us, hlv, -⟩ := h.parts
  obtain ⟨rk, rop, rv, rtb, rnm, rlv⟩ := r
  dsimp only at hlv
  subst hlv
  have q0 := hgW.cell 0; have q1 := hgW.cell 1; have q2 := hgW.cell 2; have q3 := hgW.cell 3; have q4 := hgW.cell 4; have q5 := hgW.cell 5; have q6 := hgW.cell 6; have q7 := hgW.cell 7
  have hl := hgW.lt
  unfold Er.cells at q0 q1 q2 q3 q4 q5 q6 q7
  simp only [List.getElem?_cons_zero, List.getElem?_cons_succ] at q0 q1 q2 q3 q4 q5 q6 q7
  unfold Er.val at HV
  dsimp only at HV
  clear hY hJ hJx h0 h hg hgW hO hW
  refine callsIn_of_wp Tryd.func26 rfl trivial ?_ rfl
  simp only [Tryd.ntmps26, List.size_toArray, List.length_cons, List.length_nil, Nat.reduceAdd, Nat.reduceSub, Array.replicate_succ, Array.replicate_zero, List.push_toArray, List.append_toArray, List.nil_append, List.cons_append]
  gi_wp2_with fail
  refine ⟨trivial, (fun h => (by cases h)), (callsIn_wide.2 (callsIn_wide.1 HV.out)).mono ?_⟩
  rintro en W5 ⟨bb, rfl, hbb⟩
  have HBB := Lib.hid hbb
  clear hbb
  gi_wp2
  have hpost : J e.parts.length W5 ∨ ∃ k, k ≤ e.parts.length ∧ Jx k W5 := by
    rcases HBB.out with ⟨-, h1, -⟩ | ⟨-, h1⟩
    · exact .inl (by rw [Nat.zero_add] at h1; exact h1)
    · exact .inr h1
  refine (by first | exact bodyPost_end (results_none rfl _ _ _) rfl ⟨⟨_, rfl⟩, hpost⟩ | exact bodyPost_ret (results_none rfl _ _ _) rfl ⟨⟨_, rfl⟩, hpost⟩)
end Go.Proofs.YtfnajccnlcfbiaaDoor.ex
/- Parts of an expression as plain data, in memory. -/
namespace Go.Proofs.YtfnajccnlcfbiaaDoor.ex
set_option linter.unusedVariables false
open Go.RowKit
open val (V null veq6)
abbrev TP : TypeId := 50
def pCells (l : List Pt) : List Value := l.flatMap fun x => [.int .u8 x.k, .int .u8 x.op, .int .u8 x.vk, .int .u8 x.n, .int .i64 x.x, .string x.nm, .string x.tb]
def Pt.cells (x : Pt) : List Value := [.int .u8 x.k, .int .u8 x.op, .int .u8 x.vk, .int .u8 x.n, .int .i64 x.x, .string x.nm, .string x.tb]
theorem pCells_len (l : List Pt) : (pCells l).length = l.length * 7 := by
  induction l with
  | nil => rfl
  | cons a l ih => unfold pCells at ih ⊢; rw [List.flatMap_cons, List.length_append, ih]; simp; omega
theorem pCells_cons (v : Pt) (l : List Pt) : pCells (v :: l) = .int .u8 v.k :: .int .u8 v.op :: .int .u8 v.vk :: .int .u8 v.n :: .int .i64 v.x :: .string v.nm :: .string v.tb :: pCells l := rfl
theorem pCells_at : ∀ (l : List Pt) (j : Nat) (v : Pt), l[j]? = some v → (pCells l)[j * 7]? = some (.int .u8 v.k) ∧ (pCells l)[j * 7 + 1]? = some (.int .u8 v.op) ∧ (pCells l)[j * 7 + 2]? = some (.int .u8 v.vk) ∧ (pCells l)[j * 7 + 3]? = some (.int .u8 v.n) ∧ (pCells l)[j * 7 + 4]? = some (.int .i64 v.x) ∧ (pCells l)[j * 7 + 5]? = some (.string v.nm) ∧ (pCells l)[j * 7 + 6]? = some (.string v.tb)
  | [], j, v, h => by simp at h
  | a :: l, 0, v, h => by
    simp at h; subst h
    rw [pCells_cons]; simp
  | a :: l, j + 1, v, h => by
    have := pCells_at l j v (by simpa using h)
    rw [pCells_cons, show (j + 1) * 7 = j * 7 + 7 by omega]
    simpa using this
theorem pts_at0 {w : World} {b off cap n : Nat} {xs : List Pt} {k : Nat} {x : Pt} (hv : Row w (.slice (some ⟨b, off, none⟩) n cap) 7 n (pCells xs)) (hk : k < n) (hx : xs[k]? = some x) (wq : World) (hb : Below w.heap.size w wq) :
    wq.cell? ⟨b, off + k * 7, none⟩ = some (.int .u8 x.k) ∧ wq.cell? ⟨b, off + k * 7 + 1, none⟩ = some (.int .u8 x.op) ∧ wq.cell? ⟨b, off + k * 7 + 2, none⟩ = some (.int .u8 x.vk) ∧ wq.cell? ⟨b, off + k * 7 + 3, none⟩ = some (.int .u8 x.n) ∧ wq.cell? ⟨b, off + k * 7 + 4, none⟩ = some (.int .i64 x.x) ∧ wq.cell? ⟨b, off + k * 7 + 5, none⟩ = some (.string x.nm) ∧ wq.cell? ⟨b, off + k * 7 + 6, none⟩ = some (.string x.tb) ∧ b < wq.heap.size := by
  obtain ⟨b', off', cap', ea, hcell⟩ := (hv.later hb).pos (by omega)
  simp only [Value.slice.injEq, Option.some.injEq, Addr.mk.injEq] at ea
  obtain ⟨⟨rfl, rfl, -⟩, -, rfl⟩ := ea
  obtain ⟨c0, c1, c2, c3, c4, c5, c6⟩ := pCells_at xs k _ hx
  have g0 := (hcell (k * 7) (by omega)).trans c0
  have g1 := (hcell (k * 7 + 1) (by omega)).trans c1
  have g2 := (hcell (k * 7 + 2) (by omega)).trans c2
  have g3 := (hcell (k * 7 + 3) (by omega)).trans c3
  have g4 := (hcell (k * 7 + 4) (by omega)).trans c4
  have g5 := (hcell (k * 7 + 5) (by omega)).trans c5
  have g6 := (hcell (k * 7 + 6) (by omega)).trans c6
  rw [← Nat.add_assoc] at g1 g2 g3 g4 g5 g6
  exact ⟨g0, g1, g2, g3, g4, g5, g6, World.block_lt_of_cell? wq _ g0⟩
/-- an expression's cells, spelled -/
def eC (k op vk vn : Int) (vs tb nm : ByteArray) (L : Value) : List Value := [.int .i64 k, .int .i64 op, .int .i64 vk, .int .i64 vn, .string vs, .string tb, .string nm, L]
/-- what a builder has made before its loop -/
structure Pre (w : World) (g8 g9 : Nat) (x : Pt) (fs : List Value) (W : World) : Prop where
  f6 : Flds W w.heap.size TQ (eC 0 0 0 0 ByteArray.empty ByteArray.empty ByteArray.empty (.slice none 0 0))
  f8 : Flds W g8 TP x.cells
  f9 : Flds W g9 TQ fs
  bel : Below w.heap.size w W
theorem Pre.set {w W : World} {g8 g9 : Nat} {x : Pt} {fs : List Value} (h : Pre w g8 g9 x fs W) (h8 : w.heap.size < g8) (h9 : g8 < g9) (i : Nat) (u : Value) : Pre w g8 g9 x (fs.set i u) (W.setCell ⟨g9, i, none⟩ u) :=
  ⟨h.f6.other _ _ (by show w.heap.size ≠ g9; omega), h.f8.other _ _ (by show g8 ≠ g9; omega), h.f9.set i u, h.bel.setCell (by show w.heap.size ≤ g9; omega) _⟩
theorem Pre.drew {w W : World} {g8 g9 : Nat} {x : Pt} {fs : List Value} (h : Pre w g8 g9 x fs W) : Pre w g8 g9 x fs W.drew := ⟨h.f6, h.f8, h.f9, h.bel.drew⟩
/-- two texts that are stored in any order -/
structure TwoG (w : World) (g8 g9 : Nat) (x : Pt) (f : ByteArray → ByteArray → List Value) (a1 b1 : ByteArray) (W : World) : Prop where
  go : ∃ a b, (a = ByteArray.empty ∨ a = a1) ∧ (b = ByteArray.empty ∨ b = b1) ∧ Pre w g8 g9 x (f a b) W
section
variable {w W W' : World} {g8 g9 : Nat} {x : Pt} {k op vk vn : Int} {vs a1 b1 : ByteArray} {L : Value}
/-- the texts of an expression in the making -/
def fT (k op vk vn : Int) (vs : ByteArray) (L : Value) (tb nm : ByteArray) : List Value := eC k op vk vn vs tb nm L
theorem TwoG.start (h : Pre w g8 g9 x (fT k op vk vn vs L ByteArray.empty ByteArray.empty) W) : TwoG w g8 g9 x (fT k op vk vn vs L) a1 b1 W.drew := ⟨⟨_, _, .inl rfl, .inl rfl, h.drew⟩⟩
theorem TwoG.part (h : TwoG w g8 g9 x (fT k op vk vn vs L) a1 b1 W) : W.cell? ⟨g8, 5, none⟩ = some (.string x.nm) ∧ W.cell? ⟨g8, 6, none⟩ = some (.string x.tb) ∧ g8 < W.heap.size := by
  obtain ⟨⟨a, b, -, -, hf⟩⟩ := h
  exact ⟨hf.f8.cell 5, hf.f8.cell 6, hf.f8.lt⟩
theorem TwoG.at (h : TwoG w g8 g9 x (fT k op vk vn vs L) a1 b1 W) : g9 < W.heap.size ∧ W.frozen? ⟨g9, 5, none⟩ = false ∧ W.frozen? ⟨g9, 6, none⟩ = false ∧ (∃ a, W.cell? ⟨g9, 5, none⟩ = some (.string a)) ∧ (∃ b, W.cell? ⟨g9, 6, none⟩ = some (.string b)) := by
  obtain ⟨⟨a, b, -, -, hf⟩⟩ := h
  exact ⟨hf.f9.lt, hf.f9.frozen 5, hf.f9.frozen 6, ⟨a, hf.f9.cell 5⟩, ⟨b, hf.f9.cell 6⟩⟩
theorem TwoG.set1 (h : TwoG w g8 g9 x (fT k op vk vn vs L) a1 b1 W) : (W.setCell ⟨g9, 5, none⟩ (.string a1)).cell? ⟨g9, 5, none⟩ = some (.string a1) := by
  obtain ⟨⟨a, b, -, -, hf⟩⟩ := h
  exact (hf.f9.set 5 (.string a1)).cell 5
theorem TwoG.set2 (h : TwoG w g8 g9 x (fT k op vk vn vs L) a1 b1 W) : (W.setCell ⟨g9, 6, none⟩ (.string b1)).cell? ⟨g9, 6, none⟩ = some (.string b1) := by
  obtain ⟨⟨a, b, -, -, hf⟩⟩ := h
  exact (hf.f9.set 6 (.string b1)).cell 6
theorem TwoG.st1 {u : Value} (h : W.cell? ⟨g9, 5, none⟩ = some u) {y : Value} (ht : W' = W.setCell ⟨g9, 6, none⟩ y) : W'.cell? ⟨g9, 5, none⟩ = some u := by
  rw [ht]; exact (World.cell?_setCell_other _ _ _ _ (by simp)).trans h
theorem TwoG.st2 {u : Value} (h : W.cell? ⟨g9, 6, none⟩ = some u) {y : Value} (ht : W' = W.setCell ⟨g9, 5, none⟩ y) : W'.cell? ⟨g9, 6, none⟩ = some u := by
  rw [ht]; exact (World.cell?_setCell_other _ _ _ _ (by simp)).trans h
theorem TwoG.k1 (h8 : w.heap.size < g8) (h9 : g8 < g9) (h : TwoG w g8 g9 x (fT k op vk vn vs L) a1 b1 W) (ht : W' = W.setCell ⟨g9, 5, none⟩ (.string a1)) : TwoG w g8 g9 x (fT k op vk vn vs L) a1 b1 W' := by
  obtain ⟨⟨a, b, ha, hb, hf⟩⟩ := h
  rw [ht]
  exact ⟨⟨a1, b, .inr rfl, hb, hf.set h8 h9 5 (.string a1)⟩⟩
theorem TwoG.k2 (h8 : w.heap.size < g8) (h9 : g8 < g9) (h : TwoG w g8 g9 x (fT k op vk vn vs L) a1 b1 W) (ht : W' = W.setCell ⟨g9, 6, none⟩ (.string b1)) : TwoG w g8 g9 x (fT k op vk vn vs L) a1 b1 W' := by
  obtain ⟨⟨a, b, ha, hb, hf⟩⟩ := h
  rw [ht]
  exact ⟨⟨a, b1, ha, .inr rfl, hf.set h8 h9 6 (.string b1)⟩⟩
theorem TwoG.fin (h : TwoG w g8 g9 x (fT k op vk vn vs L) a1 b1 W) (h1 : W.cell? ⟨g9, 5, none⟩ = some (.string a1)) (h2 : W.cell? ⟨g9, 6, none⟩ = some (.string b1)) : Pre w g8 g9 x (fT k op vk vn vs L a1 b1) W := by
  obtain ⟨⟨a, b, ha, hb, hf⟩⟩ := h
  have e1 := (hf.f9.cell 5).symm.trans h1
  have e2 := (hf.f9.cell 6).symm.trans h2
  unfold fT eC at e1 e2
  simp at e1 e2
  subst e1; subst e2
  exact hf
end
theorem builtF_some {ps : List Pt} {f a : Nat} {x : Pt} (h : ps[a]? = some x) : builtF ps (f + 1) a = (x.ex (kids (builtF ps f) x.num.toNat (a + 1)).1, (kids (builtF ps f) x.num.toNat (a + 1)).2) := by
  conv => lhs; unfold builtF
  rw [h]
theorem builtF_none {ps : List Pt} {f a : Nat} (h : ps.length ≤ a) : builtF ps f a = (leaf1, a + 1) := by
  cases f with
  | zero => rfl
  | succ f =>
    conv => lhs; unfold builtF
    rw [List.getElem?_eq_none h]
theorem kids_get (g : Nat → Ex × Nat) (n a j : Nat) (h : j < n) : (kids g n a).1[j]? = some (g (kids g j a).2).1 := by
  induction n with
  | zero => omega
  | succ n ih =>
    show ((kids g n a).1 ++ [(g (kids g n a).2).1])[j]? = _
    by_cases hj : j < n
    · rw [List.getElem?_append_left (by rw [kids_len]; exact hj)]; exact ih hj
    · have : j = n := by omega
      subst this
      rw [List.getElem?_append_right (by rw [kids_len]; omega), kids_len, Nat.sub_self]; rfl
theorem Pre.grown {w W W' : World} {g8 g9 : Nat} {x : Pt} {fs : List Value} {row : Option Nat} (h : Pre w g8 g9 x fs W) (hg : W.grownBy W' row) (hr : ∀ b, row = some b → w.heap.size < b ∧ g8 ≠ b ∧ g9 ≠ b) : Pre w g8 g9 x fs W' :=
  ⟨h.f6.grown hg (fun e => by have := (hr _ e.symm).1; omega), h.f8.grown hg (fun e => (hr _ e.symm).2.1 rfl), h.f9.grown hg (fun e => (hr _ e.symm).2.2 rfl), h.bel.grown hg h.bel.size (fun b e => by have := (hr b e).1; omega)⟩
theorem NewL.aside {T : TypeId} {B d : Nat} {l : List Ex} {j : Nat} {L : Value} {ss : List Er} {W W' : World} {g : Nat} (h : NewL T B d l j L ss W) (hg : W.grownBy W' (some g)) (hge : W.heap.size ≤ g) : NewL T B d l j L ss W' := by
  refine ⟨h.form, h.len, h.row.kept hg ?_, fun i x s hi hx hs => ?_⟩
  · cases hob : L.ownBlock with
    | none => exact .inl rfl
    | some b => exact .inr fun e => by have := (h.row.lt b hob).2; simp only [Option.some.injEq] at e; omega
  · have h1 := (h.at_ i x s hi hx hs).mono (Y := fun b => (B ≤ b ∧ L.ownBlock ≠ some b) ∧ b < W.heap.size) (Nat.le_refl _) (fun b hb hX => ⟨hX, hb⟩)
    exact (h1.grown hg (fun b e hX => by simp only [Option.some.injEq] at e; have := hX.2; omega)).mono (Nat.le_refl _) (fun b _ hX => hX.1)
/-- a number's last bit -/
theorem and_one (x : Int) : bits .and .i64 x 1 = x % 2 := by
  have e : (BitVec.ofInt 64 x &&& BitVec.ofInt 64 1).toNat = (x % 2).toNat := by
    rw [BitVec.toNat_and, BitVec.toNat_ofInt, BitVec.toNat_ofInt, show ((1 : Int) % ((2 ^ 64 : Nat) : Int)).toNat = 1 from by decide, Nat.and_one_is_mod]
    have h64 : ((2 ^ 64 : Nat) : Int) = 18446744073709551616 := by decide
    rw [h64]
    omega
  show IntKind.i64.wrap ((BitVec.ofInt 64 x &&& BitVec.ofInt 64 1).toNat : Int) = _
  rw [e, IntKind.wrap_i64]
  omega
/-- how far a builder's place is from the list's end -/
theorem builtF_room (ps : List Pt) (hps : ∀ x ∈ ps, PB x) (f a : Nat) (ha : a ≤ 3 * min a ps.length) : (builtF ps f a).2 ≤ 3 * ps.length + 1 := by
  have := builtF_span ps hps f a
  omega
theorem kids_room (ps : List Pt) (hps : ∀ x ∈ ps, PB x) (f a : Nat) (ha : a < ps.length) (n : Nat) : (kids (builtF ps f) n (a + 1)).2 + 2 ≤ n + 3 * min (kids (builtF ps f) n (a + 1)).2 ps.length := by
  have hk : ∀ n, (kids (builtF ps f) n (a + 1)).2 + 3 * min (a + 1) ps.length ≤ a + 1 + n + 3 * min (kids (builtF ps f) n (a + 1)).2 ps.length := by
    intro n
    induction n with
    | zero => simp [kids]
    | succ n ihn =>
      have := builtF_span ps hps f (kids (builtF ps f) n (a + 1)).2
      show (builtF ps f (kids (builtF ps f) n (a + 1)).2).2 + _ ≤ a + 1 + (n + 1) + 3 * min (builtF ps f (kids (builtF ps f) n (a + 1)).2).2 _
      omega
  have := hk n
  omega
end Go.Proofs.YtfnajccnlcfbiaaDoor.ex
