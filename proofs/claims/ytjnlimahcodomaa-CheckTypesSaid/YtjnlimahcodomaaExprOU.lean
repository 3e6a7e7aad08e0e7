/- Which expressions may be: the program's walk through the tree. -/
import Derived.Test.YtjnlimahcodomaaExprM
import Derived.Test.YtjnlimahcodomaaExprLN
import Derived.Test.YtjnlimahcodomaaJBC
import Derived.OwnWalk
import Derived.BigQuiet
import Derived.Lib.ItoaLen
namespace Go.Proofs.Ytjnlimahcodomaa.ex
set_option linter.unusedVariables false
open Go.RowKit
open val (V null veq6 gB ag3)
open lx (goodL)
attribute [local go_sem] Oper.semAt_some
theorem all_take {α : Type} {p : α → Prop} {l : List α} {j : Nat} {x : α} (h : ∀ y ∈ l.take j, p y) (hx : l[j]? = some x) (hp : p x) : ∀ y ∈ l.take (j + 1), p y := by
  intro y hy
  rw [List.take_add_one, hx] at hy
  rcases List.mem_append.1 hy with hy | hy
  · exact h y hy
  · simp only [Option.toList_some, List.mem_singleton] at hy
    rw [hy]; exact hp
end Go.Proofs.Ytjnlimahcodomaa.ex
/- Which expressions may be: the document's walk through the tree. -/
namespace Go.Proofs.Ytjnlimahcodomaa.ex
set_option linter.unusedVariables false
open Go.RowKit
open val (V null veq6 gB ag3)
open lx (goodL)
attribute [local go_sem] Oper.semAt_some
theorem run_eqlQ (k n : Int) (s : ByteArray) (k' n' : Int) (s' : ByteArray) (w : World) : (binOp .eql 26 (.agg #[.int .i64 k, .int .i64 n, .string s]) (.agg #[.int .i64 k', .int .i64 n', .string s'])).run Try.prog w = .ok (.bool (veq6 k n s k' n' s')) w := by
  rw [run_eql_struct]
  go_simp
  unfold veq6
  by_cases h1 : k = k' <;> by_cases h2 : n = n' <;> by_cases h3 : s.toList = s'.toList <;> simp [h1, h2, h3]
/-- whether it may be, its parts being such that may -/
theorem mayB_of {e : Ex} {g : Bool} (h : ∀ x ∈ e.l, mayE x (g || e.k == 8)) : mayB e g = (pB e.plain && !(e.k == 8 && g)) := by
  unfold mayB
  rw [Bool.eq_iff_iff, pB_iff, mayE_kids, Bool.and_eq_true, pB_iff]
  constructor
  · rintro ⟨h1, h2, -⟩
    exact ⟨h1, by cases g <;> simp_all⟩
  · rintro ⟨h1, h2⟩
    exact ⟨h1, by cases g <;> simp_all, h⟩
theorem may_no {e : Ex} {g : Bool} {x : Ex} (hx : x ∈ e.l) (h : ¬ mayE x (g || e.k == 8)) : mayB e g = false := pB_no.2 fun hh => h ((mayE_kids.1 hh).2.2 x hx)
theorem may1 (k op : Int) (v : V) (tb nm : ByteArray) (n : Nat) (hk : k = 1) : plainB k op v tb nm n = (pB (n = 0) && (pB (op = 0) && (tb.toList.isEmpty && (nm.toList.isEmpty && (gB v.k v.n v.s && (pB (v.k ≠ 2) || pB (0 ≤ v.n))))))) := by
  subst hk
  show pB _ = _
  rw [← empty_iff, ← empty_iff, ← pB_or, ← pB_bool (b := gB v.k v.n v.s), ← pB_and, ← pB_and, ← pB_and, ← pB_and, ← pB_and]
  apply pB_iff_eq
  unfold plainP
  simp
  constructor
  · rintro ⟨h1, h2, h3, h4, h5, h6⟩; exact ⟨h4, h1, h2, h3, h5, h6⟩
  · rintro ⟨h4, h1, h2, h3, h5, h6⟩; exact ⟨h1, h2, h3, h4, h5, h6⟩
theorem may2 (k op : Int) (v : V) (tb nm : ByteArray) (n : Nat) (hk : k = 2) : plainB k op v tb nm n = (pB (n = 0) && (pB (op = 0) && (pB (v = null) && (goodL nm.data.toList && (tb.toList.isEmpty || goodL tb.data.toList))))) := by
  subst hk
  show pB _ = _
  rw [← empty_iff, ← pB_bool (b := goodL nm.data.toList), ← pB_bool (b := goodL tb.data.toList), ← pB_or, ← pB_and, ← pB_and, ← pB_and, ← pB_and]
  apply pB_iff_eq
  unfold plainP
  simp
  constructor
  · rintro ⟨h1, h2, h3, h4, h5⟩; exact ⟨h3, h1, h2, h4, h5⟩
  · rintro ⟨h3, h1, h2, h4, h5⟩; exact ⟨h1, h2, h3, h4, h5⟩
theorem may_other (k op : Int) (v : V) (tb nm : ByteArray) (n : Nat) (h1 : k ≠ 1) (h2 : k ≠ 2) (h : v ≠ null ∨ tb ≠ ByteArray.empty ∨ nm ≠ ByteArray.empty) : plainB k op v tb nm n = false := by
  show pB _ = _
  rw [pB_no]
  unfold plainP
  rintro (h' | h' | h' | h' | h') <;> rcases h with h | h | h <;> simp_all
theorem may3 (k op : Int) (v : V) (tb nm : ByteArray) (n : Nat) (hk : k = 3) (hv : v = null) (h1 : tb = ByteArray.empty) (h2 : nm = ByteArray.empty) : plainB k op v tb nm n = (pB (n = 2) && (pB (1 ≤ op) && pB (op ≤ 14))) := by
  subst hk hv h1 h2
  show pB _ = _
  rw [← pB_and, ← pB_and]
  apply pB_iff_eq
  unfold plainP
  simp
theorem may4 (k op : Int) (v : V) (tb nm : ByteArray) (n : Nat) (hk : k = 4 ∨ k = 5 ∨ k = 6 ∨ k = 7) (hv : v = null) (h1 : tb = ByteArray.empty) (h2 : nm = ByteArray.empty) : plainB k op v tb nm n = (pB (n = 1) && pB (op = 0)) := by
  subst hv h1 h2
  show pB _ = _
  rw [← pB_and]
  apply pB_iff_eq
  unfold plainP
  rcases hk with rfl | rfl | rfl | rfl <;> simp [and_comm]
theorem may8 (k op : Int) (v : V) (tb nm : ByteArray) (n : Nat) (hk : k = 8) (hv : v = null) (h1 : tb = ByteArray.empty) (h2 : nm = ByteArray.empty) : plainB k op v tb nm n = (pB (1 ≤ op) && (pB (op ≤ 4) && (pB (n = 1) || (pB (n = 0) && pB (op = 1))))) := by
  subst hk hv h1 h2
  show pB _ = _
  rw [← pB_and, ← pB_or, ← pB_and, ← pB_and]
  apply pB_iff_eq
  unfold plainP
  simp
  intro _ _
  constructor
  · rintro (⟨a, b⟩ | b); exact .inr ⟨b, a⟩; exact .inl b
  · rintro (b | ⟨b, a⟩); exact .inr b; exact .inl ⟨a, b⟩
theorem of_nil {b : ByteArray} (h : b.toList = []) : b = ByteArray.empty := by
  rw [Lib.toList_data, Array.toList_eq_nil_iff] at h
  exact ByteArray.ext h
set_option maxRecDepth 100000 in
set_option maxHeartbeats 4000000 in
theorem may_any : ∀ (d : Nat), d ≤ 1000 → ∀ (X : Nat → Prop) (e : Ex) (r : Er) (w : World) (g : Bool), e.slim → Fit e → ExAt TQ X d w e r →
    Calls Try.prog 21 #[r.val, .bool g] w fun en w' => en = .returned (.bool (mayB e g)) ∧ Below w.heap.size w w'
  | 0, _, _, _, _, _, _, _, _, h => h.elim
  | d + 1, hd, X, e, r, w, g, hsl, hft, h => by
    have IH := Lib.hid (fun (e : Ex) (r : Er) (w : World) (g : Bool) (hs : e.slim) (hf : Fit e) (h : ExAt TQ X d w e r) => may_any d (by omega) X e r w g hs hf h)
    obtain ⟨av, cv, us, hlv, hul, hrow, hch⟩ := h.parts
    obtain ⟨hsl1, hsl2⟩ := Ex.slim_parts hsl
    have hfs := hft.self
    have HFK := Lib.hid (fun x (hx : x ∈ e.l) => hft.kid hx)
    obtain ⟨f1, f2, f3, f4, f5, -⟩ := h
    obtain ⟨n, hn⟩ : ∃ n, e.l.length = n := ⟨_, rfl⟩
    rw [hn] at hlv hul hrow hsl1
    have hs1 : r.nm.size ≤ 1099511627776 := by rw [f5]; have := hfs.1; omega
    have hs2 : r.tb.size ≤ 1099511627776 := by rw [f4]; have := hfs.2.1; omega
    obtain ⟨P, hP⟩ : ∃ P, pB e.plain = P := ⟨_, rfl⟩
    have HP : Hid (P = plainB r.k r.op r.v r.tb r.nm n) := Lib.hid (by rw [← hP, f1, f2, f3, f4, f5, ← hn]; rfl)
    have HK : Hid (e.k = r.k) := Lib.hid f1.symm
    have HMB : Hid (∀ h : (∀ x ∈ e.l, mayE x (g || e.k == 8)), mayB e g = (P && !(r.k == 8 && g))) := Lib.hid (fun h => by rw [mayB_of h, hP, f1])
    have HN := Lib.hid hn; have HUL := Lib.hid hul; have HR := Lib.hid hrow; have HC := Lib.hid hch; have HSL := Lib.hid hsl2
    have hn0 : (0 : Int) ≤ (n : Int) := by omega
    have hn1 : (n : Int) ≤ 1000 := by omega
    obtain ⟨rk, rop, rv, rtb, rnm, rlv⟩ := r
    dsimp only at hlv hs1 hs2
    subst hlv
    unfold Er.val
    dsimp only at HK HP HMB ⊢
    have HS1 := Lib.hid hs1
    have HS2 := Lib.hid hs2
    clear hn hul hrow hch hsl hsl2 hft hfs f1 f2 f3 f4 f5 hP hs1 hs2
    have hfe : Flds ((w.alloc (.cells #[.int .i64 rk, .int .i64 rop, .int .i64 rv.k, .int .i64 rv.n, .string rv.s, .string rtb, .string rnm, .slice av n cv] TQ)).alloc (.cells #[.int .i64 0, .int .i64 0, .string (ByteArray.mk #[])] 26)) w.heap.size TQ [.int .i64 rk, .int .i64 rop, .int .i64 rv.k, .int .i64 rv.n, .string rv.s, .string rtb, .string rnm, .slice av n cv] := (Flds.new w TQ _).alloc _
    have hfn : Flds ((w.alloc (.cells #[.int .i64 rk, .int .i64 rop, .int .i64 rv.k, .int .i64 rv.n, .string rv.s, .string rtb, .string rnm, .slice av n cv] TQ)).alloc (.cells #[.int .i64 0, .int .i64 0, .string (ByteArray.mk #[])] 26)) (w.heap.size + 1) 26 [.int .i64 0, .int .i64 0, .string (ByteArray.mk #[])] := by
      have := Flds.new (w.alloc (.cells #[.int .i64 rk, .int .i64 rop, .int .i64 rv.k, .int .i64 rv.n, .string rv.s, .string rtb, .string rnm, .slice av n cv] TQ)) 26 [.int .i64 0, .int .i64 0, .string (ByteArray.mk #[])]
      rw [World.size_alloc] at this; exact this
    have hb0 : Below w.heap.size w ((w.alloc (.cells #[.int .i64 rk, .int .i64 rop, .int .i64 rv.k, .int .i64 rv.n, .string rv.s, .string rtb, .string rnm, .slice av n cv] TQ)).alloc (.cells #[.int .i64 0, .int .i64 0, .string (ByteArray.mk #[])] 26)) := ((Below.refl _ _).alloc (Nat.le_refl _) _).alloc (by simp) _
    obtain ⟨W1, hW1⟩ : ∃ W1, ((w.alloc (.cells #[.int .i64 rk, .int .i64 rop, .int .i64 rv.k, .int .i64 rv.n, .string rv.s, .string rtb, .string rnm, .slice av n cv] TQ)).alloc (.cells #[.int .i64 0, .int .i64 0, .string (ByteArray.mk #[])] 26)) = W1 := ⟨_, rfl⟩
    obtain ⟨gN, hgN⟩ : ∃ gN, w.heap.size + 1 = gN := ⟨_, rfl⟩
    rw [hW1] at hfe hfn hb0
    rw [hgN] at hfn
    have HFE := Lib.hid hfe; have HFN := Lib.hid hfn; have HB0 := Lib.hid hb0; have HW1 := Lib.hid hW1; have HGN := Lib.hid hgN
    clear hfe hfn hb0 hW1 hgN
    obtain ⟨G8, hG8⟩ : ∃ G8, (g || rk == 8) = G8 := ⟨_, rfl⟩
    have HG8 := Lib.hid hG8
    clear hG8
    go_enter Try.func21, Try.ntmps21
    go_upto_region 2 with fail
    rw [HW1.out, HGN.out]
    go_wp2_with fail
    go_loopw [6] (fun i wr => ∃ j : Nat, i = .int .i64 (j : Int) ∧ j ≤ n ∧ Hid (∀ x ∈ e.l.take j, mayE x G8) ∧ Hid (Below W1.heap.size W1 wr)) (fun i _ => n - (intOf i).toNat)
    case atStart => exact ⟨0, rfl, Nat.zero_le _, Lib.hid (fun x hx => by simp at hx), Lib.hid (Below.refl _ _)⟩
    case round =>
      obtain ⟨j, rfl, hj, HALL, HB⟩ := hrel
      have j0 : (0 : Int) ≤ (j : Int) := by omega
      have HBW := Lib.hid (HB0.out.trans (HB.out.mono HB0.out.size))
      obtain ⟨y0, y1, y2, y3, y4, y5, y6, y7, l3⟩ := of_fe (HFE.out.later HB.out)
      by_cases hjn : j < n
      · have dj : (j : Int) < (n : Int) := by omega
        have hja : j < e.l.length := by have := HN.out; omega
        have hju : j < us.length := by have := HUL.out; omega
        have hx := List.getElem?_eq_getElem hja
        have hu := List.getElem?_eq_getElem hju
        have HXS := Lib.hid (HSL.out _ (List.getElem_mem hja))
        have HXF := Lib.hid (HFK.out _ (List.getElem_mem hja))
        have HXM := Lib.hid (List.getElem_mem hja)
        generalize e.l[j] = x at hx HXS HXF HXM
        generalize us[j] = u at hu
        have hxu := (HC.out j x u hx hu).later HBW.out
        obtain ⟨ga, rfl, -⟩ := part_cells (owns_below HR.out HBW.out) hjn hu
        obtain ⟨d', rfl⟩ := hxu.pos
        obtain ⟨au, cu, us', hul', -⟩ := hxu.parts
        obtain ⟨uk, uop, uv, utb, unm, ulv⟩ := u
        dsimp only at hul'
        subst hul'
        obtain ⟨Gx, hGx⟩ : ∃ Gx, mayB x G8 = Gx := ⟨_, rfl⟩
        have HGX := Lib.hid hGx
        have HPA := Lib.hid (fun (W : World) (hb : Below wr.heap.size wr W) => part_cells (owns_below HR.out (HBW.out.trans (hb.mono HBW.out.size))) hjn hu)
        have HFW := Lib.hid (fun (W : World) (hb : Below wr.heap.size wr W) => of_fe (HFE.out.later (HB.out.trans (hb.mono HB.out.size))))
        have HC1 := Lib.hid (fun (W : World) (hb : Below wr.heap.size wr W) => show Calls Try.prog 21 #[.agg #[.int .i64 uk, .int .i64 uop, .int .i64 uv.k, .int .i64 uv.n, .string uv.s, .string utb, .string unm, .slice au x.l.length cu], .bool G8] W (fun en w' => en = .returned (.bool Gx) ∧ Below W.heap.size W w') from hGx ▸ IH.out x ⟨uk, uop, uv, utb, unm, .slice au x.l.length cu⟩ W G8 HXS.out HXF.out (hxu.later hb))
        have HXX := Lib.hid hx
        clear hx hu hxu hja hju hGx y0 y1 y2 y3 y4 y5 y6 y7 l3
        have hcut : wr = wr := rfl
        obtain ⟨y0, y1, y2, y3, y4, y5, y6, y7, l3⟩ := of_fe (HFE.out.later HB.out)
        go_upto_region 5 with fail
        clear y0 y1 y2 y3 y4 y5 y6 y7 l3 hcut
        cases g with
        | false =>
          have hg8 : (rk == 8) = G8 := by have := HG8.out; simpa using this
          as_aux_lemma =>
          apply ag.region_calm (ag.Spec.val _ :: ag.Spec.val _ :: ag.Spec.val _ :: ag.Spec.val _ :: ag.Spec.val _ :: ag.Spec.val _ :: ag.Spec.val _ :: ag.Spec.val _ :: ag.Spec.val _ :: ag.Spec.val (.bool G8) :: ag.Spec.val _ :: ag.Spec.sat (fun v _ => v = .bool Gx) ag.grew :: ag.Spec.val (.bool (!Gx)) :: [])
          case hm => kernel_rfl
          case hB => kernel_rfl
          case hlen => rfl
          case hc => exact ⟨⟨ag.lasts_eq _, rfl⟩, trivial⟩
          apply ag.walk_val
          · rfl
          · intro W1 hS hE
            clear hS hE
            unfold ag.does
            go_simp
            first | done | exact ⟨rfl, rfl⟩ | rfl | (exact ⟨by go_num, rfl⟩) | (simp; done) | trace_state
          simp only [Act.put, List.setIfInBounds_toArray, List.set_cons_zero, List.set_cons_succ]
          apply ag.walk_val
          · rfl
          · intro W1 hS hE
            obtain ⟨y0, y1, y2, y3, y4, y5, y6, y7, l3⟩ := HFW.out W1 hS
            clear hS hE
            unfold ag.does
            go_simp
            first | done | exact ⟨rfl, rfl⟩ | rfl | (exact ⟨by go_num, rfl⟩) | (simp; done) | trace_state
          simp only [Act.put, List.setIfInBounds_toArray, List.set_cons_zero, List.set_cons_succ]
          apply ag.walk_val
          · rfl
          · intro W1 hS hE
            clear hS hE
            unfold ag.does
            go_simp
            first | done | exact ⟨rfl, rfl⟩ | rfl | (exact ⟨by go_num, rfl⟩) | (simp; done) | trace_state
          simp only [Act.put, List.setIfInBounds_toArray, List.set_cons_zero, List.set_cons_succ]
          apply ag.walk_val
          · rfl
          · intro W1 hS hE
            clear hS hE
            unfold ag.does
            go_simp
            first | done | exact ⟨rfl, rfl⟩ | rfl | (exact ⟨by go_num, rfl⟩) | (simp; done) | trace_state
          simp only [Act.put, List.setIfInBounds_toArray, List.set_cons_zero, List.set_cons_succ]
          apply ag.walk_val
          · rfl
          · intro W1 hS hE
            obtain ⟨gq, ge, gl, c0, c1, c2, c3, c4, c5, c6, c7⟩ := HPA.out W1 hS
            (simp only [Option.some.injEq, Addr.mk.injEq, and_true] at ge)
            subst ge
            clear hS hE
            unfold ag.does
            go_simp
            first | done | exact ⟨rfl, rfl⟩ | rfl | (exact ⟨by go_num, rfl⟩) | (simp; done) | trace_state
          simp only [Act.put, List.setIfInBounds_toArray, List.set_cons_zero, List.set_cons_succ]
          apply ag.walk_val
          · rfl
          · intro W1 hS hE
            clear hS hE
            unfold ag.does
            go_simp
            first | done | exact ⟨rfl, rfl⟩ | rfl | (exact ⟨by go_num, rfl⟩) | (simp; done) | trace_state
          simp only [Act.put, List.setIfInBounds_toArray, List.set_cons_zero, List.set_cons_succ]
          apply ag.walk_val
          · rfl
          · intro W1 hS hE
            clear hS hE
            unfold ag.does
            go_simp
            first | done | exact ⟨rfl, rfl⟩ | rfl | (exact ⟨by go_num, rfl⟩) | (simp; done) | trace_state
          simp only [Act.put, List.setIfInBounds_toArray, List.set_cons_zero, List.set_cons_succ]
          apply ag.walk_val
          · rfl
          · intro W1 hS hE
            clear hS hE
            unfold ag.does
            go_simp
            first | done | exact ⟨rfl, rfl⟩ | rfl | (exact ⟨by go_num, rfl⟩) | (simp; done) | trace_state
          simp only [Act.put, List.setIfInBounds_toArray, List.set_cons_zero, List.set_cons_succ]
          apply ag.walk_val
          · rfl
          · intro W1 hS hE
            obtain ⟨y0, y1, y2, y3, y4, y5, y6, y7, l3⟩ := HFW.out W1 hS
            clear hS hE
            unfold ag.does
            go_simp
            first | done | exact ⟨rfl, rfl⟩ | rfl | (exact ⟨by go_num, rfl⟩) | (simp; done) | trace_state
          simp only [Act.put, List.setIfInBounds_toArray, List.set_cons_zero, List.set_cons_succ]
          apply ag.walk_val
          · rfl
          · intro W1 hS hE
            clear hS hE
            unfold ag.does
            go_simp
            first | done | exact ⟨rfl, rfl⟩ | rfl | (exact ⟨by go_num, rfl⟩) | (simp; done) | trace_state
          simp only [Act.put, List.setIfInBounds_toArray, List.set_cons_zero, List.set_cons_succ]
          apply ag.walk_val
          · rfl
          · intro W1 hS hE
            clear hS hE
            unfold ag.does
            go_simp
            first | done | exact ⟨rfl, rfl⟩ | rfl | (exact ⟨by go_num, rfl⟩) | (simp; done) | trace_state
          simp only [Act.put, List.setIfInBounds_toArray, List.set_cons_zero, List.set_cons_succ]
          refine ag.walk_such (by rfl) (fun W1 hS hE => ?_) (fun y11 => ?_)
          · have hc := HC1.out W1 hS
            clear hE
            unfold ag.does
            go_simp
            first | done | (exact hc.mono (fun e w' h => ⟨_, h.1, rfl, h.2⟩))
          simp only [Act.put, List.setIfInBounds_toArray, List.set_cons_zero, List.set_cons_succ]
          apply ag.walk_val
          · rfl
          · intro W1 hS hE
            have e11 : y11 = .bool Gx := hE.of 11 (by kernel_rfl)
            subst e11
            clear hS hE
            unfold ag.does
            go_simp
            first | done | exact ⟨rfl, rfl⟩ | rfl | (exact ⟨by go_num, rfl⟩) | (simp; done) | trace_state
          simp only [Act.put, List.setIfInBounds_toArray, List.set_cons_zero, List.set_cons_succ]
          refine ag.walk_nil (fun w9 hS hF hP => ?_)
          clear hP
          clear hF
          have HS := Lib.hid (HB.out.trans (hS.mono HB.out.size))
          clear hS
          cases Gx with
          | true =>
            go_wp2_with fail
            go_roundw
            case rel => exact ⟨j + 1, by go_num, by omega, Lib.hid (all_take HALL.out HXX.out (pB_iff.1 HGX.out)), HS⟩
            case measure => simp [intOf]; omega
          | false =>
            have hno : Hid (mayB e false = false) := Lib.hid (may_no HXM.out (by rw [HK.out, HG8.out]; exact pB_no.1 HGX.out))
            go_wp2_with fail
            go_ret
            exact ⟨by first | (rw [hno.out]; done) | (rw [hno.out]; rfl), HB0.out.trans (HS.out.mono HB0.out.size)⟩
        | true =>
          have hg8 : G8 = true := by rw [← HG8.out]; rfl
          subst hg8
          as_aux_lemma =>
          apply ag.region_calm (ag.Spec.val _ :: ag.Spec.val _ :: ag.Spec.val _ :: ag.Spec.val _ :: ag.Spec.val _ :: ag.Spec.val _ :: ag.Spec.val _ :: ag.Spec.val undef :: ag.Spec.val undef :: ag.Spec.val undef :: ag.Spec.val _ :: ag.Spec.sat (fun v _ => v = .bool Gx) ag.grew :: ag.Spec.val (.bool (!Gx)) :: [])
          case hm => kernel_rfl
          case hB => kernel_rfl
          case hlen => rfl
          case hc => exact ⟨⟨ag.lasts_eq _, rfl⟩, trivial⟩
          apply ag.walk_val
          · rfl
          · intro W1 hS hE
            clear hS hE
            unfold ag.does
            go_simp
            first | done | exact ⟨rfl, rfl⟩ | rfl | (exact ⟨by go_num, rfl⟩) | (simp; done) | trace_state
          simp only [Act.put, List.setIfInBounds_toArray, List.set_cons_zero, List.set_cons_succ]
          apply ag.walk_val
          · rfl
          · intro W1 hS hE
            obtain ⟨y0, y1, y2, y3, y4, y5, y6, y7, l3⟩ := HFW.out W1 hS
            clear hS hE
            unfold ag.does
            go_simp
            first | done | exact ⟨rfl, rfl⟩ | rfl | (exact ⟨by go_num, rfl⟩) | (simp; done) | trace_state
          simp only [Act.put, List.setIfInBounds_toArray, List.set_cons_zero, List.set_cons_succ]
          apply ag.walk_val
          · rfl
          · intro W1 hS hE
            clear hS hE
            unfold ag.does
            go_simp
            first | done | exact ⟨rfl, rfl⟩ | rfl | (exact ⟨by go_num, rfl⟩) | (simp; done) | trace_state
          simp only [Act.put, List.setIfInBounds_toArray, List.set_cons_zero, List.set_cons_succ]
          apply ag.walk_val
          · rfl
          · intro W1 hS hE
            clear hS hE
            unfold ag.does
            go_simp
            first | done | exact ⟨rfl, rfl⟩ | rfl | (exact ⟨by go_num, rfl⟩) | (simp; done) | trace_state
          simp only [Act.put, List.setIfInBounds_toArray, List.set_cons_zero, List.set_cons_succ]
          apply ag.walk_val
          · rfl
          · intro W1 hS hE
            obtain ⟨gq, ge, gl, c0, c1, c2, c3, c4, c5, c6, c7⟩ := HPA.out W1 hS
            (simp only [Option.some.injEq, Addr.mk.injEq, and_true] at ge)
            subst ge
            clear hS hE
            unfold ag.does
            go_simp
            first | done | exact ⟨rfl, rfl⟩ | rfl | (exact ⟨by go_num, rfl⟩) | (simp; done) | trace_state
          simp only [Act.put, List.setIfInBounds_toArray, List.set_cons_zero, List.set_cons_succ]
          apply ag.walk_val
          · rfl
          · intro W1 hS hE
            clear hS hE
            unfold ag.does
            go_simp
            first | done | exact ⟨rfl, rfl⟩ | rfl | (exact ⟨by go_num, rfl⟩) | (simp; done) | trace_state
          simp only [Act.put, List.setIfInBounds_toArray, List.set_cons_zero, List.set_cons_succ]
          apply ag.walk_val
          · rfl
          · intro W1 hS hE
            clear hS hE
            unfold ag.does
            go_simp
            first | done | exact ⟨rfl, rfl⟩ | rfl | (exact ⟨by go_num, rfl⟩) | (simp; done) | trace_state
          simp only [Act.put, List.setIfInBounds_toArray, List.set_cons_zero, List.set_cons_succ]
          refine ag.walk_skip (by rfl) ?_
          simp only [Act.put, List.setIfInBounds_toArray, List.set_cons_zero, List.set_cons_succ]
          refine ag.walk_skip (by rfl) ?_
          simp only [Act.put, List.setIfInBounds_toArray, List.set_cons_zero, List.set_cons_succ]
          refine ag.walk_skip (by rfl) ?_
          simp only [Act.put, List.setIfInBounds_toArray, List.set_cons_zero, List.set_cons_succ]
          apply ag.walk_val
          · rfl
          · intro W1 hS hE
            clear hS hE
            unfold ag.does
            go_simp
            first | done | exact ⟨rfl, rfl⟩ | rfl | (exact ⟨by go_num, rfl⟩) | (simp; done) | trace_state
          simp only [Act.put, List.setIfInBounds_toArray, List.set_cons_zero, List.set_cons_succ]
          refine ag.walk_such (by rfl) (fun W1 hS hE => ?_) (fun y11 => ?_)
          · have hc := HC1.out W1 hS
            clear hE
            unfold ag.does
            go_simp
            first | done | (exact hc.mono (fun e w' h => ⟨_, h.1, rfl, h.2⟩))
          simp only [Act.put, List.setIfInBounds_toArray, List.set_cons_zero, List.set_cons_succ]
          apply ag.walk_val
          · rfl
          · intro W1 hS hE
            have e11 : y11 = .bool Gx := hE.of 11 (by kernel_rfl)
            subst e11
            clear hS hE
            unfold ag.does
            go_simp
            first | done | exact ⟨rfl, rfl⟩ | rfl | (exact ⟨by go_num, rfl⟩) | (simp; done) | trace_state
          simp only [Act.put, List.setIfInBounds_toArray, List.set_cons_zero, List.set_cons_succ]
          refine ag.walk_nil (fun w9 hS hF hP => ?_)
          clear hP
          clear hF
          have HS := Lib.hid (HB.out.trans (hS.mono HB.out.size))
          clear hS
          cases Gx with
          | true =>
            go_wp2_with fail
            go_roundw
            case rel => exact ⟨j + 1, by go_num, by omega, Lib.hid (all_take HALL.out HXX.out (pB_iff.1 HGX.out)), HS⟩
            case measure => simp [intOf]; omega
          | false =>
            have hno : Hid (mayB e true = false) := Lib.hid (may_no HXM.out (by rw [Bool.true_or]; exact pB_no.1 HGX.out))
            go_wp2_with fail
            go_ret
            exact ⟨by first | (rw [hno.out]; done) | (rw [hno.out]; rfl), HB0.out.trans (HS.out.mono HB0.out.size)⟩
      · have dj : ¬ (j : Int) < (n : Int) := by omega
        have hjn' : j = n := by omega
        have HMR : Hid (mayB e g = (P && !(rk == 8 && g))) := Lib.hid (HMB.out (fun x hx => by rw [HK.out, HG8.out]; exact HALL.out x (by rw [List.take_of_length_le (by have := HN.out; omega)]; exact hx)))
        have HFR := Lib.hid (HFE.out.later HB.out)
        have hfnr := HFN.out.later HB.out
        have t0 := hfnr.cell 0; have t1 := hfnr.cell 1; have t2 := hfnr.cell 2; have lt' := hfnr.lt
        simp only [List.getElem?_cons_zero, List.getElem?_cons_succ] at t0 t1 t2
        subst hjn'
        clear hfnr hj HMB
        obtain ⟨y0, y1, y2, y3, y4, y5, y6, y7, l3⟩ := of_fe HFR.out
        by_cases k1 : rk = 1
        · have b1 : (rk == 1) = true := by simp; omega
          have HPL := Lib.hid (may1 rk rop rv rtb rnm j k1)
          have k18 : ((rk == 8) = false) := by simp; omega
          clear k1
          obtain ⟨G, hG⟩ : ∃ G, gB rv.k rv.n rv.s = G := ⟨_, rfl⟩
          have HGD := Lib.hid (fun (W : World) => val.rgood_any rv.k rv.n rv.s W)
          rw [hG] at HGD HPL
          unfold ag3 at HGD
          clear hG
          by_cases hn0 : j = 0
          · subst hn0
            by_cases eo : rop = 0
            · have bo : (rop == 0) = true := by simp [eo]
              have HEO := Lib.hid eo
              clear eo
              by_cases etrtb : rtb.toList = []
              · have bertb : rtb.toList.isEmpty = true := by rw [etrtb]; rfl
                by_cases etrnm : rnm.toList = []
                · have bernm : rnm.toList.isEmpty = true := by rw [etrnm]; rfl
                  cases G with
                  | false =>
                    as_aux_lemma =>
                    have HV : Hid (mayB e g = false) := Lib.hid (by rw [HMR.out, HP.out, HPL.out]; first | (simp [pB, k18, HEO.out, bertb, bernm]; done) | (rw [Bool.eq_iff_iff]; simp [pB, k18, HEO.out, bertb, bernm]; first | done | omega))
                    go_wp2_with (go_at_call 35; refine (HGD.out _).mono ?_; rintro en w3 ⟨rfl, hb3⟩; have HB3 := Lib.hid (HBW.out.trans (hb3.mono HBW.out.size)); obtain ⟨d0, d1, d2, d3, d4, d5, d6, d7, l4⟩ := of_fe (HFR.out.later hb3); clear hb3)
                    go_ret
                    exact ⟨by first | (rw [HV.out]; done) | (rw [HV.out]; rfl), HB3.out⟩
                  | true =>
                    by_cases e2 : rv.k = 2
                    · have be : (rv.k != 2) = false := by simp [e2]
                      as_aux_lemma =>
                      have HV : Hid (mayB e g = decide (0 ≤ rv.n)) := Lib.hid (by rw [HMR.out, HP.out, HPL.out]; first | (simp [pB, k18, HEO.out, bertb, bernm, e2, b1]; done) | (rw [Bool.eq_iff_iff]; simp [pB, k18, HEO.out, bertb, bernm, e2, b1]; first | done | omega))
                      clear e2
                      go_wp2_with (go_at_call 35; refine (HGD.out _).mono ?_; rintro en w3 ⟨rfl, hb3⟩; have HB3 := Lib.hid (HBW.out.trans (hb3.mono HBW.out.size)); obtain ⟨d0, d1, d2, d3, d4, d5, d6, d7, l4⟩ := of_fe (HFR.out.later hb3); clear hb3)
                      go_ret
                      exact ⟨by first | (rw [HV.out]; done) | (rw [HV.out]; rfl), HB3.out⟩
                    · have be : (rv.k != 2) = true := by simp [e2]
                      as_aux_lemma =>
                      have HV : Hid (mayB e g = true) := Lib.hid (by rw [HMR.out, HP.out, HPL.out]; first | (simp [pB, k18, HEO.out, bertb, bernm, e2, b1]; done) | (rw [Bool.eq_iff_iff]; simp [pB, k18, HEO.out, bertb, bernm, e2, b1]; first | done | omega))
                      clear e2
                      go_wp2_with (go_at_call 35; refine (HGD.out _).mono ?_; rintro en w3 ⟨rfl, hb3⟩; have HB3 := Lib.hid (HBW.out.trans (hb3.mono HBW.out.size)); obtain ⟨d0, d1, d2, d3, d4, d5, d6, d7, l4⟩ := of_fe (HFR.out.later hb3); clear hb3)
                      go_ret
                      exact ⟨by first | (rw [HV.out]; done) | (rw [HV.out]; rfl), HB3.out⟩
                · have bernm : rnm.toList.isEmpty = false := by cases h : rnm.toList with | nil => exact absurd h etrnm | cons _ _ => rfl
                  as_aux_lemma =>
                  have HV : Hid (mayB e g = false) := Lib.hid (by rw [HMR.out, HP.out, HPL.out]; first | (simp [pB, k18, HEO.out, bertb, bernm]; done) | (rw [Bool.eq_iff_iff]; simp [pB, k18, HEO.out, bertb, bernm]; first | done | omega))
                  go_wp2_with (go_at_call 35; refine (HGD.out _).mono ?_; rintro en w3 ⟨rfl, hb3⟩; have HB3 := Lib.hid (HBW.out.trans (hb3.mono HBW.out.size)); obtain ⟨d0, d1, d2, d3, d4, d5, d6, d7, l4⟩ := of_fe (HFR.out.later hb3); clear hb3)
                  go_ret
                  exact ⟨by first | (rw [HV.out]; done) | (rw [HV.out]; rfl), HBW.out⟩
              · have bertb : rtb.toList.isEmpty = false := by cases h : rtb.toList with | nil => exact absurd h etrtb | cons _ _ => rfl
                as_aux_lemma =>
                have HV : Hid (mayB e g = false) := Lib.hid (by rw [HMR.out, HP.out, HPL.out]; first | (simp [pB, k18, HEO.out, bertb]; done) | (rw [Bool.eq_iff_iff]; simp [pB, k18, HEO.out, bertb]; first | done | omega))
                go_wp2_with (go_at_call 35; refine (HGD.out _).mono ?_; rintro en w3 ⟨rfl, hb3⟩; have HB3 := Lib.hid (HBW.out.trans (hb3.mono HBW.out.size)); obtain ⟨d0, d1, d2, d3, d4, d5, d6, d7, l4⟩ := of_fe (HFR.out.later hb3); clear hb3)
                go_ret
                exact ⟨by first | (rw [HV.out]; done) | (rw [HV.out]; rfl), HBW.out⟩
            · have bo : (rop == 0) = false := by simp [eo]
              as_aux_lemma =>
              have HV : Hid (mayB e g = false) := Lib.hid (by rw [HMR.out, HP.out, HPL.out]; first | (simp [pB, k18, eo]; done) | (rw [Bool.eq_iff_iff]; simp [pB, k18, eo]; first | done | omega))
              clear eo
              go_wp2_with (go_at_call 35; refine (HGD.out _).mono ?_; rintro en w3 ⟨rfl, hb3⟩; have HB3 := Lib.hid (HBW.out.trans (hb3.mono HBW.out.size)); obtain ⟨d0, d1, d2, d3, d4, d5, d6, d7, l4⟩ := of_fe (HFR.out.later hb3); clear hb3)
              go_ret
              exact ⟨by first | (rw [HV.out]; done) | (rw [HV.out]; rfl), HBW.out⟩
          · have bn : ((j : Int) == 0) = false := by simp; omega
            as_aux_lemma =>
            have HV : Hid (mayB e g = false) := Lib.hid (by rw [HMR.out, HP.out, HPL.out]; first | (simp [pB, k18, hn0]; done) | (rw [Bool.eq_iff_iff]; simp [pB, k18, hn0]; first | done | omega))
            clear hn0
            go_wp2_with (go_at_call 35; refine (HGD.out _).mono ?_; rintro en w3 ⟨rfl, hb3⟩; have HB3 := Lib.hid (HBW.out.trans (hb3.mono HBW.out.size)); obtain ⟨d0, d1, d2, d3, d4, d5, d6, d7, l4⟩ := of_fe (HFR.out.later hb3); clear hb3)
            go_ret
            exact ⟨by first | (rw [HV.out]; done) | (rw [HV.out]; rfl), HBW.out⟩
        have b1 : (rk == 1) = false := by simp; omega
        by_cases k2 : rk = 2
        · have b2 : (rk == 2) = true := by simp; omega
          have HPL := Lib.hid (may2 rk rop rv rtb rnm j k2)
          have k18 : ((rk == 8) = false) := by simp; omega
          clear k1 k2
          obtain ⟨G1, hG1⟩ : ∃ G1, goodL rnm.data.toList = G1 := ⟨_, rfl⟩
          obtain ⟨G2, hG2⟩ : ∃ G2, goodL rtb.data.toList = G2 := ⟨_, rfl⟩
          have HL1 := Lib.hid (fun (W : World) => lx.rgood_any rnm HS1.out W)
          have HL2 := Lib.hid (fun (W : World) => lx.rgood_any rtb HS2.out W)
          rw [hG1] at HL1 HPL
          rw [hG2] at HL2 HPL
          clear hG1 hG2
          by_cases hn0 : j = 0
          · subst hn0
            by_cases eo : rop = 0
            · have bo : (rop == 0) = true := by simp [eo]
              have HEO := Lib.hid eo
              clear eo
              by_cases ev : rv = null
              · have hq : ∀ W : World, (binOp .eql 26 (.agg #[.int .i64 rv.k, .int .i64 rv.n, .string rv.s]) (.agg #[.int .i64 0, .int .i64 0, .string (ByteArray.mk #[])])).run Try.prog W = .ok (.bool true) W := fun W => by rw [run_eqlQ, ev]; exact congrArg (fun b => Result.ok (Value.bool b) W) (veq_yes null)
                have HEV := Lib.hid ev
                clear ev
                cases G1 with
                | false =>
                  as_aux_lemma =>
                  have HV : Hid (mayB e g = false) := Lib.hid (by rw [HMR.out, HP.out, HPL.out]; first | (simp [pB, k18, HEO.out, HEV.out]; done) | (rw [Bool.eq_iff_iff]; simp [pB, k18, HEO.out, HEV.out]; first | done | omega))
                  go_wp2_with (go_at_call 36; first | (with_reducible refine (HL1.out _).mono ?_; rintro en w3 ⟨rfl, rfl⟩) | (with_reducible refine (HL2.out _).mono ?_; rintro en w3 ⟨rfl, rfl⟩))
                  go_ret
                  exact ⟨by first | (rw [HV.out]; done) | (rw [HV.out]; rfl), HBW.out⟩
                | true =>
                  by_cases etrtb : rtb.toList = []
                  · have bertb : rtb.toList.isEmpty = true := by rw [etrtb]; rfl
                    as_aux_lemma =>
                    have HV : Hid (mayB e g = true) := Lib.hid (by rw [HMR.out, HP.out, HPL.out]; first | (simp [pB, k18, HEO.out, HEV.out, bertb]; done) | (rw [Bool.eq_iff_iff]; simp [pB, k18, HEO.out, HEV.out, bertb]; first | done | omega))
                    go_wp2_with (first | (go_at_call 36; first | (with_reducible refine (HL1.out _).mono ?_; rintro en w3 ⟨rfl, rfl⟩) | (with_reducible refine (HL2.out _).mono ?_; rintro en w3 ⟨rfl, rfl⟩)))
                    go_ret
                    exact ⟨by first | (rw [HV.out]; done) | (rw [HV.out]; rfl), HBW.out⟩
                  · have bertb : rtb.toList.isEmpty = false := by cases h : rtb.toList with | nil => exact absurd h etrtb | cons _ _ => rfl
                    as_aux_lemma =>
                    have HV : Hid (mayB e g = G2) := Lib.hid (by rw [HMR.out, HP.out, HPL.out]; first | (simp [pB, k18, HEO.out, HEV.out, bertb]; done) | (rw [Bool.eq_iff_iff]; simp [pB, k18, HEO.out, HEV.out, bertb]; first | done | omega))
                    go_wp2_with (first | (go_at_call 36; first | (with_reducible refine (HL1.out _).mono ?_; rintro en w3 ⟨rfl, rfl⟩) | (with_reducible refine (HL2.out _).mono ?_; rintro en w3 ⟨rfl, rfl⟩)))
                    go_ret
                    exact ⟨by first | (rw [HV.out]; done) | (rw [HV.out]; rfl), HBW.out⟩
              · have hq : ∀ W : World, (binOp .eql 26 (.agg #[.int .i64 rv.k, .int .i64 rv.n, .string rv.s]) (.agg #[.int .i64 0, .int .i64 0, .string (ByteArray.mk #[])])).run Try.prog W = .ok (.bool false) W := fun W => by rw [run_eqlQ]; exact congrArg (fun b => Result.ok (Value.bool b) W) (veq_no (u := null) ev)
                as_aux_lemma =>
                have HV : Hid (mayB e g = false) := Lib.hid (by rw [HMR.out, HP.out, HPL.out]; first | (simp [pB, k18, HEO.out, ev]; done) | (rw [Bool.eq_iff_iff]; simp [pB, k18, HEO.out, ev]; first | done | omega))
                clear ev
                go_wp2_with (go_at_call 36; first | (with_reducible refine (HL1.out _).mono ?_; rintro en w3 ⟨rfl, rfl⟩) | (with_reducible refine (HL2.out _).mono ?_; rintro en w3 ⟨rfl, rfl⟩))
                go_ret
                exact ⟨by first | (rw [HV.out]; done) | (rw [HV.out]; rfl), HBW.out⟩
            · have bo : (rop == 0) = false := by simp [eo]
              as_aux_lemma =>
              have HV : Hid (mayB e g = false) := Lib.hid (by rw [HMR.out, HP.out, HPL.out]; first | (simp [pB, k18, eo]; done) | (rw [Bool.eq_iff_iff]; simp [pB, k18, eo]; first | done | omega))
              clear eo
              go_wp2_with (go_at_call 36; first | (with_reducible refine (HL1.out _).mono ?_; rintro en w3 ⟨rfl, rfl⟩) | (with_reducible refine (HL2.out _).mono ?_; rintro en w3 ⟨rfl, rfl⟩))
              go_ret
              exact ⟨by first | (rw [HV.out]; done) | (rw [HV.out]; rfl), HBW.out⟩
          · have bn : ((j : Int) == 0) = false := by simp; omega
            as_aux_lemma =>
            have HV : Hid (mayB e g = false) := Lib.hid (by rw [HMR.out, HP.out, HPL.out]; first | (simp [pB, k18, hn0]; done) | (rw [Bool.eq_iff_iff]; simp [pB, k18, hn0]; first | done | omega))
            clear hn0
            go_wp2_with (go_at_call 36; first | (with_reducible refine (HL1.out _).mono ?_; rintro en w3 ⟨rfl, rfl⟩) | (with_reducible refine (HL2.out _).mono ?_; rintro en w3 ⟨rfl, rfl⟩))
            go_ret
            exact ⟨by first | (rw [HV.out]; done) | (rw [HV.out]; rfl), HBW.out⟩
        have b2 : (rk == 2) = false := by simp; omega
        have n1' : rk ≠ 1 := k1
        have n2' : rk ≠ 2 := k2
        have HN1 := Lib.hid n1'
        have HN2 := Lib.hid n2'
        clear n1' n2' k1 k2
        by_cases ev : rv = null
        · have HEV := Lib.hid ev
          have hq : ∀ W : World, (binOp .neq 26 (.agg #[.int .i64 rv.k, .int .i64 rv.n, .string rv.s]) (.agg #[.int .i64 0, .int .i64 0, .string (ByteArray.mk #[])])).run Try.prog W = .ok (.bool false) W := fun W => by rw [run_neqX, ev]; exact congrArg (fun b => Result.ok (Value.bool (!b)) W) (veq_yes null)
          clear ev
          by_cases etrtb : rtb.toList = []
          · have bertb : rtb.toList.isEmpty = true := by rw [etrtb]; rfl
            have HET := Lib.hid (of_nil etrtb)
            by_cases etrnm : rnm.toList = []
            · have bernm : rnm.toList.isEmpty = true := by rw [etrnm]; rfl
              have HEM := Lib.hid (of_nil etrnm)
              by_cases k3 : rk = 3
              · have b3 : (rk == 3) = true := by simp; omega
                have HPL := Lib.hid (may3 rk rop rv rtb rnm j k3 HEV.out HET.out HEM.out)
                have k18 : ((rk == 8) = false) := by simp; omega
                clear k3
                by_cases hn0 : j = 2
                · subst hn0
                  by_cases e2 : 1 ≤ rop
                  · have be := e2
                    as_aux_lemma =>
                    have HV : Hid (mayB e g = decide (rop ≤ 14)) := Lib.hid (by rw [HMR.out, HP.out, HPL.out]; first | (simp [pB, k18, e2]; done) | (rw [Bool.eq_iff_iff]; simp [pB, k18, e2]; first | done | omega))
                    clear e2
                    go_wp2_with fail
                    go_ret
                    exact ⟨by first | (rw [HV.out]; done) | (rw [HV.out]; rfl), HBW.out⟩
                  · have be := e2
                    as_aux_lemma =>
                    have HV : Hid (mayB e g = false) := Lib.hid (by rw [HMR.out, HP.out, HPL.out]; first | (simp [pB, k18, e2]; done) | (rw [Bool.eq_iff_iff]; simp [pB, k18, e2]; first | done | omega))
                    clear e2
                    go_wp2_with fail
                    go_ret
                    exact ⟨by first | (rw [HV.out]; done) | (rw [HV.out]; rfl), HBW.out⟩
                · have bn : ((j : Int) == 2) = false := by simp; omega
                  as_aux_lemma =>
                  have HV : Hid (mayB e g = false) := Lib.hid (by rw [HMR.out, HP.out, HPL.out]; first | (simp [pB, k18, hn0]; done) | (rw [Bool.eq_iff_iff]; simp [pB, k18, hn0]; first | done | omega))
                  clear hn0
                  go_wp2_with fail
                  go_ret
                  exact ⟨by first | (rw [HV.out]; done) | (rw [HV.out]; rfl), HBW.out⟩
              have b3 : (rk == 3) = false := by simp; omega
              by_cases k4 : rk = 4
              · have b4 : (rk == 4) = true := by simp; omega
                have HPL := Lib.hid (may4 rk rop rv rtb rnm j (by omega) HEV.out HET.out HEM.out)
                have k18 : ((rk == 8) = false) := by simp; omega
                clear k3 k4
                by_cases hn0 : j = 1
                · subst hn0
                  as_aux_lemma =>
                  have HV : Hid (mayB e g = (rop == 0)) := Lib.hid (by rw [HMR.out, HP.out, HPL.out]; first | (simp [pB, k18]; done) | (rw [Bool.eq_iff_iff]; simp [pB, k18]; first | done | omega))
                  go_wp2_with fail
                  go_ret
                  exact ⟨by first | (rw [HV.out]; done) | (rw [HV.out]; rfl), HBW.out⟩
                · have bn : ((j : Int) == 1) = false := by simp; omega
                  as_aux_lemma =>
                  have HV : Hid (mayB e g = false) := Lib.hid (by rw [HMR.out, HP.out, HPL.out]; first | (simp [pB, k18, hn0]; done) | (rw [Bool.eq_iff_iff]; simp [pB, k18, hn0]; first | done | omega))
                  clear hn0
                  go_wp2_with fail
                  go_ret
                  exact ⟨by first | (rw [HV.out]; done) | (rw [HV.out]; rfl), HBW.out⟩
              have b4 : (rk == 4) = false := by simp; omega
              by_cases k5 : rk = 5
              · have b5 : (rk == 5) = true := by simp; omega
                have HPL := Lib.hid (may4 rk rop rv rtb rnm j (by omega) HEV.out HET.out HEM.out)
                have k18 : ((rk == 8) = false) := by simp; omega
                clear k3 k4 k5
                by_cases hn0 : j = 1
                · subst hn0
                  as_aux_lemma =>
                  have HV : Hid (mayB e g = (rop == 0)) := Lib.hid (by rw [HMR.out, HP.out, HPL.out]; first | (simp [pB, k18]; done) | (rw [Bool.eq_iff_iff]; simp [pB, k18]; first | done | omega))
                  go_wp2_with fail
                  go_ret
                  exact ⟨by first | (rw [HV.out]; done) | (rw [HV.out]; rfl), HBW.out⟩
                · have bn : ((j : Int) == 1) = false := by simp; omega
                  as_aux_lemma =>
                  have HV : Hid (mayB e g = false) := Lib.hid (by rw [HMR.out, HP.out, HPL.out]; first | (simp [pB, k18, hn0]; done) | (rw [Bool.eq_iff_iff]; simp [pB, k18, hn0]; first | done | omega))
                  clear hn0
                  go_wp2_with fail
                  go_ret
                  exact ⟨by first | (rw [HV.out]; done) | (rw [HV.out]; rfl), HBW.out⟩
              have b5 : (rk == 5) = false := by simp; omega
              by_cases k6 : rk = 6
              · have b6 : (rk == 6) = true := by simp; omega
                have HPL := Lib.hid (may4 rk rop rv rtb rnm j (by omega) HEV.out HET.out HEM.out)
                have k18 : ((rk == 8) = false) := by simp; omega
                clear k3 k4 k5 k6
                by_cases hn0 : j = 1
                · subst hn0
                  as_aux_lemma =>
                  have HV : Hid (mayB e g = (rop == 0)) := Lib.hid (by rw [HMR.out, HP.out, HPL.out]; first | (simp [pB, k18]; done) | (rw [Bool.eq_iff_iff]; simp [pB, k18]; first | done | omega))
                  go_wp2_with fail
                  go_ret
                  exact ⟨by first | (rw [HV.out]; done) | (rw [HV.out]; rfl), HBW.out⟩
                · have bn : ((j : Int) == 1) = false := by simp; omega
                  as_aux_lemma =>
                  have HV : Hid (mayB e g = false) := Lib.hid (by rw [HMR.out, HP.out, HPL.out]; first | (simp [pB, k18, hn0]; done) | (rw [Bool.eq_iff_iff]; simp [pB, k18, hn0]; first | done | omega))
                  clear hn0
                  go_wp2_with fail
                  go_ret
                  exact ⟨by first | (rw [HV.out]; done) | (rw [HV.out]; rfl), HBW.out⟩
              have b6 : (rk == 6) = false := by simp; omega
              by_cases k7 : rk = 7
              · have b7 : (rk == 7) = true := by simp; omega
                have HPL := Lib.hid (may4 rk rop rv rtb rnm j (by omega) HEV.out HET.out HEM.out)
                have k18 : ((rk == 8) = false) := by simp; omega
                clear k3 k4 k5 k6 k7
                by_cases hn0 : j = 1
                · subst hn0
                  as_aux_lemma =>
                  have HV : Hid (mayB e g = (rop == 0)) := Lib.hid (by rw [HMR.out, HP.out, HPL.out]; first | (simp [pB, k18]; done) | (rw [Bool.eq_iff_iff]; simp [pB, k18]; first | done | omega))
                  go_wp2_with fail
                  go_ret
                  exact ⟨by first | (rw [HV.out]; done) | (rw [HV.out]; rfl), HBW.out⟩
                · have bn : ((j : Int) == 1) = false := by simp; omega
                  as_aux_lemma =>
                  have HV : Hid (mayB e g = false) := Lib.hid (by rw [HMR.out, HP.out, HPL.out]; first | (simp [pB, k18, hn0]; done) | (rw [Bool.eq_iff_iff]; simp [pB, k18, hn0]; first | done | omega))
                  clear hn0
                  go_wp2_with fail
                  go_ret
                  exact ⟨by first | (rw [HV.out]; done) | (rw [HV.out]; rfl), HBW.out⟩
              have b7 : (rk == 7) = false := by simp; omega
              by_cases k8 : rk = 8
              · have b8 : (rk == 8) = true := by simp; omega
                have HPL := Lib.hid (may8 rk rop rv rtb rnm j k8 HEV.out HET.out HEM.out)
                clear k3 k4 k5 k6 k7 k8
                cases g with
                | true =>
                  have HV : Hid (mayB e true = false) := Lib.hid (by rw [HMR.out, b8]; simp)
                  go_wp2_with fail
                  go_ret
                  exact ⟨by first | (rw [HV.out]; done) | (rw [HV.out]; rfl), HBW.out⟩
                | false =>
                  by_cases e1 : 1 ≤ rop
                  · have d1 := e1
                    by_cases e4 : rop ≤ 4
                    · have d4 := e4
                      by_cases hn1 : j = 1
                      · subst hn1
                        as_aux_lemma =>
                        have HV : Hid (mayB e false = true) := Lib.hid (by rw [HMR.out, HP.out, HPL.out]; first | (simp [pB, e1, e4]; done) | (rw [Bool.eq_iff_iff]; simp [pB, e1, e4]; first | done | omega))
                        clear e1 e4
                        go_wp2_with fail
                        go_ret
                        exact ⟨by first | (rw [HV.out]; done) | (rw [HV.out]; rfl), HBW.out⟩
                      · have bn1 : ((j : Int) == 1) = false := by simp; omega
                        by_cases hn0 : j = 0
                        · subst hn0
                          as_aux_lemma =>
                          have HV : Hid (mayB e false = (rop == 1)) := Lib.hid (by rw [HMR.out, HP.out, HPL.out]; first | (simp [pB, e1, e4]; done) | (rw [Bool.eq_iff_iff]; simp [pB, e1, e4]; first | done | omega))
                          clear e1 e4
                          go_wp2_with fail
                          go_ret
                          exact ⟨by first | (rw [HV.out]; done) | (rw [HV.out]; rfl), HBW.out⟩
                        · have bn : ((j : Int) == 0) = false := by simp; omega
                          as_aux_lemma =>
                          have HV : Hid (mayB e false = false) := Lib.hid (by rw [HMR.out, HP.out, HPL.out]; first | (simp [pB, e1, e4, hn1, hn0]; done) | (rw [Bool.eq_iff_iff]; simp [pB, e1, e4, hn1, hn0]; first | done | omega))
                          clear e1 e4 hn1 hn0
                          go_wp2_with fail
                          go_ret
                          exact ⟨by first | (rw [HV.out]; done) | (rw [HV.out]; rfl), HBW.out⟩
                    · have d4 := e4
                      as_aux_lemma =>
                      have HV : Hid (mayB e false = false) := Lib.hid (by rw [HMR.out, HP.out, HPL.out]; first | (simp [pB, e1, e4]; done) | (rw [Bool.eq_iff_iff]; simp [pB, e1, e4]; first | done | omega))
                      clear e1 e4
                      go_wp2_with fail
                      go_ret
                      exact ⟨by first | (rw [HV.out]; done) | (rw [HV.out]; rfl), HBW.out⟩
                  · have d1 := e1
                    as_aux_lemma =>
                    have HV : Hid (mayB e false = false) := Lib.hid (by rw [HMR.out, HP.out, HPL.out]; first | (simp [pB, e1]; done) | (rw [Bool.eq_iff_iff]; simp [pB, e1]; first | done | omega))
                    clear e1
                    go_wp2_with fail
                    go_ret
                    exact ⟨by first | (rw [HV.out]; done) | (rw [HV.out]; rfl), HBW.out⟩
              have b8 : (rk == 8) = false := by simp; omega
              have HPL := Lib.hid (show plainB rk rop rv rtb rnm j = false from pB_no.2 (fun h => by have a1 := HN1.out; have a2 := HN2.out; unfold plainP at h; rcases h with h | h | h | h | h <;> omega))
              clear k3 k4 k5 k6 k7 k8
              as_aux_lemma =>
              have HV : Hid (mayB e g = false) := Lib.hid (by rw [HMR.out, HP.out, HPL.out]; first | (simp [pB]; done) | (rw [Bool.eq_iff_iff]; simp [pB]; first | done | omega))
              go_wp2_with fail
              go_ret
              exact ⟨by first | (rw [HV.out]; done) | (rw [HV.out]; rfl), HBW.out⟩
            · have bernm : rnm.toList.isEmpty = false := by cases h : rnm.toList with | nil => exact absurd h etrnm | cons _ _ => rfl
              have HPL := Lib.hid (may_other rk rop rv rtb rnm j HN1.out HN2.out (.inr (.inr (fun e => etrnm (by rw [e, Lib.toList_data]; rfl)))))
              as_aux_lemma =>
              have HV : Hid (mayB e g = false) := Lib.hid (by rw [HMR.out, HP.out, HPL.out]; first | (simp [pB]; done) | (rw [Bool.eq_iff_iff]; simp [pB]; first | done | omega))
              go_wp2_with fail
              go_ret
              exact ⟨by first | (rw [HV.out]; done) | (rw [HV.out]; rfl), HBW.out⟩
          · have bertb : rtb.toList.isEmpty = false := by cases h : rtb.toList with | nil => exact absurd h etrtb | cons _ _ => rfl
            have HPL := Lib.hid (may_other rk rop rv rtb rnm j HN1.out HN2.out (.inr (.inl (fun e => etrtb (by rw [e, Lib.toList_data]; rfl)))))
            as_aux_lemma =>
            have HV : Hid (mayB e g = false) := Lib.hid (by rw [HMR.out, HP.out, HPL.out]; first | (simp [pB]; done) | (rw [Bool.eq_iff_iff]; simp [pB]; first | done | omega))
            go_wp2_with fail
            go_ret
            exact ⟨by first | (rw [HV.out]; done) | (rw [HV.out]; rfl), HBW.out⟩
        · have hq : ∀ W : World, (binOp .neq 26 (.agg #[.int .i64 rv.k, .int .i64 rv.n, .string rv.s]) (.agg #[.int .i64 0, .int .i64 0, .string (ByteArray.mk #[])])).run Try.prog W = .ok (.bool true) W := fun W => by rw [run_neqX]; exact congrArg (fun b => Result.ok (Value.bool (!b)) W) (veq_no (u := null) ev)
          have HPL := Lib.hid (may_other rk rop rv rtb rnm j HN1.out HN2.out (.inl ev))
          clear ev
          as_aux_lemma =>
          have HV : Hid (mayB e g = false) := Lib.hid (by rw [HMR.out, HP.out, HPL.out]; first | (simp [pB]; done) | (rw [Bool.eq_iff_iff]; simp [pB]; first | done | omega))
          go_wp2_with fail
          go_ret
          exact ⟨by first | (rw [HV.out]; done) | (rw [HV.out]; rfl), HBW.out⟩
end Go.Proofs.Ytjnlimahcodomaa.ex
/- The document's Good; the law's sum. -/
namespace Go.Proofs.Ytjnlimahcodomaa.ex
set_option linter.unusedVariables false
open Go.RowKit
open val (V null veq6 gB ag3)
attribute [local go_sem] Oper.semAt_some
theorem goodB_doc (e : Ex) : goodB 20 e true = (decide (e.depth ≤ 20) && mayB e false) := by
  rw [Bool.eq_iff_iff, Bool.and_eq_true, decide_eq_true_eq]
  unfold goodB mayB
  rw [pB_iff, pB_iff]
  exact goodE_iff e 20 true
set_option maxRecDepth 100000 in
set_option maxHeartbeats 4000000 in
theorem rgood_any {d : Nat} (hd : d ≤ 1000) {X : Nat → Prop} {e : Ex} {r : Er} {w : World} (hsl : e.slim) (hft : Fit e) (h : ExAt TQ X d w e r) :
    Calls Try.prog 7 #[r.val] w fun en w' => en = .returned (.bool (goodB 20 e true)) ∧ Below w.heap.size w w' := by
  have HD := Lib.hid (fun (W : World) (hb : Below w.heap.size w W) => rdepth_any d hd X e r W (h.later hb))
  have HM := Lib.hid (fun (W : World) (hb : Below w.heap.size w W) => may_any d hd X e r W false hsl hft (h.later hb))
  have hdp := h.depth
  have HG := Lib.hid (goodB_doc e)
  obtain ⟨d', rfl⟩ := h.pos
  obtain ⟨av, cv, us, hlv, -⟩ := h.parts
  obtain ⟨rk, rop, rv, rtb, rnm, rlv⟩ := r
  dsimp only at hlv
  subst hlv
  obtain ⟨D, hD⟩ : ∃ D : Int, ((e.depth : Nat) : Int) = D := ⟨_, rfl⟩
  have d0 : 0 ≤ D := by omega
  have d1 : D ≤ 1000 := by omega
  obtain ⟨M, hM⟩ : ∃ M, mayB e false = M := ⟨_, rfl⟩
  have hb0 : Below w.heap.size w (w.alloc (.cells #[.int .i64 rk, .int .i64 rop, .int .i64 rv.k, .int .i64 rv.n, .string rv.s, .string rtb, .string rnm, .slice av e.l.length cv] TQ)) := (Below.refl _ _).alloc (Nat.le_refl _) _
  have hfe : Flds (w.alloc (.cells #[.int .i64 rk, .int .i64 rop, .int .i64 rv.k, .int .i64 rv.n, .string rv.s, .string rtb, .string rnm, .slice av e.l.length cv] TQ)) w.heap.size TQ [.int .i64 rk, .int .i64 rop, .int .i64 rv.k, .int .i64 rv.n, .string rv.s, .string rtb, .string rnm, .slice av e.l.length cv] := Flds.new w TQ _
  obtain ⟨W1, hW1⟩ : ∃ W1, w.alloc (.cells #[.int .i64 rk, .int .i64 rop, .int .i64 rv.k, .int .i64 rv.n, .string rv.s, .string rtb, .string rnm, .slice av e.l.length cv] TQ) = W1 := ⟨_, rfl⟩
  rw [hW1] at hb0 hfe
  have hdd := HD.out W1 hb0
  rw [hD] at hdd
  rw [hM] at HM
  unfold Er.val at hdd HM ⊢
  dsimp only at hdd HM ⊢
  have HDD := Lib.hid hdd
  have HB0 := Lib.hid hb0; have HFE := Lib.hid hfe; have HW1 := Lib.hid hW1
  have HDE := Lib.hid hD; have HME := Lib.hid hM
  clear hdd HD hb0 hfe hW1 h hsl hft hdp hD hM
  go_enter Try.func7, Try.ntmps7
  go_upto_region 1 with fail
  rw [HW1.out]
  obtain ⟨q0, q1, q2, q3, q4, q5, q6, q7, l1⟩ := of_fe HFE.out
  by_cases hle : D ≤ 20
  · have HV : Hid (goodB 20 e true = M) := Lib.hid (by rw [HG.out, HME.out, decide_eq_true (show e.depth ≤ 20 by have := HDE.out; omega)]; rfl)
    go_wp2_with (first
      | (go_at_call 18; refine HDD.out.mono ?_; rintro en w5 ⟨rfl, hb5⟩; have HB5 := Lib.hid (HB0.out.trans (hb5.mono HB0.out.size)); obtain ⟨e0, e1, e2, e3, e4, e5, e6, e7, l2⟩ := of_fe (HFE.out.later hb5); clear hb5)
      | (go_at_call 21; refine (HM.out _ HB5.out).mono ?_; rintro en w6 ⟨rfl, hb6⟩; have HB6 := Lib.hid (HB5.out.trans (hb6.mono HB5.out.size)); clear hb6))
    go_ret
    exact ⟨by first | (rw [HV.out]; done) | (rw [HV.out]; rfl), HB6.out⟩
  · have HV : Hid (goodB 20 e true = false) := Lib.hid (by rw [HG.out, decide_eq_false (show ¬ e.depth ≤ 20 by have := HDE.out; omega)]; rfl)
    go_wp2_with (go_at_call 18; refine HDD.out.mono ?_; rintro en w5 ⟨rfl, hb5⟩; have HB5 := Lib.hid (HB0.out.trans (hb5.mono HB0.out.size)); clear hb5)
    go_ret
    exact ⟨by first | (rw [HV.out]; done) | (rw [HV.out]; rfl), HB5.out⟩
end Go.Proofs.Ytjnlimahcodomaa.ex
