/- Tokens written and joined, walked. -/
import Derived.Test.YtkgfmjejcpjfiaaDoorLexQ
import Derived.Test.YtkgfmjejcpjfiaaDoorLexI
import Derived.Lib.CountLaws
import Derived.Sort.Grow
import Derived.OwnWalk
namespace Go.Proofs.YtkgfmjejcpjfiaaDoor.lx
set_option linter.unusedVariables false
open Go.RowKit

abbrev gMax : Nat := 2
abbrev Pow10 (w : World) : Prop := Lib.TabIs Tryd.prog w "internal/strconv.uint64pow10" .u64 Lib.pow10Tab
theorem pow10_later {w w' : World} (h : Pow10 w) (hb : Below w.heap.size w w') : Pow10 w' := by
  unfold Pow10 Lib.TabIs World.var? at h ⊢
  have hgn : Tryd.prog.globalNamed "internal/strconv.uint64pow10" = some 1 := by kernel_rfl
  rw [hgn] at h ⊢
  simp only [Option.bind_some] at h ⊢
  have hlt : 1 < w.heap.size := by
    rcases Nat.lt_or_ge 1 w.heap.size with h' | h'
    · exact h'
    · rw [Array.getElem?_eq_none h'] at h; cases h
  rw [hb.block _ hlt]; exact h
theorem below_fmt (w : World) (q : Nat) (os : Array Go.Obj) : Below w.heap.size w (Go.Sort.grow (w.drewN q) os) :=
  ⟨rfl, rfl, rfl, by simp [Go.Sort.grow], fun k hk => by
    show ((w.drewN q).heap ++ os)[k]? = _
    rw [Array.getElem?_append_left (by show k < w.heap.size; omega)]
    rfl⟩
theorem fmt_any (n : Int) (hn : -9223372036854775808 ≤ n ∧ n ≤ 9223372036854775807) (W : World) (h : Pow10 W) : Calls Tryd.prog 26 #[.int .i64 n, .int .i64 10] W fun e w' => e = .returned (.string ⟨(Lib.itoa n).toArray⟩) ∧ Below W.heap.size W w' :=
  (Tryd.strconv_FormatInt_10 n hn.1 hn.2 W h).mono fun e w' ⟨he, k, os, hw⟩ => ⟨he, by rw [hw]; exact below_fmt _ _ _⟩
abbrev q1 : ByteArray := ⟨#[39]⟩
abbrev q2 : ByteArray := ⟨#[39, 39]⟩
theorem below_alloc1 (W : World) (o : Go.Obj) : Below W.heap.size W (W.alloc o) := (Below.refl _ _).alloc (Nat.le_refl _) _
theorem dup_len (s : List UInt8) : (val.dup s).length ≤ 2 * s.length := by
  induction s with
  | nil => simp [val.dup_nil]
  | cons c s ih =>
    rw [val.dup_cons, List.length_append, List.length_cons]
    split <;> simp <;> omega
/-- a token's text, written -/
def shT (t : Tk) : ByteArray := ⟨(writeL t).toArray⟩
set_option maxRecDepth 100000 in
set_option maxHeartbeats 2000000 in
theorem write_3 (s : ByteArray) (n : Nat) (hn : n ≤ 9223372036854775807) (a : Nat) (W : World) (hp : Pow10 W) : Calls Tryd.prog 15 #[tkV 3 s (n : Int) (a : Int)] W fun e w' => e = .returned (.string ⟨(Lib.itoa (n : Int)).toArray⟩) ∧ Below W.heap.size W w' := by
  obtain ⟨z, hzz⟩ : ∃ z : Int, (n : Int) = z := ⟨_, rfl⟩
  have h0 : -9223372036854775808 ≤ z := by omega
  have h1 : z ≤ 9223372036854775807 := by omega
  rw [hzz]
  clear hzz
  obtain ⟨az, haz⟩ : ∃ az : Int, (a : Int) = az := ⟨_, rfl⟩
  rw [haz]
  clear haz
  have HF := Lib.hid (fun W' (hb : Below W.heap.size W W') => fmt_any z ⟨h0, h1⟩ W' (pow10_later hp hb))
  generalize (⟨(Lib.itoa z).toArray⟩ : ByteArray) = R at *
  clear hp
  go_enter Tryd.func15, Tryd.ntmps15
  go_wp2_with (go_at_call 26; (with_reducible refine (HF.out _ (below_alloc1 _ _)).mono ?_); rintro e w1 ⟨rfl, hb1⟩)
  go_ret
  exact ⟨rfl, (below_alloc1 _ _).trans (hb1.mono (by simp))⟩
set_option maxRecDepth 100000 in
set_option maxHeartbeats 2000000 in
theorem write_4 (s : ByteArray) (hs : s.size ≤ 1000000) (n : Nat) (a : Nat) (m : Int) (W : World) (hm : W.cell? ⟨gMax, 0, none⟩ = some (.int .i64 m)) : Calls Tryd.prog 15 #[tkV 4 s (n : Int) (a : Int)] W fun e w' => e = .returned (.string ⟨(39 :: (val.dup s.data.toList ++ [39])).toArray⟩) ∧ Below W.heap.size W w' := by
  have h4 : s.size < 4294967281 := by omega
  have hc := Lib.countB_le q1 (by decide) s.size s (Nat.le_refl _)
  have hl : s.size + Lib.countB s q1 * q2.size ≤ 140737488355328 := by
    have : q2.size = 2 := rfl
    rw [this]; omega
  have HR : Hid (∀ W', Below W.heap.size W W' → Calls Tryd.prog 27 #[.string s, .string q1, .string q2] W' fun e w' => e = .returned (.string ⟨(val.dup s.data.toList).toArray⟩) ∧ Below W'.heap.size W' w') := Lib.hid (fun W' hb => by
    have h := Tryd.strings_ReplaceAll s q1 q2 m W' h4 (cell_later hb hm) (by decide) hl
    have e : (⟨(Lib.replaceAll s.data.toList q1.data.toList q2.data.toList).toArray⟩ : ByteArray) = ⟨(val.dup s.data.toList).toArray⟩ := by
      rw [show q1.data.toList = [39] from rfl, show q2.data.toList = [39, 39] from rfl, val.replaceAll_dup]
    rw [e] at h
    exact h)
  have hE : q1 ++ ((⟨(val.dup s.data.toList).toArray⟩ : ByteArray)) ++ q1 = ⟨(39 :: (val.dup s.data.toList ++ [39])).toArray⟩ := by
    apply ByteArray.ext
    rw [ByteArray.data_append, ByteArray.data_append]
    simp
  have hds : (⟨(val.dup s.data.toList).toArray⟩ : ByteArray).size ≤ 2000000 := by
    show (val.dup s.data.toList).toArray.size ≤ _
    have h := dup_len s.data.toList
    rw [data_len] at h
    simp; omega
  obtain ⟨D, hD⟩ : ∃ D : ByteArray, (⟨(val.dup s.data.toList).toArray⟩ : ByteArray) = D := ⟨_, rfl⟩
  rw [hD] at hE HR hds
  rw [← hE]
  have r0 : (0 : Int) ≤ (D.size : Int) := by omega
  have r1 : (D.size : Int) ≤ 2000000 := by omega
  clear hE hD hc hl h4 hm
  generalize (n : Int) = nz at *
  generalize (a : Int) = az at *
  go_enter Tryd.func15, Tryd.ntmps15
  go_wp2_with (go_at_call 27; (with_reducible refine (HR.out _ (below_alloc1 _ _)).mono ?_); rintro e w1 ⟨rfl, hb1⟩)
  go_ret
  exact ⟨rfl, (below_alloc1 _ _).trans (hb1.mono (by simp))⟩
set_option maxRecDepth 100000 in
set_option maxHeartbeats 2000000 in
theorem write_0 (k : Nat) (hk : k ≤ 5) (h3 : k ≠ 3) (h4 : k ≠ 4) (s : ByteArray) (n : Nat) (a : Nat) (W : World) : Calls Tryd.prog 15 #[tkV (k : Int) s (n : Int) (a : Int)] W fun e w' => e = .returned (.string s) ∧ Below W.heap.size W w' := by
  have e3 : ((k : Int) == 3) = false := by simp; omega
  have e4 : ((k : Int) == 4) = false := by simp; omega
  generalize (n : Int) = nz at *
  generalize (a : Int) = az at *
  generalize (k : Int) = kz at *
  go_enter Tryd.func15, Tryd.ntmps15
  go_wp2_with fail
  go_ret
  exact ⟨rfl, below_alloc1 _ _⟩
/-- a token that may be written -/
def Small (t : Tk) : Prop := t.k ≤ 5 ∧ t.s.length ≤ 64 ∧ t.n ≤ 9223372036854775807
theorem write_any (t : Tk) (h : Small t) (m : Int) (W : World) (hm : W.cell? ⟨gMax, 0, none⟩ = some (.int .i64 m)) (hp : Pow10 W) : Calls Tryd.prog 15 #[tkV (t.k : Int) ⟨t.s.toArray⟩ (t.n : Int) (t.at_ : Int)] W fun e w' => e = .returned (.string (shT t)) ∧ Below W.heap.size W w' := by
  obtain ⟨k, s, n, a⟩ := t
  obtain ⟨h1, h2, h3⟩ := h
  simp only at h1 h2 h3 ⊢
  unfold shT writeL
  simp only
  by_cases hk3 : k = 3
  · subst hk3
    rw [if_pos rfl]
    exact write_3 _ n h3 a W hp
  · rw [if_neg hk3]
    by_cases hk4 : k = 4
    · subst hk4
      rw [if_pos rfl]
      have h := write_4 ⟨s.toArray⟩ (by show s.toArray.size ≤ _; simp; omega) n a m W hm
      exact h
    · rw [if_neg hk4]
      exact write_0 k h1 hk3 hk4 _ n a W
theorem write_len (t : Tk) (h : Small t) : (writeL t).length ≤ 130 := by
  obtain ⟨h1, h2, h3⟩ := h
  unfold writeL
  split
  · rw [itoa_nat]
    have := dec_len 18 t.n (by omega)
    omega
  · split
    · have := dup_len t.s
      simp; omega
    · omega
theorem join_len (ts : List Tk) (h : ∀ t ∈ ts, Small t) : (joinT ts).length ≤ ts.length * 131 := by
  induction ts with
  | nil => simp [joinT, Lib.join_nil]
  | cons t r ih =>
    have h1 := write_len t (h t (List.mem_cons_self ..))
    have h2 := ih (fun x hx => h x (List.mem_cons_of_mem _ hx))
    cases r with
    | nil => rw [join_one]; simp; omega
    | cons u r => rw [join_more, List.length_append, List.length_cons]; simp only [List.length_cons] at h2 ⊢; omega
theorem first_small (l : List UInt8) {k : Nat} {s : List UInt8} {n m : Nat} (i : Nat) (h : firstL l = .tok k s n m) : Small ⟨k, s, n, i⟩ := by
  have hl := first_len l h
  refine ⟨hl.2.2, ?_, hl.2.1⟩
  show s.length ≤ 64
  cases l with
  | nil => cases h
  | cons c r =>
    simp only [firstL] at h
    split at h
    · have := word_kind h; have e := this.2.1; rw [e]; omega
    · split at h
      · have := word_kind h; have e := this.2.1; rw [e]; omega
      · split at h
        · unfold numL at h
          split at h
          · cases h
          · split at h
            · cases h
            · cases h; omega
        · split at h
          · exact (text_kind _ _ _ h).2.2.1
          · have hs := (sign_kind _ h).2.2.2.1
            have hsm : ∀ y ∈ signsL, y.length ≤ 64 := by decide
            exact hsm _ hs
theorem split_small (l : List UInt8) (us : List Tk) (h : splitT l = .ok us) : (∀ t ∈ us, Small t) ∧ us.length ≤ l.length := by
  have key : ∀ (i : Nat) (ts : List Tk), splitL l i ts = .ok us → i ≤ l.length → ts.length ≤ i → (∀ t ∈ ts, Small t) → (∀ t ∈ us, Small t) ∧ us.length ≤ l.length := by
    intro i ts
    induction i, ts using splitL.induct (l := l) with
    | case1 i ts hi hb ih => intro h h0 h1 h2; rw [split_blank l i ts hi hb] at h; exact ih h (by omega) (by omega) h2
    | case2 i ts hi hb e hf => intro h h0 h1 h2; rw [split_bad l i ts e hi (by simpa using hb) hf] at h; cases h
    | case3 i ts hi hb k s n m hf ih =>
      intro h h0 h1 h2
      rw [split_tok l i ts k s n m hi (by simpa using hb) hf] at h
      have hm := first_len _ hf
      rw [List.length_drop] at hm
      refine ih h (by omega) (by rw [List.length_append]; simp; omega) ?_
      intro t ht
      rcases List.mem_append.1 ht with ht | ht
      · exact h2 t ht
      · rw [List.mem_singleton.1 ht]; exact first_small _ i hf
    | case4 i ts hi => intro h h0 h1 h2; rw [split_end l i ts (by omega)] at h; cases h; exact ⟨h2, by omega⟩
  unfold splitT at h
  split at h
  · cases h
  · exact key 0 [] h (by omega) (by simp) (fun t ht => absurd ht (by simp))
theorem cell_one (w : World) (u : Value) (T : TypeId) : ∀ j x, [u][j]? = some x → (w.alloc (.cells #[u] T)).cell? ((⟨w.heap.size, 0, none⟩ : Addr).add j) = some x := cells_new_add w [u] T
theorem one_cells (s : ByteArray) : ∀ u ∈ [Value.string s], u.oneCell' = true := fun u hu => by rw [List.mem_singleton.1 hu]; rfl
theorem infoStr : (Tryd.prog.info? 9).map (fun i => (i.zero, i.size, i.bytes)) = some (some (.string ⟨#[]⟩), 1, 16) := by kernel_rfl
theorem below_grown {w w' : World} (h : w.grownBy w' none) : Below w.heap.size w w' := ⟨h.os, h.tape, h.output, h.size, fun k hk => h.block k hk (by simp)⟩
theorem take_map_snoc {α β : Type} (f : α → β) (l : List α) (k : Nat) (h : k < l.length) : (l.take (k + 1)).map f = (l.take k).map f ++ [f l[k]] := by
  rw [List.take_succ_eq_append_getElem h, List.map_append]; rfl
theorem map_shT (l : List Tk) : (l.map shT).map (·.data.toList) = l.map writeL := by
  rw [List.map_map]; congr 1
set_option maxRecDepth 100000 in
set_option maxHeartbeats 4000000 in
theorem join_any (v : Value) (l : List Tk) (hg : ∀ t ∈ l, Small t) (hm : l.length ≤ 1000000) (m : Int) (w : World) (hm0 : w.cell? ⟨gMax, 0, none⟩ = some (.int .i64 m)) (hp : Pow10 w) (hv : Row w v 4 l.length (tCells l)) :
    Calls Tryd.prog 8 #[v] w fun e w' => e = .returned (.string ⟨(joinT l).toArray⟩) ∧ Below w.heap.size w w' := by
  obtain ⟨i0, hi, hz0, hz1, hz2⟩ := info_parts infoStr
  have HV := Lib.hid hv
  have HG := Lib.hid hg
  have HM := Lib.hid hm0
  have HP := Lib.hid hp
  have HLN := Lib.hid (join_len l hg)
  obtain ⟨a, cap, rfl, -⟩ := hv
  have hn0 : (0 : Int) ≤ (l.length : Int) := by omega
  have hn1 : (l.length : Int) ≤ 1000000 := by omega
  clear hg hm0 hp
  go_enter Tryd.func8, Tryd.ntmps8
  go_wp2_with (at_make; refine wpList_make_own _ rfl _ _ 44 rfl w.heap.size 9 i0 (.string ⟨#[]⟩) 1 Tryd.underlying44 hi hz0 hz1 .i64 .i64 _ l.length rfl rfl rfl (by rw [hz2]; omega) (by unfold maxLen; omega) (Nat.le_refl _) ?_; intro w0 hown0 hgrow0)
  have hB0 := below_grown hgrow0
  go_loopw [3, 11] (fun sv i wr => ∃ k : Nat, i = .int .i64 (k : Int) ∧ k ≤ l.length ∧ Hid (wr.ownsRow w.heap.size 9 1 sv k (((l.take k).map shT).map Value.string)) ∧ Hid (Below w.heap.size w wr)) (fun _ i _ => l.length - (intOf i).toNat)
  case atStart => exact ⟨0, rfl, by omega, Lib.hid hown0, Lib.hid hB0⟩
  case round =>
    obtain ⟨k, rfl, hk, HO, HB⟩ := hrel
    clear hown0 hgrow0 hB0
    have hd0 : (0 : Int) ≤ (k : Int) := by omega
    by_cases h1 : k < l.length
    · have d1 : (k : Int) < (l.length : Int) := by omega
      obtain ⟨b, off, cap', ea, hcell⟩ := (HV.out.later HB.out).pos (by omega)
      simp only [Value.slice.injEq] at ea
      obtain ⟨rfl, -, rfl⟩ := ea
      obtain ⟨c0, c1, c2, c3⟩ := tCells_at l k _ (List.getElem?_eq_getElem h1)
      have g0 := (hcell (k * 4) (by omega)).trans c0
      have g1 := (hcell (k * 4 + 1) (by omega)).trans c1
      have g2 := (hcell (k * 4 + 2) (by omega)).trans c2
      have g3 := (hcell (k * 4 + 3) (by omega)).trans c3
      rw [← Nat.add_assoc] at g1 g2 g3
      have HGk := Lib.hid (HG.out _ (List.getElem_mem h1))
      have HT := Lib.hid (take_map_snoc shT l k h1)
      generalize l[k] = x at *
      have HS := Lib.hid (fun W (hb : Below wr.heap.size wr W) => write_any x HGk.out m W (cell_later (HB.out.trans (hb.mono HB.out.size)) HM.out) (pow10_later HP.out (HB.out.trans (hb.mono HB.out.size))))
      clear hcell c0 c1 c2 c3
      go_wp2_with (first | (go_at_call 15; (with_reducible refine (HS.out _ (below_alloc1 _ _)).mono ?_); rintro e w1 ⟨rfl, hb1⟩; have hown1 := owns_below (HO.out.alloc _) hb1) | (at_builtin; refine wpList_append_own _ rfl _ _ 44 rfl w.heap.size 9 i0 (.string ⟨#[]⟩) 1 16 Tryd.underlying44 hi hz0 hz1 hz2 rfl (by decide) _ _ _ rfl (hown1.alloc _) ⟨w1.heap.size, 0, none⟩ 1 1 [.string (shT x)] rfl rfl (cell_one _ _ _) (one_cells _) (by unfold maxLen; omega) (by omega) (by have := hb1.size; have := HB.out.size; simp only [World.size_alloc] at *; omega) ?_; intro v' w2 hown' hgrow _))
      have hB2 : Below w.heap.size w w2 := (((HB.out.alloc (by have := HB.out.size; omega) _).trans (hb1.mono (by have := HB.out.size; simp only [World.size_alloc]; omega))).alloc (by have := hb1.size; have := HB.out.size; simp only [World.size_alloc] at *; omega) _).grown hgrow (by have := hb1.size; have := HB.out.size; simp only [World.size_alloc] at *; omega) (fun k hk => (hown1.lt k hk).1)
      have HO2 := Lib.hid hown'
      have HB2 := Lib.hid hB2
      clear hown1 hown' hgrow hb1 hB2
      go_wp2
      go_roundw
      case rel => exact ⟨k + 1, by go_num, by omega, Lib.hid (by rw [HT.out, List.map_append]; simpa using HO2.out), HB2⟩
      case measure => simp [intOf]; omega
    · have d1 : ¬ (k : Int) < (l.length : Int) := by omega
      have hk2 : k = l.length := by omega
      subst hk2
      have hown := HO.out
      rw [List.take_length] at hown
      have HJ : Hid (∀ W, Below wr.heap.size wr W → ∀ v, v = u3 → Calls Tryd.prog 16 #[v, .string ⟨#[32]⟩] W fun e w' => e = .returned (.string ⟨(joinT l).toArray⟩) ∧ Below W.heap.size W w') := Lib.hid (by
        rintro W hb v rfl
        have hr := (Row.of_owns hown).later hb
        by_cases h0 : l.length = 0
        · obtain ⟨a, cap, rfl⟩ := owns_shape hown
          have hl : l = [] := List.length_eq_zero_iff.1 h0
          subst hl
          refine (Tryd.strings_Join_none a cap ⟨#[32]⟩ W).mono ?_
          rintro e w' ⟨he, rfl⟩
          exact ⟨he, Below.refl _ _⟩
        · have hcp : ∃ g cap, v = .slice (some ⟨g, 0, none⟩) l.length cap ∧ l.length ≤ cap := by
            rcases hown.2 with ⟨rfl, h⟩ | ⟨g, cap, cur, rfl, _, _, hnc, _⟩
            · exact absurd h h0
            · exact ⟨g, cap, rfl, hnc⟩
          obtain ⟨g, cap, rfl, hcap⟩ := hcp
          obtain ⟨b, off, cap', ea, hcell⟩ := hr.pos (by omega)
          simp only [Value.slice.injEq, Option.some.injEq, Addr.mk.injEq] at ea
          obtain ⟨⟨rfl, rfl, -⟩, -, rfl⟩ := ea
          have hlt : g < W.heap.size := by
            have h := hcell 0 (by omega)
            rw [List.getElem?_eq_getElem (by simp; omega)] at h
            exact World.block_lt_of_cell? W _ h
          have hj := Tryd.strings_Join g 0 cap (l.map shT) ⟨#[32]⟩ W (fun j x hx => by
            have hj : j < l.length := by have := (List.getElem?_eq_some_iff.1 hx).1; simpa using this
            have h := hcell j (by omega)
            rw [List.getElem?_map, hx] at h
            exact h) hlt (by rw [List.length_map]; omega) (by rw [List.length_map]; exact hcap) (by
              rw [map_shT]
              have := HLN.out
              show (joinT l).length ≤ _
              omega)
          rw [List.length_map, map_shT] at hj
          exact hj)
      go_wp2_with (go_at_call 16; (with_reducible refine (HJ.out _ (Below.refl _ _) _ rfl).mono ?_); rintro e w1 ⟨rfl, hb1⟩; have HB1 := Lib.hid hb1; clear hb1)
      go_ret
      exact ⟨rfl, HB.out.trans (HB1.out.mono HB.out.size)⟩
end Go.Proofs.YtkgfmjejcpjfiaaDoor.lx
