/- How values are shown, by both texts. -/
import Derived.Test.YtfnajccnlcfbiaaDoorValueKJ
import Derived.Sort.Grow
import Derived.LoopTactic
import Derived.Outline
namespace Go.Proofs.YtfnajccnlcfbiaaDoor.val
set_option linter.unusedVariables false
open Go.RowKit
attribute [local go_sem high] run_eqlV run_neqV
abbrev Pow10 (w : World) : Prop := Lib.TabIs Tryd.prog w "internal/strconv.uint64pow10" .u64 Lib.pow10Tab
theorem pow10_later {w w' : World} (h : Pow10 w) (hb : Below w.heap.size w w') : Pow10 w' := by
  unfold Pow10 Lib.TabIs World.var? at h ⊢
  have hgn : Tryd.prog.globalNamed "internal/strconv.uint64pow10" = some 2 := by kernel_rfl
  rw [hgn] at h ⊢
  simp only [Option.bind_some] at h ⊢
  have hlt : 2 < w.heap.size := by
    rcases Nat.lt_or_ge 2 w.heap.size with h' | h'
    · exact h'
    · rw [Array.getElem?_eq_none h'] at h; cases h
  rw [hb.block _ hlt]; exact h
abbrev nullS : ByteArray := ⟨#[78, 85, 76, 76]⟩
abbrev trueS : ByteArray := ⟨#[84, 82, 85, 69]⟩
abbrev falseS : ByteArray := ⟨#[70, 65, 76, 83, 69]⟩
/-- how a value is shown -/
def showV (k n : Int) (s : ByteArray) : ByteArray := if gB k n s = false ∨ k = 0 then nullS else if k = 1 then (if n = 1 then trueS else falseS) else if k = 2 then ⟨(Lib.itoa n).toArray⟩ else quote s
theorem quote_dup (s : ByteArray) : quote s = ⟨(39 :: (dup s.data.toList ++ [39])).toArray⟩ := by
  unfold quote inner
  rw [replaceAll_dup]
  apply ByteArray.ext
  simp [q1]
theorem below_fmt (w : World) (q : Nat) (os : Array Go.Obj) : Below w.heap.size w (Go.Sort.grow (w.drewN q) os) :=
  ⟨rfl, rfl, rfl, by simp [Go.Sort.grow], fun k hk => by
    show ((w.drewN q).heap ++ os)[k]? = _
    rw [Array.getElem?_append_left (by show k < w.heap.size; omega)]
    rfl⟩
theorem fmt_any (n : Int) (hn : -9223372036854775808 ≤ n ∧ n ≤ 9223372036854775807) (W : World) (h : Pow10 W) : Calls Tryd.prog 37 #[.int .i64 n, .int .i64 10] W fun e w' => e = .returned (.string ⟨(Lib.itoa n).toArray⟩) ∧ Below W.heap.size W w' :=
  (Tryd.strconv_FormatInt_10 n hn.1 hn.2 W h).mono fun e w' ⟨he, k, os, hw⟩ => ⟨he, by rw [hw]; exact below_fmt _ _ _⟩
theorem gB_true {k n : Int} {s : ByteArray} (h : gB k n s = true) : (k = 0 ∧ n = 0 ∧ s = nob) ∨ (k = 1 ∧ (n = 0 ∨ n = 1) ∧ s = nob) ∨ (k = 2 ∧ s = nob) ∨ (k = 3 ∧ n = 0 ∧ (s.size : Int) ≤ 64) := by
  have he : s.toList.isEmpty = true → s = nob := fun h => by
    apply bytes_ext
    have h0 : nob.toList = [] := by rw [ByteArray.toList_eq]
    rw [h0]; exact List.isEmpty_iff.1 h
  unfold gB at h
  by_cases h0 : k = 0
  · rw [if_pos h0, Bool.and_eq_true, beq_iff_eq] at h; exact .inl ⟨h0, h.1, he h.2⟩
  · rw [if_neg h0] at h
    by_cases h1 : k = 1
    · rw [if_pos h1, Bool.and_eq_true, Bool.or_eq_true, beq_iff_eq, beq_iff_eq] at h; exact .inr (.inl ⟨h1, h.1, he h.2⟩)
    · rw [if_neg h1] at h
      by_cases h2 : k = 2
      · rw [if_pos h2] at h; exact .inr (.inr (.inl ⟨h2, he h⟩))
      · rw [if_neg h2] at h
        by_cases h3 : k = 3
        · rw [if_pos h3, Bool.and_eq_true, beq_iff_eq, decide_eq_true_eq] at h; exact .inr (.inr (.inr ⟨h3, h.1, h.2⟩))
        · rw [if_neg h3] at h; cases h
set_option maxRecDepth 100000 in
set_option maxHeartbeats 2000000 in
theorem show_bad (k n : Int) (s : ByteArray) (h : gB k n s = false) (W : World) : Calls Tryd.prog 32 #[ag3 k n s] W fun e w' => e = .returned (.string nullS) ∧ Below W.heap.size W w' := by
  have hG := Lib.hid (good_any k n s)
  rw [h] at hG
  clear h
  go_enter Tryd.func32, Tryd.ntmps32
  go_wp2_with (first | (go_at_call 34; ((with_reducible refine (hG.out _).mono ?_); rintro e w1 ⟨rfl, hb1⟩; have hB1 : Below W.heap.size W w1 := after (by (repeat' (first | assumption | exact Below.refl _ _ | apply Below.setCell | apply Below.alloc)); all_goals (first | omega | (simp; omega) | (simp; done))) hb1; obtain ⟨hc1, hf1⟩ := bcell hb1; have hz1 := hb1.size; (try simp at hz1); (try simp only [World.size_alloc] at hc1 hf1); have hy0 : W.heap.size < w1.heap.size := (by omega))))
  go_ret
  exact ⟨rfl, hB1⟩
set_option maxRecDepth 100000 in
set_option maxHeartbeats 2000000 in
theorem show_0 (W : World) : Calls Tryd.prog 32 #[ag3 0 0 nob] W fun e w' => e = .returned (.string nullS) ∧ Below W.heap.size W w' := by
  have hG := Lib.hid (good_any 0 0 nob)
  have e : gB 0 0 nob = true := by unfold gB; rw [← emp_eq]; simp
  rw [e] at hG
  clear e
  go_enter Tryd.func32, Tryd.ntmps32
  go_wp2_with (first | (go_at_call 34; ((with_reducible refine (hG.out _).mono ?_); rintro e w1 ⟨rfl, hb1⟩; have hB1 : Below W.heap.size W w1 := after (by (repeat' (first | assumption | exact Below.refl _ _ | apply Below.setCell | apply Below.alloc)); all_goals (first | omega | (simp; omega) | (simp; done))) hb1; obtain ⟨hc1, hf1⟩ := bcell hb1; have hz1 := hb1.size; (try simp at hz1); (try simp only [World.size_alloc] at hc1 hf1); have hy0 : W.heap.size < w1.heap.size := (by omega))))
  go_ret
  exact ⟨rfl, hB1⟩
set_option maxRecDepth 100000 in
set_option maxHeartbeats 2000000 in
theorem show_1 (n : Int) (h : n = 0 ∨ n = 1) (W : World) : Calls Tryd.prog 32 #[ag3 1 n nob] W fun e w' => e = .returned (.string (if n = 1 then trueS else falseS)) ∧ Below W.heap.size W w' := by
  have hG := Lib.hid (good_any 1 n nob)
  have e : gB 1 n nob = true := by unfold gB; rw [← emp_eq]; rcases h with rfl | rfl <;> simp
  rw [e] at hG
  have hT := Lib.hid (true_any 1 n nob)
  clear e
  rcases h with rfl | rfl
  · have hv : veq6 1 0 nob (ofB true).k (ofB true).n (ofB true).s = false := rfl
    rw [hv] at hT
    rw [if_neg (by decide)]
    clear hv
    go_enter Tryd.func32, Tryd.ntmps32
    go_wp2_with (first | (go_at_call 34; ((with_reducible refine (hG.out _).mono ?_); rintro e w1 ⟨rfl, hb1⟩; have hB1 : Below W.heap.size W w1 := after (by (repeat' (first | assumption | exact Below.refl _ _ | apply Below.setCell | apply Below.alloc)); all_goals (first | omega | (simp; omega) | (simp; done))) hb1; obtain ⟨hc1, hf1⟩ := bcell hb1; have hz1 := hb1.size; (try simp at hz1); (try simp only [World.size_alloc] at hc1 hf1); have hy0 : W.heap.size < w1.heap.size := (by omega))) | (go_at_call 36; ((with_reducible refine (hT.out _).mono ?_); rintro e w1 ⟨rfl, hb1⟩; have hB1 : Below W.heap.size W w1 := after (by (repeat' (first | assumption | exact Below.refl _ _ | apply Below.setCell | apply Below.alloc)); all_goals (first | omega | (simp; omega) | (simp; done))) hb1; obtain ⟨hc1, hf1⟩ := bcell hb1; have hz1 := hb1.size; (try simp at hz1); (try simp only [World.size_alloc] at hc1 hf1); have hy0 : W.heap.size < w1.heap.size := (by omega))))
    go_ret
    exact ⟨rfl, hB1⟩
  · have hv : veq6 1 1 nob (ofB true).k (ofB true).n (ofB true).s = true := veq_self ⟨1, 1, nob⟩
    rw [hv] at hT
    rw [if_pos rfl]
    clear hv
    go_enter Tryd.func32, Tryd.ntmps32
    go_wp2_with (first | (go_at_call 34; ((with_reducible refine (hG.out _).mono ?_); rintro e w1 ⟨rfl, hb1⟩; have hB1 : Below W.heap.size W w1 := after (by (repeat' (first | assumption | exact Below.refl _ _ | apply Below.setCell | apply Below.alloc)); all_goals (first | omega | (simp; omega) | (simp; done))) hb1; obtain ⟨hc1, hf1⟩ := bcell hb1; have hz1 := hb1.size; (try simp at hz1); (try simp only [World.size_alloc] at hc1 hf1); have hy0 : W.heap.size < w1.heap.size := (by omega))) | (go_at_call 36; ((with_reducible refine (hT.out _).mono ?_); rintro e w1 ⟨rfl, hb1⟩; have hB1 : Below W.heap.size W w1 := after (by (repeat' (first | assumption | exact Below.refl _ _ | apply Below.setCell | apply Below.alloc)); all_goals (first | omega | (simp; omega) | (simp; done))) hb1; obtain ⟨hc1, hf1⟩ := bcell hb1; have hz1 := hb1.size; (try simp at hz1); (try simp only [World.size_alloc] at hc1 hf1); have hy0 : W.heap.size < w1.heap.size := (by omega))))
    go_ret
    exact ⟨rfl, hB1⟩
set_option maxRecDepth 100000 in
set_option maxHeartbeats 2000000 in
theorem show_2 (n : Int) (hn : -9223372036854775808 ≤ n ∧ n ≤ 9223372036854775807) (W : World) (hp : Pow10 W) : Calls Tryd.prog 32 #[ag3 2 n nob] W fun e w' => e = .returned (.string ⟨(Lib.itoa n).toArray⟩) ∧ Below W.heap.size W w' := by
  have hG := Lib.hid (good_any 2 n nob)
  have e : gB 2 n nob = true := by unfold gB; rw [← emp_eq]; simp
  rw [e] at hG
  have hT := Lib.hid (true_any 2 n nob)
  have hv : veq6 2 n nob (ofB true).k (ofB true).n (ofB true).s = false := rfl
  rw [hv] at hT
  have HF := Lib.hid (fun W h => fmt_any n hn W h)
  have HP := Lib.hid hp
  clear e hv hn hp
  generalize (⟨(Lib.itoa n).toArray⟩ : ByteArray) = R at *
  go_enter Tryd.func32, Tryd.ntmps32
  go_wp2_with (first | (go_at_call 34; ((with_reducible refine (hG.out _).mono ?_); rintro e w1 ⟨rfl, hb1⟩; have hB1 : Below W.heap.size W w1 := after (by (repeat' (first | assumption | exact Below.refl _ _ | apply Below.setCell | apply Below.alloc)); all_goals (first | omega | (simp; omega) | (simp; done))) hb1; obtain ⟨hc1, hf1⟩ := bcell hb1; have hz1 := hb1.size; (try simp at hz1); (try simp only [World.size_alloc] at hc1 hf1); have hy0 : W.heap.size < w1.heap.size := (by omega))) | (go_at_call 36; ((with_reducible refine (hT.out _).mono ?_); rintro e w1 ⟨rfl, hb1⟩; have hB1 : Below W.heap.size W w1 := after (by (repeat' (first | assumption | exact Below.refl _ _ | apply Below.setCell | apply Below.alloc)); all_goals (first | omega | (simp; omega) | (simp; done))) hb1; obtain ⟨hc1, hf1⟩ := bcell hb1; have hz1 := hb1.size; (try simp at hz1); (try simp only [World.size_alloc] at hc1 hf1); have hy0 : W.heap.size < w1.heap.size := (by omega))) | (go_at_call 37; ((with_reducible refine (HF.out _ (pow10_later HP.out hB1)).mono ?_); rintro e w1 ⟨rfl, hb1⟩; have hB1 : Below W.heap.size W w1 := after (by (repeat' (first | assumption | exact Below.refl _ _ | apply Below.setCell | apply Below.alloc)); all_goals (first | omega | (simp; omega) | (simp; done))) hb1; obtain ⟨hc1, hf1⟩ := bcell hb1; have hz1 := hb1.size; (try simp at hz1); (try simp only [World.size_alloc] at hc1 hf1); have hy0 : W.heap.size < w1.heap.size := (by omega))))
  go_ret
  exact ⟨rfl, hB1⟩
/-- HOW THE PROGRAM SHOWS A VALUE -/
theorem show_any (k n : Int) (s : ByteArray) (hn : -9223372036854775808 ≤ n ∧ n ≤ 9223372036854775807) (m : Int) (W : World) (hm : W.cell? ⟨gMax, 0, none⟩ = some (.int .i64 m)) (hp : Pow10 W) :
    Calls Tryd.prog 32 #[ag3 k n s] W fun e w' => e = .returned (.string (showV k n s)) ∧ Below W.heap.size W w' := by
  cases hg : gB k n s
  · have E : showV k n s = nullS := by unfold showV; rw [if_pos (.inl hg)]
    rw [E]; exact show_bad k n s hg W
  · rcases gB_true hg with ⟨rfl, rfl, rfl⟩ | ⟨rfl, h, rfl⟩ | ⟨rfl, rfl⟩ | ⟨rfl, rfl, h⟩
    · have E : showV 0 0 nob = nullS := by unfold showV; rw [if_pos (.inr rfl)]
      rw [E]; exact show_0 W
    · have E : showV 1 n nob = if n = 1 then trueS else falseS := by unfold showV; rw [if_neg (by rw [hg]; simp), if_pos rfl]
      rw [E]; exact show_1 n h W
    · have E : showV 2 n nob = ⟨(Lib.itoa n).toArray⟩ := by unfold showV; rw [if_neg (by rw [hg]; simp), if_neg (by decide), if_pos rfl]
      rw [E]; exact show_2 n hn W hp
    · have E : showV 3 0 s = quote s := by unfold showV; rw [if_neg (by rw [hg]; simp), if_neg (by decide), if_neg (by decide)]
      rw [E]; exact show_txt s h m W hm
end Go.Proofs.YtfnajccnlcfbiaaDoor.val
/- How values are shown, by the document's text. -/
namespace Go.Proofs.YtfnajccnlcfbiaaDoor.val
set_option linter.unusedVariables false
open Go.RowKit
set_option maxRecDepth 100000 in
set_option maxHeartbeats 2000000 in
theorem rshow_bad (k n : Int) (s : ByteArray) (h : gB k n s = false) (W : World) : Calls Tryd.prog 20 #[ag3 k n s] W fun e w' => e = .returned (.string nullS) ∧ Below W.heap.size W w' := by
  have hG := Lib.hid (rgood_any k n s)
  rw [h] at hG
  clear h
  go_enter Tryd.func20, Tryd.ntmps20
  go_wp2_with (first | (go_at_call 28; ((with_reducible refine (hG.out _).mono ?_); rintro e w1 ⟨rfl, hb1⟩; have hB1 : Below W.heap.size W w1 := after (by (repeat' (first | assumption | exact Below.refl _ _ | apply Below.setCell | apply Below.alloc)); all_goals (first | omega | (simp; omega) | (simp; done))) hb1; obtain ⟨hc1, hf1⟩ := bcell hb1; have hz1 := hb1.size; (try simp at hz1); (try simp only [World.size_alloc] at hc1 hf1); have hy0 : W.heap.size < w1.heap.size := (by omega))))
  go_ret
  exact ⟨rfl, hB1⟩
set_option maxRecDepth 100000 in
set_option maxHeartbeats 2000000 in
theorem rshow_0 (W : World) : Calls Tryd.prog 20 #[ag3 0 0 nob] W fun e w' => e = .returned (.string nullS) ∧ Below W.heap.size W w' := by
  have hG := Lib.hid (rgood_any 0 0 nob)
  have e : gB 0 0 nob = true := by unfold gB; rw [← emp_eq]; simp
  rw [e] at hG
  clear e
  go_enter Tryd.func20, Tryd.ntmps20
  go_wp2_with (first | (go_at_call 28; ((with_reducible refine (hG.out _).mono ?_); rintro e w1 ⟨rfl, hb1⟩; have hB1 : Below W.heap.size W w1 := after (by (repeat' (first | assumption | exact Below.refl _ _ | apply Below.setCell | apply Below.alloc)); all_goals (first | omega | (simp; omega) | (simp; done))) hb1; obtain ⟨hc1, hf1⟩ := bcell hb1; have hz1 := hb1.size; (try simp at hz1); (try simp only [World.size_alloc] at hc1 hf1); have hy0 : W.heap.size < w1.heap.size := (by omega))))
  go_ret
  exact ⟨rfl, hB1⟩
set_option maxRecDepth 100000 in
set_option maxHeartbeats 2000000 in
theorem rshow_1 (n : Int) (h : n = 0 ∨ n = 1) (W : World) : Calls Tryd.prog 20 #[ag3 1 n nob] W fun e w' => e = .returned (.string (if n = 1 then trueS else falseS)) ∧ Below W.heap.size W w' := by
  have hG := Lib.hid (rgood_any 1 n nob)
  have e : gB 1 n nob = true := by unfold gB; rw [← emp_eq]; rcases h with rfl | rfl <;> simp
  rw [e] at hG
  clear e
  rcases h with rfl | rfl
  · rw [if_neg (by decide)]
    go_enter Tryd.func20, Tryd.ntmps20
    go_wp2_with (first | (go_at_call 28; ((with_reducible refine (hG.out _).mono ?_); rintro e w1 ⟨rfl, hb1⟩; have hB1 : Below W.heap.size W w1 := after (by (repeat' (first | assumption | exact Below.refl _ _ | apply Below.setCell | apply Below.alloc)); all_goals (first | omega | (simp; omega) | (simp; done))) hb1; obtain ⟨hc1, hf1⟩ := bcell hb1; have hz1 := hb1.size; (try simp at hz1); (try simp only [World.size_alloc] at hc1 hf1); have hy0 : W.heap.size < w1.heap.size := (by omega))))
    go_ret
    exact ⟨rfl, hB1⟩
  · rw [if_pos rfl]
    go_enter Tryd.func20, Tryd.ntmps20
    go_wp2_with (first | (go_at_call 28; ((with_reducible refine (hG.out _).mono ?_); rintro e w1 ⟨rfl, hb1⟩; have hB1 : Below W.heap.size W w1 := after (by (repeat' (first | assumption | exact Below.refl _ _ | apply Below.setCell | apply Below.alloc)); all_goals (first | omega | (simp; omega) | (simp; done))) hb1; obtain ⟨hc1, hf1⟩ := bcell hb1; have hz1 := hb1.size; (try simp at hz1); (try simp only [World.size_alloc] at hc1 hf1); have hy0 : W.heap.size < w1.heap.size := (by omega))))
    go_ret
    exact ⟨rfl, hB1⟩
set_option maxRecDepth 100000 in
set_option maxHeartbeats 2000000 in
theorem rshow_2 (n : Int) (hn : -9223372036854775808 ≤ n ∧ n ≤ 9223372036854775807) (W : World) : Calls Tryd.prog 20 #[ag3 2 n nob] W fun e w' => e = .returned (.string ⟨(Lib.itoa n).toArray⟩) ∧ Below W.heap.size W w' := by
  have hG := Lib.hid (rgood_any 2 n nob)
  have e : gB 2 n nob = true := by unfold gB; rw [← emp_eq]; simp
  rw [e] at hG
  have HF := Lib.hid (fun W => digits_ref n hn W)
  clear e hn
  generalize (⟨(Lib.itoa n).toArray⟩ : ByteArray) = R at *
  go_enter Tryd.func20, Tryd.ntmps20
  go_wp2_with (first | (go_at_call 28; ((with_reducible refine (hG.out _).mono ?_); rintro e w1 ⟨rfl, hb1⟩; have hB1 : Below W.heap.size W w1 := after (by (repeat' (first | assumption | exact Below.refl _ _ | apply Below.setCell | apply Below.alloc)); all_goals (first | omega | (simp; omega) | (simp; done))) hb1; obtain ⟨hc1, hf1⟩ := bcell hb1; have hz1 := hb1.size; (try simp at hz1); (try simp only [World.size_alloc] at hc1 hf1); have hy0 : W.heap.size < w1.heap.size := (by omega))) | (go_at_call 30; ((with_reducible refine (HF.out _).mono ?_); rintro e w1 ⟨rfl, hb1⟩; have hB1 : Below W.heap.size W w1 := after (by (repeat' (first | assumption | exact Below.refl _ _ | apply Below.setCell | apply Below.alloc)); all_goals (first | omega | (simp; omega) | (simp; done))) hb1; obtain ⟨hc1, hf1⟩ := bcell hb1; have hz1 := hb1.size; (try simp at hz1); (try simp only [World.size_alloc] at hc1 hf1); have hy0 : W.heap.size < w1.heap.size := (by omega))))
  go_ret
  exact ⟨rfl, hB1⟩
/-- what is written of a text -/
def Qd (s : ByteArray) (k : Nat) (S : ByteArray) : Prop := S = ⟨(39 :: dup (s.data.toList.take k)).toArray⟩
theorem dup_len : ∀ l : List UInt8, (dup l).length ≤ 2 * l.length
  | [] => by simp [dup]
  | c :: l => by
    have := dup_len l
    rw [dup_cons, List.length_append, List.length_cons]
    split <;> simp <;> omega
theorem Qd.size {s S : ByteArray} {k : Nat} (h : Qd s k S) : S.size ≤ 1 + 2 * k := by
  have h1 := dup_len (s.data.toList.take k)
  have h2 := List.length_take_le k s.data.toList
  rw [h]
  show (39 :: dup (s.data.toList.take k)).length ≤ _
  rw [List.length_cons]; omega
theorem ext_one (s : ByteArray) (k : Nat) (h : k < s.size) : (s.extract k (k + 1)).data.toList = [s[k]] := by
  rw [ByteArray.data_extract, Array.toList_extract]
  have h' : k < s.data.toList.length := h
  rw [List.extract_eq_take_drop, Nat.add_sub_cancel_left, List.drop_eq_getElem_cons h']
  rfl
theorem Qd.one {s S : ByteArray} {k : Nat} (h : Qd s k S) (hk : k < s.size) (hc : s[k] ≠ 39) : Qd s (k + 1) (S ++ s.extract k (k + 1)) := by
  unfold Qd at *
  rw [take_snoc s k hk, dup_snoc, if_neg hc, h]
  apply ByteArray.ext
  rw [ByteArray.data_append]
  apply Array.toList_inj.1
  rw [Array.toList_append, ext_one s k hk]
  simp
theorem Qd.two {s S : ByteArray} {k : Nat} (h : Qd s k S) (hk : k < s.size) (hc : s[k] = 39) : Qd s (k + 1) (S ++ s.extract k (k + 1) ++ ⟨#[39]⟩) := by
  unfold Qd at *
  rw [take_snoc s k hk, dup_snoc, if_pos hc, h]
  apply ByteArray.ext
  rw [ByteArray.data_append, ByteArray.data_append]
  apply Array.toList_inj.1
  rw [Array.toList_append, Array.toList_append, ext_one s k hk, hc]
  simp
theorem Qd.done {s S : ByteArray} (h : Qd s s.size S) : S ++ ⟨#[39]⟩ = quote s := by
  rw [quote_dup, h, take_all s _ (Nat.le_refl _)]
  apply ByteArray.ext
  simp
set_option maxRecDepth 100000 in
set_option maxHeartbeats 2000000 in
theorem rshow_3 (s : ByteArray) (hs : (s.size : Int) ≤ 64) (W : World) : Calls Tryd.prog 20 #[ag3 3 0 s] W fun e w' => e = .returned (.string (quote s)) ∧ Below W.heap.size W w' := by
  have hG := Lib.hid (rgood_any 3 0 s)
  have e : gB 3 0 s = true := by unfold gB; simp; omega
  rw [e] at hG
  have h64 : s.size ≤ 64 := by omega
  clear e
  go_enter Tryd.func20, Tryd.ntmps20
  go_wp2_with (first | (go_at_call 28; ((with_reducible refine (hG.out _).mono ?_); rintro e w1 ⟨rfl, hb1⟩; have hB1 : Below W.heap.size W w1 := after (by (repeat' (first | assumption | exact Below.refl _ _ | apply Below.setCell | apply Below.alloc)); all_goals (first | omega | (simp; omega) | (simp; done))) hb1; obtain ⟨hc1, hf1⟩ := bcell hb1; have hz1 := hb1.size; (try simp at hz1); (try simp only [World.size_alloc] at hc1 hf1); have hy0 : W.heap.size < w1.heap.size := (by omega))))
  have c2 : w1.cell? ⟨W.heap.size, 2, none⟩ = some (.string s) := cell_later hb1 (cells_new W [.int .i64 3, .int .i64 0, .string s] TR 2)
  have HB1 := Lib.hid hB1
  clear hc1 hf1 hb1 hB1
  go_loop [3, 4] (fun o i => ∃ (k : Nat) (S : ByteArray), k ≤ s.size ∧ i = .int .i64 k ∧ o = .string S ∧ Hid (Qd s k S)) (fun _ i => s.size - (intOf i).toNat)
  case atStart => exact ⟨0, _, by omega, rfl, rfl, Lib.hid (by unfold Qd; simp [dup_nil])⟩
  case round =>
    obtain ⟨k, S, hk, rfl, rfl, hQ⟩ := hrel
    have hsz := hQ.out.size
    by_cases hlt : k < s.size
    · have h1 : k + 1 ≤ s.size := by omega
      by_cases hc : s[k] = 39
      · have q : ((s[k].toNat : Int) == 39) = true := by rw [hc]; rfl
        have HN := Lib.hid (hQ.out.two hlt hc)
        clear hc
        go_wp2
        exact ⟨⟨k + 1, _, h1, by go_num, rfl, HN⟩, by simp [intOf]; omega⟩
      · have q : ((s[k].toNat : Int) == 39) = false := by
          rw [beq_eq_false_iff_ne]; intro e; apply hc; apply UInt8.toNat_inj.1; show _ = 39; omega
        have HN := Lib.hid (hQ.out.one hlt hc)
        clear hc
        go_wp2
        exact ⟨⟨k + 1, _, h1, by go_num, rfl, HN⟩, by simp [intOf]; omega⟩
    · obtain rfl : k = s.size := by omega
      have HN := Lib.hid hQ.out.done
      go_wp2
      go_ret
      exact ⟨ret_str HN.out, HB1.out⟩
/-- HOW THE DOCUMENT SHOWS A VALUE -/
theorem rshow_any (k n : Int) (s : ByteArray) (hn : -9223372036854775808 ≤ n ∧ n ≤ 9223372036854775807) (W : World) :
    Calls Tryd.prog 20 #[ag3 k n s] W fun e w' => e = .returned (.string (showV k n s)) ∧ Below W.heap.size W w' := by
  cases hg : gB k n s
  · have E : showV k n s = nullS := by unfold showV; rw [if_pos (.inl hg)]
    rw [E]; exact rshow_bad k n s hg W
  · rcases gB_true hg with ⟨rfl, rfl, rfl⟩ | ⟨rfl, h, rfl⟩ | ⟨rfl, rfl⟩ | ⟨rfl, rfl, h⟩
    · have E : showV 0 0 nob = nullS := by unfold showV; rw [if_pos (.inr rfl)]
      rw [E]; exact rshow_0 W
    · have E : showV 1 n nob = if n = 1 then trueS else falseS := by unfold showV; rw [if_neg (by rw [hg]; simp), if_pos rfl]
      rw [E]; exact rshow_1 n h W
    · have E : showV 2 n nob = ⟨(Lib.itoa n).toArray⟩ := by unfold showV; rw [if_neg (by rw [hg]; simp), if_neg (by decide), if_pos rfl]
      rw [E]; exact rshow_2 n hn W
    · have E : showV 3 0 s = quote s := by unfold showV; rw [if_neg (by rw [hg]; simp), if_neg (by decide), if_neg (by decide)]
      rw [E]; exact rshow_3 s h W
end Go.Proofs.YtfnajccnlcfbiaaDoor.val
