/- A value's bytes in its row's key, walked. -/
import Derived.Test.YtpkkhbmlclicfaaMA
import Derived.Test.YtpkkhbmlclicfaaMB
import Derived.Test.YtpkkhbmlclicfaaAgS
import Derived.Test.YtpkkhbmlclicfaaOnly
import Derived.OwnWalk
namespace Go.Proofs.Ytpkkhbmlclicfaa.val
set_option linter.unusedVariables false
open Go.RowKit
attribute [local go_sem] ag.upon_value ag.upon_skip ag.upon_enter ags.upon_value ags.upon_skip ags.upon_enter ags.uponS_skip
attribute [local go_sem] Oper.semAt_some
theorem cvr1 (w : World) (o : Go.Obj) (x : Int) (T : TypeId) :
    (convert 79 9 (.slice (some ⟨w.heap.size + 1, 0, none⟩) 1 1)).run Try.prog ((w.alloc o).alloc (.cells #[.int .u8 x] T)) = .ok (.string (strOfNums [x])) ((w.alloc o).alloc (.cells #[.int .u8 x] T)) := by
  have h := run_convert1 (w.alloc o) x T
  rwa [World.size_alloc] at h
theorem cvr2 (w : World) (o o' : Go.Obj) (x : Int) (T : TypeId) :
    (convert 79 9 (.slice (some ⟨w.heap.size + 1 + 1, 0, none⟩) 1 1)).run Try.prog (((w.alloc o).alloc o').alloc (.cells #[.int .u8 x] T)) = .ok (.string (strOfNums [x])) (((w.alloc o).alloc o').alloc (.cells #[.int .u8 x] T)) := by
  have h := cvr1 (w.alloc o) o' x T
  rwa [World.size_alloc] at h
theorem str_cat (a : List UInt8) (s : ByteArray) : (⟨a.toArray⟩ : ByteArray) ++ s = ⟨(a ++ s.data.toList).toArray⟩ := by
  apply bytes_data; simp
set_option maxRecDepth 100000 in
set_option maxHeartbeats 1000000 in
theorem encode_0 (n : Int) (s : ByteArray) (W : World) : Calls Try.prog 44 #[ag3 0 n s] W fun e w' => e = .returned (.string (encS ⟨0, n, s⟩)) ∧ Below W.heap.size W w' := by
  have hcv := cvr1
  have hcv2 := cvr2
  go_enter Try.func44, Try.ntmps44
  go_wp2
  go_ret
  exact ⟨ret_str rfl, below_alloc2 _ _ _⟩
set_option maxRecDepth 100000 in
set_option maxHeartbeats 1000000 in
theorem encode_1 (n : Int) (s : ByteArray) (hn : n = 0 ∨ n = 1) (W : World) : Calls Try.prog 44 #[ag3 1 n s] W fun e w' => e = .returned (.string (encS ⟨1, n, s⟩)) ∧ Below W.heap.size W w' := by
  have hcv := cvr1
  have hcv2 := cvr2
  rcases hn with rfl | rfl
  all_goals
    go_enter Try.func44, Try.ntmps44
    go_wp2
    go_ret
    exact ⟨ret_str rfl, (below_alloc2 _ _ _).alloc (by simp; omega) _⟩
set_option maxRecDepth 100000 in
set_option maxHeartbeats 1000000 in
theorem encode_2 (n : Int) (s : ByteArray) (hn : -9223372036854775808 ≤ n ∧ n ≤ 9223372036854775807) (W : World) : Calls Try.prog 44 #[ag3 2 n s] W fun e w' => e = .returned (.string (encS ⟨2, n, s⟩)) ∧ Below W.heap.size W w' := by
  have hcv := cvr1
  have hcv2 := cvr2
  go_enter Try.func44, Try.ntmps44
  go_wp2_with (first | (go_at_call 58; ((with_reducible refine (packInt_any _ hn _).mono ?_); rintro e w1 ⟨rfl, hb1⟩; have hB1 : Below W.heap.size W w1 := after (by (repeat' (first | assumption | exact Below.refl _ _ | apply Below.setCell | apply Below.alloc)); all_goals (first | omega | (simp; omega) | (simp; done))) hb1; obtain ⟨hc1, hf1⟩ := bcell hb1; have hz1 := hb1.size; (try simp at hz1); (try simp only [World.size_alloc] at hc1 hf1); have hy0 : W.heap.size < w1.heap.size := (by omega); have hy1 : W.heap.size + 1 < w1.heap.size := (by omega))))
  go_ret
  exact ⟨ret_str (str_cat _ _), hB1⟩
set_option maxRecDepth 100000 in
set_option maxHeartbeats 1000000 in
theorem encode_3 (n : Int) (s : ByteArray) (hs : s.size ≤ 64) (W : World) : Calls Try.prog 44 #[ag3 3 n s] W fun e w' => e = .returned (.string (encS ⟨3, n, s⟩)) ∧ Below W.heap.size W w' := by
  have hl : ¬ 9223372036854775807 < (strOfNums [3]).size + s.size := by
    have e : (strOfNums [3]).size = 1 := rfl
    rw [e]; omega
  have hcv := cvr1
  have hcv2 := cvr2
  go_enter Try.func44, Try.ntmps44
  go_wp2
  go_ret
  exact ⟨ret_str (str_cat _ _), below_alloc2 _ _ _⟩
theorem encode_any (k n : Int) (s : ByteArray) (hv : Good ⟨k, n, s⟩) (W : World) : Calls Try.prog 44 #[ag3 k n s] W fun e w' => e = .returned (.string (encS ⟨k, n, s⟩)) ∧ Below W.heap.size W w' := by
  unfold Good at hv
  dsimp only at hv
  rcases hv with ⟨rfl, -, -⟩ | ⟨rfl, h, -⟩ | ⟨rfl, -, h⟩ | ⟨rfl, -, h⟩
  · exact encode_0 n s W
  · exact encode_1 n s h W
  · exact encode_2 n s h W
  · exact encode_3 n s h W
end Go.Proofs.Ytpkkhbmlclicfaa.val
/- What a text says as a value's bytes: plain mathematics. -/
namespace Go.Proofs.Ytpkkhbmlclicfaa.val
set_option linter.unusedVariables false
theorem gB_good {k n : Int} {s : ByteArray} (h : Good ⟨k, n, s⟩) : gB k n s = true := by
  unfold Good at h
  dsimp only at h
  have e : ByteArray.empty.toList = [] := by rw [ByteArray.toList_eq]; rfl
  rcases h with ⟨rfl, rfl, rfl⟩ | ⟨rfl, h1, rfl⟩ | ⟨rfl, rfl, h1⟩ | ⟨rfl, rfl, h1⟩
  · simp [gB, e]
  · rcases h1 with rfl | rfl <;> simp [gB, e]
  · simp [gB, e]
  · simp [gB]; omega
/-- what is read of a text -/
def DecF (s : ByteArray) (k n : Int) (t : ByteArray) : Prop := (shapeB s = true → Good ⟨k, n, t⟩ ∧ encB ⟨k, n, t⟩ = s.data.toList) ∧ (gB k n t = true → Good ⟨k, n, t⟩)
theorem DecF.cmp {s : ByteArray} {k n : Int} {t : ByteArray} (h : DecF s k n t) (hb : gB k n t = true) : ((encS ⟨k, n, t⟩).toList == s.toList) = shapeB s := by
  have hg := h.2 hb
  rw [ByteArray.toList_eq, ByteArray.toList_eq]
  have e1 : (encS ⟨k, n, t⟩).data.toList = encB ⟨k, n, t⟩ := by simp [encS]
  rw [e1]
  cases hs : shapeB s with
  | true => rw [(h.1 hs).2]; simp
  | false =>
    rw [beq_eq_false_iff_ne]
    intro e
    have : encS ⟨k, n, t⟩ = s := bytes_data (by rw [e1]; exact e)
    rw [← this, enc_shape hg] at hs
    cases hs
theorem DecF.bad {s : ByteArray} {k n : Int} {t : ByteArray} (h : DecF s k n t) (hb : gB k n t = false) : shapeB s = false := by
  cases hs : shapeB s with
  | false => rfl
  | true => rw [gB_good (h.1 hs).1] at hb; cases hb
theorem dec_0 {s : ByteArray} {r : List UInt8} (h : s.data.toList = 0 :: r) : DecF s 0 0 nob := by
  have hg : Good ⟨0, 0, nob⟩ := .inl ⟨rfl, rfl, rfl⟩
  refine ⟨fun hs => ⟨hg, ?_⟩, fun _ => hg⟩
  unfold shapeB at hs
  rw [h] at hs ⊢
  simp at hs
  rw [hs]; rfl
theorem dec_1 {s : ByteArray} {c : UInt8} (h : s.data.toList = [1, c]) : DecF s 1 (c.toNat : Int) nob := by
  refine ⟨fun hs => ?_, fun hg => ?_⟩
  · unfold shapeB at hs
    rw [h] at hs ⊢
    simp at hs
    refine ⟨.inr (.inl ⟨rfl, by dsimp only; omega, rfl⟩), ?_⟩
    rw [enc_1]; simp
  · unfold gB at hg
    simp at hg
    refine .inr (.inl ⟨rfl, by dsimp only; omega, rfl⟩)
theorem dec_1n {s : ByteArray} {r : List UInt8} (h : s.data.toList = 1 :: r) (hr : r.length ≠ 1) : DecF s 1 0 nob := by
  have hg : Good ⟨1, 0, nob⟩ := .inr (.inl ⟨rfl, .inl rfl, rfl⟩)
  refine ⟨fun hs => ?_, fun _ => hg⟩
  unfold shapeB at hs
  rw [h] at hs
  exfalso
  match r, hs, hr with
  | [], hs, _ => simp at hs
  | [_], _, hr => exact hr rfl
  | _ :: _ :: _, hs, _ => simp at hs
theorem getIv_rng (s : ByteArray) (h : s.size = 8) : -9223372036854775808 ≤ getIv s ∧ getIv s ≤ 9223372036854775807 ∧ intB (getIv s) = s.data.toList := by
  have hl : s.data.toList.length = s.size := by rw [← ByteArray.size_data]; simp
  have h1 := beVal_lt s.data.toList
  rw [hl, h] at h1
  have h2 : (256 : Nat) ^ 8 = 18446744073709551616 := by decide
  rw [h2] at h1
  unfold getIv
  refine ⟨by omega, by omega, ?_⟩
  unfold intB
  rw [show ((beVal s.data.toList : Int) - 9223372036854775808 + 9223372036854775808).toNat = beVal s.data.toList by omega]
  have := beD_beVal s.data.toList
  rwa [hl, h] at this
theorem tail_data {s : ByteArray} {b : UInt8} {r : List UInt8} (h : s.data.toList = b :: r) : (s.extract 1 s.size).data.toList = r ∧ (s.extract 1 s.size).size = r.length := by
  have e : (s.extract 1 s.size).data.toList = r := by rw [Lib.extract_to_end, h]; rfl
  refine ⟨e, ?_⟩
  rw [← e, ← ByteArray.size_data]; simp
theorem dec_2 {s : ByteArray} {r : List UInt8} (h : s.data.toList = 2 :: r) (hr : r.length = 8) : DecF s 2 (getIv (s.extract 1 s.size)) nob := by
  obtain ⟨e1, e2⟩ := tail_data h
  obtain ⟨h1, h2, h3⟩ := getIv_rng _ (e2.trans hr)
  have hg : Good ⟨2, getIv (s.extract 1 s.size), nob⟩ := .inr (.inr (.inl ⟨rfl, rfl, h1, h2⟩))
  exact ⟨fun _ => ⟨hg, by rw [enc_2, h3, e1, h]⟩, fun _ => hg⟩
theorem dec_2n {s : ByteArray} {r : List UInt8} (h : s.data.toList = 2 :: r) (hr : r.length ≠ 8) : DecF s 2 0 nob := by
  have hg : Good ⟨2, 0, nob⟩ := .inr (.inr (.inl ⟨rfl, rfl, by decide, by decide⟩))
  refine ⟨fun hs => ?_, fun _ => hg⟩
  unfold shapeB at hs
  rw [h] at hs
  simp at hs
  exact absurd hs hr
theorem dec_3 {s : ByteArray} {r : List UInt8} (h : s.data.toList = 3 :: r) : DecF s 3 0 (s.extract 1 s.size) := by
  obtain ⟨e1, e2⟩ := tail_data h
  refine ⟨fun hs => ?_, fun hg => ?_⟩
  · unfold shapeB at hs
    rw [h] at hs
    simp at hs
    exact ⟨.inr (.inr (.inr ⟨rfl, rfl, by show (s.extract 1 s.size).size ≤ 64; omega⟩)), by rw [enc_3, e1, h]⟩
  · unfold gB at hg
    simp only [show (3 : Int) = 0 ↔ False by decide, show (3 : Int) = 1 ↔ False by decide, show (3 : Int) = 2 ↔ False by decide, if_false, if_true, beq_self_eq_true, Bool.true_and, decide_eq_true_eq] at hg
    exact .inr (.inr (.inr ⟨rfl, rfl, by show (s.extract 1 s.size).size ≤ 64; omega⟩))
theorem dec_4 {s : ByteArray} {b : UInt8} {r : List UInt8} (h : s.data.toList = b :: r) (h0 : b.toNat ≠ 0) (h1 : b.toNat ≠ 1) (h2 : b.toNat ≠ 2) (h3 : b.toNat ≠ 3) : DecF s (b.toNat : Int) 0 nob := by
  have e : ∀ c : UInt8, b.toNat ≠ c.toNat → ¬ b = c := fun c hc hb => hc (by rw [hb])
  refine ⟨fun hs => ?_, fun hg => ?_⟩
  · unfold shapeB at hs
    rw [h] at hs
    simp only [if_neg (e 0 h0), if_neg (e 1 h1), if_neg (e 2 h2), if_neg (e 3 h3)] at hs
    cases hs
  · unfold gB at hg
    rw [if_neg (by omega), if_neg (by omega), if_neg (by omega), if_neg (by omega)] at hg
    cases hg
theorem shape_nil {s : ByteArray} (h : s.size = 0) : shapeB s = false := by
  have hl : s.data.toList.length = s.size := by rw [← ByteArray.size_data]; simp
  unfold shapeB
  rw [List.eq_nil_of_length_eq_zero (by omega : s.data.toList.length = 0)]
end Go.Proofs.Ytpkkhbmlclicfaa.val
/- A value of its bytes in a row's key, walked. -/
namespace Go.Proofs.Ytpkkhbmlclicfaa.val
set_option linter.unusedVariables false
open Go.RowKit
attribute [local go_sem] ag.upon_value ag.upon_skip ag.upon_enter ags.upon_value ags.upon_skip ags.upon_enter ags.uponS_skip
attribute [local go_sem] Oper.semAt_some
/-- what decode tells -/
def DecPost (s : ByteArray) (W : World) (e : Ending) (w' : World) : Prop :=
  ∃ k n t, e = .returned (.tuple #[ag3 k n t, .bool (shapeB s)]) ∧ (shapeB s = true → Good ⟨k, n, t⟩ ∧ encB ⟨k, n, t⟩ = s.data.toList) ∧ Below W.heap.size W w'
/-- the world behind a store of a value -/
def st3 (w : World) (g : Nat) (k n : Int) (t : ByteArray) : World := ((w.setCell ⟨g, 0, none⟩ (.int .i64 k)).setCell ⟨g, 1, none⟩ (.int .i64 n)).setCell ⟨g, 2, none⟩ (.string t)
theorem st3_self {w : World} {g : Nat} {k n : Int} {t : ByteArray} {x y z : Value} (h : Flds w g TV [x, y, z]) : Flds (st3 w g k n t) g TV [.int .i64 k, .int .i64 n, .string t] := ((h.set 0 _).set 1 _).set 2 _
/-- the region's world: only the result's block has turned -/
def SD (X : World) (g : Nat) (W : World) : Prop := Only (fun k => k = g) X W ∧ ∃ x y z, Flds W g TV [x, y, z]
theorem SD.step {X : World} {g : Nat} {W W' : World} (h : SD X g W) (hb : Below W.heap.size W W') : SD X g W' := by
  obtain ⟨h1, x, y, z, h2⟩ := h
  exact ⟨h1.trans (Only.of_below (own := fun _ => False) hb) (fun _ _ h => h.elim), x, y, z, h2.later hb⟩
theorem SD.st {X : World} {g : Nat} {W : World} {k n : Int} {t : ByteArray} (h : SD X g W) : SD X g (st3 W g k n t) := by
  obtain ⟨h1, x, y, z, h2⟩ := h
  exact ⟨((h1.setCell _ _ (fun _ => rfl)).setCell _ _ (fun _ => rfl)).setCell _ _ (fun _ => rfl), _, _, _, st3_self h2⟩
theorem SD.cells {X W : World} {g g4 : Nat} {k n : Int} {t : ByteArray} (h : SD X g W) (hf : Flds X g4 TV [.int .i64 k, .int .i64 n, .string t]) (hne : g4 ≠ g) : W.cell? ⟨g4, 0, none⟩ = some (.int .i64 k) ∧ W.cell? ⟨g4, 1, none⟩ = some (.int .i64 n) ∧ W.cell? ⟨g4, 2, none⟩ = some (.string t) :=
  ⟨cell_only (hf.cell 0) h.1 hne, cell_only (hf.cell 1) h.1 hne, cell_only (hf.cell 2) h.1 hne⟩
theorem Flds_tri {w : World} {g : Nat} {a b c : Value} (h : Flds w g TV [a, b, c]) : w.cell? ⟨g, 0, none⟩ = some a ∧ w.cell? ⟨g, 1, none⟩ = some b ∧ w.cell? ⟨g, 2, none⟩ = some c := ⟨h.cell 0, h.cell 1, h.cell 2⟩
set_option maxRecDepth 100000 in
set_option maxHeartbeats 2000000 in
theorem decode_no (s : ByteArray) (h : s.size = 0) (W : World) : Calls Try.prog 37 #[.string s] W (DecPost s W) := by
  have hs := shape_nil h
  have he := empty_of_size s h
  subst he
  have HS := Lib.hid hs
  clear hs
  go_enter Try.func37, Try.ntmps37
  go_wp2
  refine bodyPost_ret (v := .tuple #[ag3 0 0 nob, .bool false]) ?_ (by rfl) ⟨0, 0, nob, ?_, ?_, ?_⟩
  · simp only [results, Try.results37]; go_simp
  · rw [HS.out]
  · intro h; rw [HS.out] at h; cases h
  · (repeat' (first | assumption | exact Below.refl _ _ | apply Below.setCell | apply Below.alloc))
    all_goals (first | omega | (simp; omega) | (simp; done))
/-- what is known ahead of the last region -/
def DecCut (s : ByteArray) (W : World) (g2 g4 : Nat) (wx : World) : Prop :=
  ∃ k n t, Flds wx g2 TV [.int .i64 0, .int .i64 0, .string nob] ∧ Flds wx g4 TV [.int .i64 k, .int .i64 n, .string t] ∧ DecF s k n t ∧ Below W.heap.size W wx
set_option maxRecDepth 100000 in
set_option maxHeartbeats 4000000 in
theorem decode_yes (s : ByteArray) (hs : s.size ≤ 1099511627776) (b : UInt8) (r : List UInt8) (h : s.data.toList = b :: r) (W : World) : Calls Try.prog 37 #[.string s] W (DecPost s W) := by
  have hl : s.data.toList.length = s.size := by rw [← ByteArray.size_data]; simp
  have hz : 0 < s.size := by rw [← hl, h]; simp
  have hrl : s.size = r.length + 1 := by rw [← hl, h]; simp
  have hne := isEmpty_of_size s (by omega)
  rw [← ByteArray.toList_eq] at hne
  have hb0 : s[0] = b := by
    have h1 : s.data.toList[0]? = some b := by rw [h]; rfl
    have h2 : s.data.toList[0]? = some s[0] := by
      rw [List.getElem?_eq_getElem (by omega)]; rfl
    rw [h1] at h2
    exact (Option.some.inj h2).symm
  have hbl : (b.toNat : Int) < 256 := by have := b.toNat_lt; omega
  have hbg : (0 : Int) ≤ (b.toNat : Int) := by omega
  have H := Lib.hid h
  have HRL := Lib.hid hrl
  clear hl h hrl
  go_enter Try.func37, Try.ntmps37
  go_upto_block 0 with fail
  have hL := Lib.hid hs
  clear hs
  go_cut [5] from 6 to 36 (fun _ wx => Hid (DecCut s W W.heap.size (W.heap.size + 1) wx))
  case first =>
    have F2 := Lib.hid (fun (x y z : Value) => (Flds.new W TV [.int .i64 0, .int .i64 0, .string nob]).alloc (.cells #[x, y, z] TV))
    have F4 := Lib.hid (fun (x y z : Value) => by have h := Flds.new (W.alloc (.cells #[.int .i64 0, .int .i64 0, .string nob] TV)) TV [x, y, z]; rwa [World.size_alloc] at h)
    by_cases h1 : b.toNat = 1
    · have e1 : ((b.toNat : Int) == 1) = true := by simp [h1]
      have H1 := Lib.hid h1
      clear h1
      have hb1 : b = 1 := UInt8.toNat_inj.1 H1.out
      have HB := Lib.hid hb1
      clear hb1
      by_cases h2 : s.size = 2
      · have e2 : ((s.size : Int) == 2) = true := by simp [h2]
        have e3 : (1 : Int) < (s.size : Int) := by omega
        have hz1 : 1 < s.size := by omega
        have H2 := Lib.hid h2
        clear h2
        have hc : (s[1].toNat : Int) < 256 := by have := s[1].toNat_lt; omega
        have hc0 : (0 : Int) ≤ (s[1].toNat : Int) := by omega
        go_wp2_with fail
        go_meet
        refine Lib.hid ⟨_, _, _, F2.out _ _ _, F4.out _ _ _, ?_, below_alloc2 _ _ _⟩
        rw [H1.out]
        refine dec_1 ?_
        have hr : r.length = 1 := by have := HRL.out; have := H2.out; omega
        obtain ⟨c, rfl⟩ := List.length_eq_one_iff.1 hr
        have h3 : s.data.toList[1]? = some s[1] := by
          rw [List.getElem?_eq_getElem (by have : s.data.toList.length = s.size := by rw [← ByteArray.size_data]; simp
                                           omega)]; rfl
        rw [H.out] at h3 ⊢
        simp only [List.getElem?_cons_succ, List.getElem?_cons_zero, Option.some.injEq] at h3
        rw [← h3, HB.out]
      · have e2 : ((s.size : Int) == 2) = false := by simp; omega
        have H2 := Lib.hid h2
        clear h2
        go_wp2_with fail
        go_meet
        refine Lib.hid ⟨_, _, _, F2.out _ _ _, F4.out _ _ _, ?_, below_alloc2 _ _ _⟩
        rw [H1.out]
        exact dec_1n (by rw [H.out, HB.out]) (by have := HRL.out; have := H2.out; omega)
    · have e1 : ((b.toNat : Int) == 1) = false := by simp; omega
      have H1 := Lib.hid h1
      clear h1
      by_cases h2 : b.toNat = 2
      · have e2 : ((b.toNat : Int) == 2) = true := by simp [h2]
        have H2 := Lib.hid h2
        clear h2
        have hb2 : b = 2 := UInt8.toNat_inj.1 H2.out
        have HB := Lib.hid hb2
        clear hb2
        have he := Lib.hid (tail_data H.out).2
        by_cases h3 : r.length = 8
        · have hg := Lib.hid (fun w => getInt_yes (s.extract 1 s.size) (by rw [he.out]; exact h3) w)
          have H3 := Lib.hid h3
          clear h3
          go_wp2_with (go_at_call 50; (with_reducible refine (hg.out _).mono ?_); rintro e w1 ⟨rfl, rfl⟩)
          go_meet
          refine Lib.hid ⟨_, _, _, F2.out _ _ _, F4.out _ _ _, ?_, below_alloc2 _ _ _⟩
          rw [H2.out]
          exact dec_2 (by rw [H.out, HB.out]) H3.out
        · have hg := Lib.hid (fun w => getInt_no (s.extract 1 s.size) (by rw [he.out]; exact h3) w)
          have H3 := Lib.hid h3
          clear h3
          go_wp2_with (go_at_call 50; (with_reducible refine (hg.out _).mono ?_); rintro e w1 ⟨rfl, rfl⟩)
          go_meet
          refine Lib.hid ⟨_, _, _, F2.out _ _ _, F4.out _ _ _, ?_, below_alloc2 _ _ _⟩
          rw [H2.out]
          exact dec_2n (by rw [H.out, HB.out]) H3.out
      · have e2 : ((b.toNat : Int) == 2) = false := by simp; omega
        have H2 := Lib.hid h2
        clear h2
        by_cases h3 : b.toNat = 3
        · have e3 : ((b.toNat : Int) == 3) = true := by simp [h3]
          have H3 := Lib.hid h3
          clear h3
          go_wp2_with fail
          go_meet
          refine Lib.hid ⟨_, _, _, F2.out _ _ _, F4.out _ _ _, ?_, below_alloc2 _ _ _⟩
          rw [H3.out]
          have hb3 : b = 3 := UInt8.toNat_inj.1 H3.out
          exact dec_3 (by rw [H.out, hb3])
        · have e3 : ((b.toNat : Int) == 3) = false := by simp; omega
          have H3 := Lib.hid h3
          clear h3
          have HX : Hid (DecF s (b.toNat : Int) 0 nob) := Lib.hid (by
            by_cases h0 : b.toNat = 0
            · have hb0 : b = 0 := UInt8.toNat_inj.1 h0
              rw [h0]
              exact dec_0 (by rw [H.out, hb0])
            · exact dec_4 H.out h0 H1.out H2.out H3.out)
          go_wp2_with fail
          go_meet
          exact Lib.hid ⟨_, _, _, F2.out _ _ _, F4.out _ _ _, HX.out, below_alloc2 _ _ _⟩
  case rest =>
    have hne2 : W.heap.size + 1 ≠ W.heap.size := by omega
    generalize W.heap.size + 1 = g4 at *
    generalize hg2 : W.heap.size = g2 at *
    obtain ⟨k, n, t, hf2, hf4, hd, hb⟩ := hcut.out
    rw [hg2] at hb
    have hl4 := hf4.lt
    have hl2 := hf2.lt
    have HC := Lib.hid (fun W1 (hS : SD wc g2 W1) => hS.cells hf4 hne2)
    have HD := Lib.hid hd
    have HB := Lib.hid hb
    have HG := Lib.hid hg2
    have HS0 : SD wc g2 wc := ⟨Only.refl _ _, _, _, _, hf2⟩
    have HF := Lib.hid hf2
    clear hcut hf2 hf4 hd hb hg2 H HRL hb0 hz hne hbl hbg
    obtain ⟨p, hp⟩ : ∃ p, gB k n t = p := ⟨_, rfl⟩
    have HP := Lib.hid hp
    clear hp
    cases p
    · go_wp2_with fail
      refine ags.region_ag (SD wc g2) (fun _ _ _ _ => True)
        [.val (ag3 k n t), .val (ag3 k n t), .sat (fun v _ => v = .bool false) (fun _ w w' => Below w.heap.size w w'), .val (.bool false), .val undef, .val undef, .val undef, .val undef, .val (.bool false), .sat (fun _ w => Flds w g2 TV [.int .i64 k, .int .i64 n, .string t]) (fun _ w w' => w' = st3 w g2 k n t), .val (.bool false)]
        (by kernel_rfl) (by kernel_rfl) rfl (HS0.step ((Below.refl _ _).drew)) ?hstdf ?hkdf ?hwalkdf
      case hstdf =>
        simp only [ags.Stab, ags.Row2, ags.Ok2, and_true]
        repeat' apply And.intro
        all_goals first
          | exact fun h => absurd rfl h
          | exact fun _ _ f v W W' hS hv _ ht => hv
          | exact fun _ _ f v W W' hS hv _ ht => Flds.later hv ht
          | exact fun _ _ f v W W' hS hv hr ht => hv
          | trivial
      case hkdf =>
        simp only [ags.Keeps, and_true]
        exact ⟨fun f W1 W2 hS _ ht => hS.step ht, fun f W1 W2 hS _ ht => by rw [ht]; exact hS.st⟩
      case hwalkdf =>
        refine ags.walk_val (by rfl) (fun W1 hS hE => ?_) ?_
        rotate_left; simp only [Act.put, List.setIfInBounds_toArray, List.set_cons_zero, List.set_cons_succ]; rotate_left
        · have c3 := HC.out W1 hS
          obtain ⟨c0, c1, c2⟩ := c3
          clear hS hE
          refine ags.reg ?_
          go_simp
          try exact ⟨rfl, rfl⟩
        refine ags.walk_val (by rfl) (fun W1 hS hE => ?_) ?_
        rotate_left; simp only [Act.put, List.setIfInBounds_toArray, List.set_cons_zero, List.set_cons_succ]; rotate_left
        · have c3 := HC.out W1 hS
          obtain ⟨c0, c1, c2⟩ := c3
          clear hS hE
          refine ags.reg ?_
          go_simp
          try exact ⟨rfl, rfl⟩
        refine ags.walk_sat (by rfl) (fun W1 hS hE => ?_) (fun y1 => ?_)
        rotate_left; simp only [Act.put, List.setIfInBounds_toArray, List.set_cons_zero, List.set_cons_succ]; rotate_left
        · clear hS hE
          refine ags.reg ?_
          go_simp
          refine (good_any k n t _).mono ?_
          rintro e W2 ⟨rfl, hb⟩
          exact ⟨_, rfl, by rw [HP.out], hb, ags.News.none (fun _ _ => trivial) _ _⟩
        refine ags.walk_val (by rfl) (fun W1 hS hE => ?_) ?_
        rotate_left; simp only [Act.put, List.setIfInBounds_toArray, List.set_cons_zero, List.set_cons_succ]; rotate_left
        · have hy1 : y1 = .bool false := hE.get (by kernel_rfl)
          subst hy1
          clear hS hE
          refine ags.reg ?_
          go_simp
          try exact ⟨rfl, rfl⟩
        refine ags.walk_skip (by rfl) ?_
        simp only [Act.put, List.setIfInBounds_toArray, List.set_cons_zero, List.set_cons_succ]
        refine ags.walk_skip (by rfl) ?_
        simp only [Act.put, List.setIfInBounds_toArray, List.set_cons_zero, List.set_cons_succ]
        refine ags.walk_skip (by rfl) ?_
        simp only [Act.put, List.setIfInBounds_toArray, List.set_cons_zero, List.set_cons_succ]
        refine ags.walk_skip (by rfl) ?_
        simp only [Act.put, List.setIfInBounds_toArray, List.set_cons_zero, List.set_cons_succ]
        refine ags.walk_val (by rfl) (fun W1 hS hE => ?_) ?_
        rotate_left; simp only [Act.put, List.setIfInBounds_toArray, List.set_cons_zero, List.set_cons_succ]; rotate_left
        · clear hS hE
          refine ags.reg ?_
          go_simp
          try exact ⟨rfl, rfl⟩
        refine ags.walk_sat (by rfl) (fun W1 hS hE => ?_) (fun y2 => ?_)
        rotate_left; simp only [Act.put, List.setIfInBounds_toArray, List.set_cons_zero, List.set_cons_succ]; rotate_left
        · obtain ⟨ho, x, y, z, hf⟩ := hS
          obtain ⟨f0, f1, f2⟩ := Flds_tri hf
          have z0 := hf.frozen 0; have z1 := hf.frozen 1; have z2 := hf.frozen 2
          have lg := hf.lt
          have HF1 := Lib.hid hf
          clear ho hf hE
          refine ags.sto (.pointer (some ⟨g2, 0, none⟩)) rfl ?_
          go_simp
          exact ⟨st3_self HF1.out, rfl, ags.News.none (fun _ _ => trivial) _ _⟩
        refine ags.walk_val (by rfl) (fun W1 hS hE => ?_) ?_
        rotate_left; simp only [Act.put, List.setIfInBounds_toArray, List.set_cons_zero, List.set_cons_succ]; rotate_left
        · clear hS hE
          refine ags.reg ?_
          go_simp
          try exact ⟨rfl, rfl⟩
        refine ags.walk_nil (fun w7 hS hF' hP => ?_)
        have HN := Lib.hid hF'.1
        clear hF' hP
        have HS := Lib.hid hS
        clear hS
        go_wp2
        have hx := HS.out
        have hfin := HN.out
        obtain ⟨f0, f1, f2⟩ := Flds_tri hfin
        have HX := Lib.hid hx
        clear hx hfin
        refine bodyPost_ret (v := .tuple #[ag3 k n t, .bool false]) ?_ (by rfl) ⟨k, n, t, ?_, HD.out.1, ?_⟩
        · simp only [results, Try.results37]; go_simp
        · rw [HD.out.bad HP.out]
        · have hbb := HB.out.trans (HX.out.1.below (by rw [← HG.out]; exact HB.out.size) (fun k e => by rw [e]; omega))
          rw [← HG.out] at hbb
          exact hbb
    · have HQ := Lib.hid (HD.out.2 HP.out)
      have HE := Lib.hid (HD.out.cmp HP.out)
      go_wp2_with fail
      refine ags.region_ag (SD wc g2) (fun _ _ _ _ => True)
        [.val (ag3 k n t), .val (ag3 k n t), .sat (fun v _ => v = .bool true) (fun _ w w' => Below w.heap.size w w'), .val (.bool true), .val (ag3 k n t), .sat (fun v _ => v = .string (encS ⟨k, n, t⟩)) (fun _ w w' => Below w.heap.size w w'), .val (.string s), .val (.bool (shapeB s)), .val (.bool (shapeB s)), .sat (fun _ w => Flds w g2 TV [.int .i64 k, .int .i64 n, .string t]) (fun _ w w' => w' = st3 w g2 k n t), .val (.bool (shapeB s))]
        (by kernel_rfl) (by kernel_rfl) rfl (HS0.step ((Below.refl _ _).drew)) ?hstdt ?hkdt ?hwalkdt
      case hstdt =>
        simp only [ags.Stab, ags.Row2, ags.Ok2, and_true]
        repeat' apply And.intro
        all_goals first
          | exact fun h => absurd rfl h
          | exact fun _ _ f v W W' hS hv _ ht => hv
          | exact fun _ _ f v W W' hS hv _ ht => Flds.later hv ht
          | exact fun _ _ f v W W' hS hv hr ht => hv
          | trivial
      case hkdt =>
        simp only [ags.Keeps, and_true]
        exact ⟨fun f W1 W2 hS _ ht => hS.step ht, fun f W1 W2 hS _ ht => hS.step ht, fun f W1 W2 hS _ ht => by rw [ht]; exact hS.st⟩
      case hwalkdt =>
        refine ags.walk_val (by rfl) (fun W1 hS hE => ?_) ?_
        rotate_left; simp only [Act.put, List.setIfInBounds_toArray, List.set_cons_zero, List.set_cons_succ]; rotate_left
        · have c3 := HC.out W1 hS
          obtain ⟨c0, c1, c2⟩ := c3
          clear hS hE
          refine ags.reg ?_
          go_simp
          try exact ⟨rfl, rfl⟩
        refine ags.walk_val (by rfl) (fun W1 hS hE => ?_) ?_
        rotate_left; simp only [Act.put, List.setIfInBounds_toArray, List.set_cons_zero, List.set_cons_succ]; rotate_left
        · have c3 := HC.out W1 hS
          obtain ⟨c0, c1, c2⟩ := c3
          clear hS hE
          refine ags.reg ?_
          go_simp
          try exact ⟨rfl, rfl⟩
        refine ags.walk_sat (by rfl) (fun W1 hS hE => ?_) (fun y1 => ?_)
        rotate_left; simp only [Act.put, List.setIfInBounds_toArray, List.set_cons_zero, List.set_cons_succ]; rotate_left
        · clear hS hE
          refine ags.reg ?_
          go_simp
          refine (good_any k n t _).mono ?_
          rintro e W2 ⟨rfl, hb⟩
          exact ⟨_, rfl, by rw [HP.out], hb, ags.News.none (fun _ _ => trivial) _ _⟩
        refine ags.walk_val (by rfl) (fun W1 hS hE => ?_) ?_
        rotate_left; simp only [Act.put, List.setIfInBounds_toArray, List.set_cons_zero, List.set_cons_succ]; rotate_left
        · have hy1 : y1 = .bool true := hE.get (by kernel_rfl)
          subst hy1
          clear hS hE
          refine ags.reg ?_
          go_simp
          try exact ⟨rfl, rfl⟩
        refine ags.walk_val (by rfl) (fun W1 hS hE => ?_) ?_
        rotate_left; simp only [Act.put, List.setIfInBounds_toArray, List.set_cons_zero, List.set_cons_succ]; rotate_left
        · have c3 := HC.out W1 hS
          obtain ⟨c0, c1, c2⟩ := c3
          clear hS hE
          refine ags.reg ?_
          go_simp
          try exact ⟨rfl, rfl⟩
        refine ags.walk_sat (by rfl) (fun W1 hS hE => ?_) (fun y2 => ?_)
        rotate_left; simp only [Act.put, List.setIfInBounds_toArray, List.set_cons_zero, List.set_cons_succ]; rotate_left
        · clear hS hE
          refine ags.reg ?_
          go_simp
          refine (encode_any k n t HQ.out _).mono ?_
          rintro e W2 ⟨rfl, hb⟩
          exact ⟨_, rfl, rfl, hb, ags.News.none (fun _ _ => trivial) _ _⟩
        refine ags.walk_val (by rfl) (fun W1 hS hE => ?_) ?_
        rotate_left; simp only [Act.put, List.setIfInBounds_toArray, List.set_cons_zero, List.set_cons_succ]; rotate_left
        · clear hS hE
          refine ags.reg ?_
          go_simp
          try exact ⟨rfl, rfl⟩
        refine ags.walk_val (by rfl) (fun W1 hS hE => ?_) ?_
        rotate_left; simp only [Act.put, List.setIfInBounds_toArray, List.set_cons_zero, List.set_cons_succ]; rotate_left
        · have hy2 : y2 = .string (encS ⟨k, n, t⟩) := hE.get (by kernel_rfl)
          subst hy2
          clear hS hE
          refine ags.reg ?_
          go_simp
          first | exact ⟨congrArg Value.bool HE.out, rfl⟩ | exact HE.out | exact congrArg Value.bool HE.out
        refine ags.walk_val (by rfl) (fun W1 hS hE => ?_) ?_
        rotate_left; simp only [Act.put, List.setIfInBounds_toArray, List.set_cons_zero, List.set_cons_succ]; rotate_left
        · clear hS hE
          refine ags.reg ?_
          go_simp
          try exact ⟨rfl, rfl⟩
        refine ags.walk_sat (by rfl) (fun W1 hS hE => ?_) (fun y3 => ?_)
        rotate_left; simp only [Act.put, List.setIfInBounds_toArray, List.set_cons_zero, List.set_cons_succ]; rotate_left
        · obtain ⟨ho, x, y, z, hf⟩ := hS
          obtain ⟨f0, f1, f2⟩ := Flds_tri hf
          have z0 := hf.frozen 0; have z1 := hf.frozen 1; have z2 := hf.frozen 2
          have lg := hf.lt
          have HF1 := Lib.hid hf
          clear ho hf hE
          refine ags.sto (.pointer (some ⟨g2, 0, none⟩)) rfl ?_
          go_simp
          exact ⟨st3_self HF1.out, rfl, ags.News.none (fun _ _ => trivial) _ _⟩
        refine ags.walk_val (by rfl) (fun W1 hS hE => ?_) ?_
        rotate_left; simp only [Act.put, List.setIfInBounds_toArray, List.set_cons_zero, List.set_cons_succ]; rotate_left
        · clear hS hE
          refine ags.reg ?_
          go_simp
          try exact ⟨rfl, rfl⟩
        refine ags.walk_nil (fun w7 hS hF' hP => ?_)
        have HN := Lib.hid hF'.1
        clear hF' hP
        have HS := Lib.hid hS
        clear hS
        go_wp2
        have hx := HS.out
        have hfin := HN.out
        obtain ⟨f0, f1, f2⟩ := Flds_tri hfin
        have HX := Lib.hid hx
        clear hx hfin
        refine bodyPost_ret (v := .tuple #[ag3 k n t, .bool (shapeB s)]) ?_ (by rfl) ⟨k, n, t, ?_, HD.out.1, ?_⟩
        · simp only [results, Try.results37]; go_simp
        · rfl
        · have hbb := HB.out.trans (HX.out.1.below (by rw [← HG.out]; exact HB.out.size) (fun k e => by rw [e]; omega))
          rw [← HG.out] at hbb
          exact hbb
end Go.Proofs.Ytpkkhbmlclicfaa.val
/- The key of a row, walked. -/
namespace Go.Proofs.Ytpkkhbmlclicfaa.val
set_option linter.unusedVariables false
open Go.RowKit
theorem decode_any (s : ByteArray) (hs : s.size ≤ 1099511627776) (W : World) : Calls Try.prog 37 #[.string s] W (DecPost s W) := by
  cases h : s.data.toList with
  | nil => exact decode_no s (by rw [← ByteArray.size_data, ← Array.length_toList, h]; rfl) W
  | cons b r => exact decode_yes s hs b r h W
/-- the cells of a row -/
def vCells (l : List V) : List Value := l.flatMap fun v => [.int .i64 v.k, .int .i64 v.n, .string v.s]
theorem vCells_cons (v : V) (l : List V) : vCells (v :: l) = .int .i64 v.k :: .int .i64 v.n :: .string v.s :: vCells l := rfl
theorem vCells_snoc (l : List V) (v : V) : vCells (l ++ [v]) = vCells l ++ [.int .i64 v.k, .int .i64 v.n, .string v.s] := by simp [vCells]
theorem vCells_at : ∀ (l : List V) (j : Nat) (v : V), l[j]? = some v → (vCells l)[j * 3]? = some (.int .i64 v.k) ∧ (vCells l)[j * 3 + 1]? = some (.int .i64 v.n) ∧ (vCells l)[j * 3 + 2]? = some (.string v.s)
  | [], j, v, h => by simp at h
  | u :: l, 0, v, h => by simp at h; subst h; exact ⟨rfl, rfl, rfl⟩
  | u :: l, j + 1, v, h => by
    have := vCells_at l j v (by simpa using h)
    rw [vCells_cons, show (j + 1) * 3 = j * 3 + 1 + 1 + 1 by omega]
    exact this
/-- a slice that reads as a row -/
abbrev IsRow (w : World) (v : Value) (l : List V) : Prop := Row w v 3 l.length (vCells l)
theorem take_map_snoc {α β : Type} (f : α → β) (l : List α) (k : Nat) (h : k < l.length) : (l.take (k + 1)).map f = (l.take k).map f ++ [f l[k]] := by
  rw [List.take_succ_eq_append_getElem h, List.map_append]; rfl
theorem below_grown {w w' : World} (h : w.grownBy w' none) : Below w.heap.size w w' := ⟨h.os, h.tape, h.output, h.size, fun k hk => h.block k hk (by simp)⟩
set_option maxRecDepth 100000 in
set_option maxHeartbeats 2000000 in
theorem key_any (v : Value) (l : List V) (hg : ∀ x ∈ l, Good x) (hm : l.length ≤ 1000000) (w : World) (hv : IsRow w v l) :
    Calls Try.prog 30 #[v] w fun e w' => e = .returned (.string ⟨(keyB l).toArray⟩) ∧ Below w.heap.size w w' := by
  obtain ⟨i0, hi, hz0, hz1, hz2⟩ := info_parts infoStr
  have HV := Lib.hid hv
  have HG := Lib.hid hg
  obtain ⟨a, cap, rfl, -⟩ := hv
  have hn0 : (0 : Int) ≤ (l.length : Int) := by omega
  have hn1 : (l.length : Int) ≤ 1000000 := by omega
  clear hg
  go_enter Try.func30, Try.ntmps30
  go_wp2_with (at_make; refine wpList_make_own _ rfl _ _ 46 rfl w.heap.size 9 i0 (.string ⟨#[]⟩) 1 Try.underlying46 hi hz0 hz1 .i64 .i64 _ l.length rfl rfl rfl (by rw [hz2]; omega) (by unfold maxLen; omega) (Nat.le_refl _) ?_; intro w0 hown0 hgrow0)
  have hB0 := below_grown hgrow0
  go_loopw [3, 11] (fun sv i wr => ∃ k : Nat, i = .int .i64 (k : Int) ∧ k ≤ l.length ∧ Hid (wr.ownsRow w.heap.size 9 1 sv k (((l.take k).map encS).map Value.string)) ∧ Hid (Below w.heap.size w wr)) (fun _ i _ => l.length - (intOf i).toNat)
  case atStart => exact ⟨0, rfl, by omega, Lib.hid hown0, Lib.hid hB0⟩
  case round =>
    obtain ⟨k, rfl, hk, HO, HB⟩ := hrel
    have hd0 : (0 : Int) ≤ (k : Int) := by omega
    by_cases h1 : k < l.length
    · have d1 : (k : Int) < (l.length : Int) := by omega
      obtain ⟨b, off, cap', ea, hcell⟩ := (HV.out.later HB.out).pos (by omega)
      simp only [Value.slice.injEq] at ea
      obtain ⟨rfl, -, rfl⟩ := ea
      obtain ⟨c0, c1, c2⟩ := vCells_at l k _ (List.getElem?_eq_getElem h1)
      have g0 := (hcell (k * 3) (by omega)).trans c0
      have g1 := (hcell (k * 3 + 1) (by omega)).trans c1
      have g2 := (hcell (k * 3 + 2) (by omega)).trans c2
      rw [← Nat.add_assoc] at g1 g2
      have HGk := Lib.hid (HG.out _ (List.getElem_mem h1))
      have HT := Lib.hid (take_map_snoc encS l k h1)
      generalize l[k] = x at *
      obtain ⟨xk, xn, xs⟩ := x
      dsimp only at g0 g1 g2
      clear hcell c0 c1 c2
      go_wp2_with (first | (go_at_call 44; (with_reducible refine (encode_any _ _ _ HGk.out _).mono ?_); rintro e w1 ⟨rfl, hb1⟩; have hown1 := owns_below (HO.out.alloc _) hb1) | (at_builtin; refine wpList_append_own _ rfl _ _ 46 rfl w.heap.size 9 i0 (.string ⟨#[]⟩) 1 16 Try.underlying46 hi hz0 hz1 hz2 rfl (by decide) _ _ _ rfl (hown1.alloc _) ⟨w1.heap.size, 0, none⟩ 1 1 [.string (encS ⟨xk, xn, xs⟩)] rfl rfl (cell_one_new _ _ _) ?c2 ?c3 ?c4 ?c5 ?_))
      case c2 => intro u hu; simp at hu; subst hu; rfl
      case c3 => unfold maxLen; omega
      case c4 => omega
      case c5 => have := hb1.size; have := HB.out.size; simp at *; omega
      intro v' w2 hown' hgrow _
      have hB2 : Below w.heap.size w w2 := (((HB.out.alloc (by have := HB.out.size; omega) _).trans (hb1.mono (by have := HB.out.size; simp only [World.size_alloc]; omega))).alloc (by have := hb1.size; have := HB.out.size; simp only [World.size_alloc] at *; omega) _).grown hgrow (by have := hb1.size; have := HB.out.size; simp only [World.size_alloc] at *; omega) (fun k hk => (hown1.lt k hk).1)
      have HO2 := Lib.hid hown'
      have HB2 := Lib.hid hB2
      clear hown1 hown' hgrow hb1 hB2
      go_wp2
      go_roundw
      case rel => exact ⟨k + 1, by go_num, by omega, Lib.hid (by rw [HT.out, List.map_append]; simpa using HO2.out), HB2⟩
      case measure => simp [intOf]; omega
    · have d1 : ¬ (k : Int) < (l.length : Int) := by omega
      have hk2 : k = l.length := by omega
      subst hk2
      have HR : Hid (Row wr _ 1 (l.map encS).length ((l.map encS).map Value.string)) := Lib.hid (by have h := Row.of_owns HO.out; rw [List.take_length] at h; rwa [List.length_map])
      have HL := Lib.hid (keyB_len l HG.out)
      go_wp2_with (go_at_call 31; (with_reducible refine (pack_any _ (l.map encS) _ (by rw [List.length_map]; omega) HR.out (by have := HL.out; unfold keyB at this; omega)).mono ?_); rintro e w1 ⟨rfl, hb1⟩)
      go_ret
      exact ⟨rfl, HB.out.trans (hb1.mono HB.out.size)⟩
end Go.Proofs.Ytpkkhbmlclicfaa.val
/- The row of a key, walked. -/
namespace Go.Proofs.Ytpkkhbmlclicfaa.val
set_option linter.unusedVariables false
open Go.RowKit
theorem split_len : ∀ (f : Nat) (s : ByteArray), s.size ≤ f → (splitS s).1.length ≤ s.size ∧ ∀ x ∈ (splitS s).1, x.size ≤ s.size := by
  intro f
  induction f with
  | zero =>
    intro s hs
    rw [splitS_stop s (.inl (by omega))]
    exact ⟨by simp, by simp⟩
  | succ f ih =>
    intro s hs
    by_cases hc : s.size < 4 ∨ s.size < 4 + cutN s
    · rw [splitS_stop s hc]
      exact ⟨by simp, by simp⟩
    · have hz : (s.extract (4 + cutN s) s.size).size = s.size - (4 + cutN s) := by rw [ByteArray.size_extract]; omega
      have hz1 : (s.extract 4 (4 + cutN s)).size = cutN s := by rw [ByteArray.size_extract]; omega
      rw [splitS_step s (by omega) (by omega)]
      obtain ⟨h1, h2⟩ := ih (s.extract (4 + cutN s) s.size) (by rw [hz]; omega)
      refine ⟨by simp only [List.length_cons]; omega, fun x hx => ?_⟩
      rcases List.mem_cons.1 hx with rfl | hx
      · omega
      · have := h2 x hx; omega
theorem infoV : (Try.prog.info? 57).map (fun i => (i.zero, i.size, i.bytes)) = some (some (ag3 0 0 ⟨#[]⟩), 3, 32) := by kernel_rfl
theorem cells_new_add (w : World) (vs : List Value) (T : TypeId) : ∀ j u, vs[j]? = some u → (w.alloc (.cells vs.toArray T)).cell? ((⟨w.heap.size, 0, none⟩ : Addr).add j) = some u := by
  intro j u h
  have e : (⟨w.heap.size, 0, none⟩ : Addr).add j = ⟨w.heap.size, j, none⟩ := by unfold Addr.add; split <;> simp_all
  rw [e, cells_new, h]
theorem decode_ok (s : ByteArray) (hs : s.size ≤ 1099511627776) (h : shapeB s = true) (W : World) : Calls Try.prog 37 #[.string s] W fun e w' => ∃ k n t, e = .returned (.tuple #[ag3 k n t, .bool true]) ∧ Hid (Good ⟨k, n, t⟩ ∧ encS ⟨k, n, t⟩ = s) ∧ Below W.heap.size W w' := by
  refine (decode_any s hs W).mono ?_
  rintro e w' ⟨k, n, t, he, h1, hb⟩
  obtain ⟨h2, h3⟩ := h1 h
  exact ⟨k, n, t, by rw [he, h], Lib.hid ⟨h2, bytes_data (by simpa [encS] using h3)⟩, hb⟩
theorem decode_bad (s : ByteArray) (hs : s.size ≤ 1099511627776) (h : shapeB s = false) (W : World) : Calls Try.prog 37 #[.string s] W fun e w' => ∃ k n t, e = .returned (.tuple #[ag3 k n t, .bool false]) ∧ Below W.heap.size W w' := by
  refine (decode_any s hs W).mono ?_
  rintro e w' ⟨k, n, t, he, h1, hb⟩
  exact ⟨k, n, t, by rw [he, h], hb⟩
/-- what has been read of some texts -/
def GI (ss : List ByteArray) (k : Nat) (l : List V) : Prop := (∀ x ∈ l, Good x) ∧ l.map encS = ss.take k
/-- what Get tells -/
def GetPost (s : ByteArray) (W : World) (e : Ending) (w' : World) : Prop :=
  (if (splitS s).2 = false then e = .returned (.tuple #[.slice none 0 0, .int .i64 2])
   else if (splitS s).1.all shapeB = false then e = .returned (.tuple #[.slice none 0 0, .int .i64 4])
   else ∃ v l, e = .returned (.tuple #[v, .int .i64 0]) ∧ w'.ownsRow W.heap.size TV 3 v l.length (vCells l) ∧ (∀ x ∈ l, Good x) ∧ l.map encS = (splitS s).1) ∧ Below W.heap.size W w'
set_option maxRecDepth 100000 in
set_option maxHeartbeats 2000000 in
theorem get_any (s : ByteArray) (hs : s.size ≤ 1099511627776) (w : World) : Calls Try.prog 19 #[.string s] w (GetPost s w) := by
  obtain ⟨i0, hi, hz0, hz1, hz2⟩ := info_parts infoV
  obtain ⟨hsl, hsm⟩ := split_len _ s (Nat.le_refl _)
  obtain ⟨ss, hss⟩ : ∃ ss, (splitS s).1 = ss := ⟨_, rfl⟩
  obtain ⟨wh, hwh⟩ : ∃ wh, (splitS s).2 = wh := ⟨_, rfl⟩
  have HSS := Lib.hid hss; have HWH := Lib.hid hwh
  rw [hss] at hsl hsm
  have HSM := Lib.hid hsm
  have hl40 : ss.length ≤ 1099511627776 := by omega
  clear hss hwh hsl hsm
  have hsp : Calls Try.prog 28 #[.string s] w fun e w' => ∃ v, e = .returned (.tuple #[v, .int .i64 (if wh then 0 else 2)]) ∧ (if wh then w'.ownsRow w.heap.size 9 1 v ss.length (ss.map Value.string) else v = .slice none 0 0) ∧ Below w.heap.size w w' := by
    refine (split_any s w hs).mono ?_
    rintro e w' ⟨v, h1, h2, h3⟩
    rw [HWH.out, HSS.out] at *
    exact ⟨v, h1, h2, h3⟩
  have HSP := Lib.hid hsp
  clear hsp
  cases wh with
  | false =>
    go_enter Try.func19, Try.ntmps19
    go_wp2_with (go_at_call 28; (with_reducible refine (HSP.out).mono ?_); rintro e w1 ⟨v, rfl, hv, hb1⟩; simp only [Bool.false_eq_true, if_false] at hv; subst hv; have HB1 := Lib.hid hb1; clear hb1)
    go_ret2
    exact ⟨by rw [if_pos HWH.out]; rfl, HB1.out⟩
  | true =>
    go_enter Try.func19, Try.ntmps19
    go_wp2_with (first | (go_at_call 28; (with_reducible refine (HSP.out).mono ?_); rintro e w1 ⟨v, rfl, hv, hb1⟩; simp only [if_true] at hv; have HV := Lib.hid (Row.of_owns hv); obtain ⟨av, cv, rfl⟩ := owns_shape hv; have HB1 := Lib.hid hb1; clear hv hb1) | (at_make; refine wpList_make_own _ rfl _ _ 49 rfl w1.heap.size TV i0 (ag3 0 0 ⟨#[]⟩) 3 Try.underlying49 hi hz0 hz1 .i64 .i64 _ ss.length rfl rfl rfl (by rw [hz2]; omega) (by unfold maxLen; omega) (Nat.le_refl _) ?_; intro w2 hown2 hgrow2))
    have hB2 := below_grown hgrow2
    go_loopw [6, 24] (fun rv i wr => ∃ (k : Nat) (l : List V), i = .int .i64 (k : Int) ∧ k ≤ ss.length ∧ Hid (wr.ownsRow w1.heap.size TV 3 rv k (vCells l)) ∧ Hid (GI ss k l) ∧ Hid (Below w1.heap.size w1 wr)) (fun _ i _ => ss.length - (intOf i).toNat)
    case atStart => exact ⟨0, [], rfl, by omega, Lib.hid hown2, Lib.hid ⟨by simp, rfl⟩, Lib.hid hB2⟩
    case round =>
      obtain ⟨k, l, rfl, hk, HO, HI, HB⟩ := hrel
      clear hown2 hgrow2 hB2
      have hd0 : (0 : Int) ≤ (k : Int) := by omega
      by_cases h1 : k < ss.length
      · have d1 : (k : Int) < (ss.length : Int) := by omega
        obtain ⟨b, off, cap', ea, hcell⟩ := (HV.out.later HB.out).pos (by omega)
        simp only [Value.slice.injEq] at ea
        obtain ⟨rfl, -, rfl⟩ := ea
        have g0 : wr.cell? ⟨b, off + k, none⟩ = some (.string ss[k]) := by
          have := hcell k (by omega)
          rw [List.getElem?_map, List.getElem?_eq_getElem h1] at this
          exact this
        have hsz := HSM.out _ (List.getElem_mem h1)
        have HT := Lib.hid (List.take_succ_eq_append_getElem h1)
        have HMEM := Lib.hid (List.getElem_mem h1)
        generalize ss[k] = x at *
        have hx40 : x.size ≤ 1099511627776 := by omega
        clear hcell hsz
        by_cases hsh : shapeB x = true
        · have HD := Lib.hid (decode_ok x hx40 hsh)
          clear hsh
          go_wp2_with (first | (go_at_call 37; (with_reducible refine (HD.out _).mono ?_); rintro e w3 ⟨xk, xn, xs, rfl, HX, hb3⟩; have hown3 := owns_below HO.out hb3) | (at_builtin; refine wpList_append_own _ rfl _ _ 49 rfl w1.heap.size TV i0 (ag3 0 0 ⟨#[]⟩) 3 32 Try.underlying49 hi hz0 hz1 hz2 rfl (by decide) _ _ _ rfl ((hown3.alloc _).alloc _) ⟨w3.heap.size + 1, 0, none⟩ 1 1 [.int .i64 xk, .int .i64 xn, .string xs] rfl rfl ?c1 ?c2 ?c3 ?c4 ?c5 ?_))
          case c1 =>
            intro j u hu
            have := cells_new_add (w3.alloc (.cells #[.int .i64 xk, .int .i64 xn, .string xs] TV)) [.int .i64 xk, .int .i64 xn, .string xs] TV j u hu
            rwa [World.size_alloc] at this
          case c2 => intro u hu; simp at hu; rcases hu with rfl | rfl | rfl <;> rfl
          case c3 => unfold maxLen; omega
          case c4 => omega
          case c5 => have := hb3.size; have := HB.out.size; simp only [World.size_alloc]; omega
          intro v' w5 hown' hgrow _
          have hB5 : Below w1.heap.size w1 w5 := (((HB.out.trans (hb3.mono HB.out.size)).alloc (by have := hb3.size; have := HB.out.size; omega) _).alloc (by have := hb3.size; have := HB.out.size; simp only [World.size_alloc]; omega) _).grown hgrow (by have := hb3.size; have := HB.out.size; simp only [World.size_alloc]; omega) (fun k hk => (hown3.lt k hk).1)
          have HO2 := Lib.hid hown'
          have HB5 := Lib.hid hB5
          clear hown3 hown' hgrow hb3 hB5
          go_wp2
          go_roundw
          case rel => exact ⟨k + 1, l ++ [⟨xk, xn, xs⟩], by go_num, by omega, Lib.hid (by rw [vCells_snoc]; exact HO2.out), Lib.hid ⟨fun y hy => by rcases List.mem_append.1 hy with hy | hy; exact HI.out.1 y hy; rw [List.mem_singleton.1 hy]; exact HX.out.1, by rw [List.map_append, HI.out.2, HT.out, List.map_singleton, HX.out.2]⟩, HB5⟩
          case measure => simp [intOf]; omega
        · have hsh' : shapeB x = false := by simpa using hsh
          have HD := Lib.hid (decode_bad x hx40 hsh')
          have HSH := Lib.hid hsh'
          clear hsh hsh'
          go_wp2_with (go_at_call 37; (with_reducible refine (HD.out _).mono ?_); rintro e w3 ⟨xk, xn, xs, rfl, hb3⟩; have HB3 := Lib.hid hb3; clear hb3)
          go_ret2
          refine ⟨?_, ?_⟩
          · rw [if_neg (by rw [HWH.out]; simp), if_pos (by rw [HSS.out, List.all_eq_false]; exact ⟨x, HMEM.out, by rw [HSH.out]; simp⟩)]; rfl
          · exact (HB1.out.trans ((HB.out.trans (HB3.out.mono HB.out.size)).mono HB1.out.size)).alloc (by have := HB1.out.size; have := HB.out.size; have := HB3.out.size; omega) _
      · have d1 : ¬ (k : Int) < (ss.length : Int) := by omega
        have hk2 : k = ss.length := by omega
        subst hk2
        go_wp2_with fail
        go_ret2
        refine ⟨?_, HB1.out.trans (HB.out.mono HB1.out.size)⟩
        obtain ⟨q1, q2⟩ := HI.out
        rw [List.take_length] at q2
        have ql : l.length = ss.length := by rw [← q2, List.length_map]
        have hall : ss.all shapeB = true := by
          rw [List.all_eq_true]
          intro x hx
          rw [← q2] at hx
          obtain ⟨v, hv, rfl⟩ := List.mem_map.1 hx
          exact enc_shape (q1 v hv)
        rw [if_neg (by rw [HWH.out]; simp), if_neg (by rw [HSS.out, hall]; simp)]
        have ho := HO.out
        rw [← ql] at ho
        exact ⟨_, l, rfl, owns_base ho (fun g hg => by have := (ho.lt g hg).1; have := HB1.out.size; omega), q1, by rw [HSS.out]; exact q2⟩
end Go.Proofs.Ytpkkhbmlclicfaa.val
