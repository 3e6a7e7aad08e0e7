/- What a text says as a value's bytes: plain mathematics. -/
import Derived.Test.YtpkkhbmlclicfaaDoorRowP
import Derived.Test.YtpkkhbmlclicfaaDoorValueJ
namespace Go.Proofs.YtpkkhbmlclicfaaDoor.val
set_option linter.unusedVariables false

theorem gB_good {k n : Int} {s : ByteArray} (h : Good ⟨k, n, s⟩) : gB k n s = true := by
  unfold Good at h
  dsimp only at h
  have e : ByteArray.empty.toList = [] := by rw [ByteArray.toList_eq]; rfl
  rcases h with ⟨rfl, rfl, rfl⟩ | ⟨rfl, h1, rfl⟩ | ⟨rfl, rfl, h1⟩ | ⟨rfl, rfl, h1⟩
  · simp [gB, e]
  · rcases h1 with rfl | rfl <;> simp [gB, e]
  · simp [gB, e]
  · simp [gB]; omega

/-- what is read of a text -/
def DecF (s : ByteArray) (k n : Int) (t : ByteArray) : Prop := (shapeB s = true → Good ⟨k, n, t⟩ ∧ encB ⟨k, n, t⟩ = s.data.toList) ∧ (gB k n t = true → Good ⟨k, n, t⟩)
theorem DecF.cmp {s : ByteArray} {k n : Int} {t : ByteArray} (h : DecF s k n t) (hb : gB k n t = true) : ((encS ⟨k, n, t⟩).toList == s.toList) = shapeB s := by
  have hg := h.2 hb
  rw [ByteArray.toList_eq, ByteArray.toList_eq]
  have e1 : (encS ⟨k, n, t⟩).data.toList = encB ⟨k, n, t⟩ := by simp [encS]
  rw [e1]
  cases hs : shapeB s with
  | true => rw [(h.1 hs).2]; simp
  | false =>
    rw [beq_eq_false_iff_ne]
    intro e
    have : encS ⟨k, n, t⟩ = s := bytes_data (by rw [e1]; exact e)
    rw [← this, enc_shape hg] at hs
    cases hs
theorem DecF.bad {s : ByteArray} {k n : Int} {t : ByteArray} (h : DecF s k n t) (hb : gB k n t = false) : shapeB s = false := by
  cases hs : shapeB s with
  | false => rfl
  | true => rw [gB_good (h.1 hs).1] at hb; cases hb
theorem nob_empty : (⟨#[]⟩ : ByteArray) = ByteArray.empty := rfl
theorem dec_0 {s : ByteArray} {r : List UInt8} (h : s.data.toList = 0 :: r) : DecF s 0 0 nob := by
  have hg : Good ⟨0, 0, nob⟩ := .inl ⟨rfl, rfl, rfl⟩
  refine ⟨fun hs => ⟨hg, ?_⟩, fun _ => hg⟩
  unfold shapeB at hs
  rw [h] at hs ⊢
  simp at hs
  rw [hs]; rfl
theorem dec_1 {s : ByteArray} {c : UInt8} (h : s.data.toList = [1, c]) : DecF s 1 (c.toNat : Int) nob := by
  refine ⟨fun hs => ?_, fun hg => ?_⟩
  · unfold shapeB at hs
    rw [h] at hs ⊢
    simp at hs
    refine ⟨.inr (.inl ⟨rfl, by dsimp only; omega, rfl⟩), ?_⟩
    rw [enc_1]; simp
  · unfold gB at hg
    simp at hg
    refine .inr (.inl ⟨rfl, by dsimp only; omega, rfl⟩)
theorem dec_1n {s : ByteArray} {r : List UInt8} (h : s.data.toList = 1 :: r) (hr : r.length ≠ 1) : DecF s 1 0 nob := by
  have hg : Good ⟨1, 0, nob⟩ := .inr (.inl ⟨rfl, .inl rfl, rfl⟩)
  refine ⟨fun hs => ?_, fun _ => hg⟩
  unfold shapeB at hs
  rw [h] at hs
  exfalso
  match r, hs, hr with
  | [], hs, _ => simp at hs
  | [_], _, hr => exact hr rfl
  | _ :: _ :: _, hs, _ => simp at hs
theorem getIv_rng (s : ByteArray) (h : s.size = 8) : -9223372036854775808 ≤ getIv s ∧ getIv s ≤ 9223372036854775807 ∧ intB (getIv s) = s.data.toList := by
  have hl : s.data.toList.length = s.size := by rw [← ByteArray.size_data]; simp
  have h1 := beVal_lt s.data.toList
  rw [hl, h] at h1
  have h2 : (256 : Nat) ^ 8 = 18446744073709551616 := by decide
  rw [h2] at h1
  unfold getIv
  refine ⟨by omega, by omega, ?_⟩
  unfold intB
  rw [show ((beVal s.data.toList : Int) - 9223372036854775808 + 9223372036854775808).toNat = beVal s.data.toList by omega]
  have := beD_beVal s.data.toList
  rwa [hl, h] at this
theorem tail_data {s : ByteArray} {b : UInt8} {r : List UInt8} (h : s.data.toList = b :: r) : (s.extract 1 s.size).data.toList = r ∧ (s.extract 1 s.size).size = r.length := by
  have e : (s.extract 1 s.size).data.toList = r := by rw [Lib.extract_to_end, h]; rfl
  refine ⟨e, ?_⟩
  rw [← e, ← ByteArray.size_data]; simp
theorem dec_2 {s : ByteArray} {r : List UInt8} (h : s.data.toList = 2 :: r) (hr : r.length = 8) : DecF s 2 (getIv (s.extract 1 s.size)) nob := by
  obtain ⟨e1, e2⟩ := tail_data h
  obtain ⟨h1, h2, h3⟩ := getIv_rng _ (e2.trans hr)
  have hg : Good ⟨2, getIv (s.extract 1 s.size), nob⟩ := .inr (.inr (.inl ⟨rfl, rfl, h1, h2⟩))
  exact ⟨fun _ => ⟨hg, by rw [enc_2, h3, e1, h]⟩, fun _ => hg⟩
theorem dec_2n {s : ByteArray} {r : List UInt8} (h : s.data.toList = 2 :: r) (hr : r.length ≠ 8) : DecF s 2 0 nob := by
  have hg : Good ⟨2, 0, nob⟩ := .inr (.inr (.inl ⟨rfl, rfl, by decide, by decide⟩))
  refine ⟨fun hs => ?_, fun _ => hg⟩
  unfold shapeB at hs
  rw [h] at hs
  simp at hs
  exact absurd hs hr
theorem dec_3 {s : ByteArray} {r : List UInt8} (h : s.data.toList = 3 :: r) : DecF s 3 0 (s.extract 1 s.size) := by
  obtain ⟨e1, e2⟩ := tail_data h
  refine ⟨fun hs => ?_, fun hg => ?_⟩
  · unfold shapeB at hs
    rw [h] at hs
    simp at hs
    exact ⟨.inr (.inr (.inr ⟨rfl, rfl, by show (s.extract 1 s.size).size ≤ 64; omega⟩)), by rw [enc_3, e1, h]⟩
  · unfold gB at hg
    simp only [show (3 : Int) = 0 ↔ False by decide, show (3 : Int) = 1 ↔ False by decide, show (3 : Int) = 2 ↔ False by decide, if_false, if_true, beq_self_eq_true, Bool.true_and, decide_eq_true_eq] at hg
    exact .inr (.inr (.inr ⟨rfl, rfl, by show (s.extract 1 s.size).size ≤ 64; omega⟩))
theorem dec_4 {s : ByteArray} {b : UInt8} {r : List UInt8} (h : s.data.toList = b :: r) (h0 : b.toNat ≠ 0) (h1 : b.toNat ≠ 1) (h2 : b.toNat ≠ 2) (h3 : b.toNat ≠ 3) : DecF s (b.toNat : Int) 0 nob := by
  have e : ∀ c : UInt8, b.toNat ≠ c.toNat → ¬ b = c := fun c hc hb => hc (by rw [hb])
  refine ⟨fun hs => ?_, fun hg => ?_⟩
  · unfold shapeB at hs
    rw [h] at hs
    simp only [if_neg (e 0 h0), if_neg (e 1 h1), if_neg (e 2 h2), if_neg (e 3 h3)] at hs
    cases hs
  · unfold gB at hg
    rw [if_neg (by omega), if_neg (by omega), if_neg (by omega), if_neg (by omega)] at hg
    cases hg
theorem shape_nil {s : ByteArray} (h : s.size = 0) : shapeB s = false := by
  have hl : s.data.toList.length = s.size := by rw [← ByteArray.size_data]; simp
  unfold shapeB
  rw [List.eq_nil_of_length_eq_zero (by omega : s.data.toList.length = 0)]
end Go.Proofs.YtpkkhbmlclicfaaDoor.val
