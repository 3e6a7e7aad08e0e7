/- The first token of a text, walked. -/
import Derived.Test.YtkgfmjejcpjfiaaDoorLexD
namespace Go.Proofs.YtkgfmjejcpjfiaaDoor.lx
set_option linter.unusedVariables false
open Go.RowKit

abbrev gS : Nat := 0
/-- the table of signs, as it lies -/
def Signs (W : World) : Prop := ∀ (j : Nat) (x : List UInt8), signsL[j]? = some x → W.cell? ⟨gS, j, none⟩ = some (.string ⟨x.toArray⟩)
theorem Signs.later {W W' : World} (h : Signs W) (hb : Below W.heap.size W W') : Signs W' := fun j x hj => cell_later hb (h j x hj)
theorem Signs.all {W : World} (h : Signs W) : W.cell? ⟨gS, 0, none⟩ = some (.string ⟨#[60, 62]⟩) ∧ W.cell? ⟨gS, 1, none⟩ = some (.string ⟨#[60, 61]⟩) ∧ W.cell? ⟨gS, 2, none⟩ = some (.string ⟨#[62, 61]⟩) ∧ W.cell? ⟨gS, 3, none⟩ = some (.string ⟨#[124, 124]⟩) ∧ W.cell? ⟨gS, 4, none⟩ = some (.string ⟨#[40]⟩) ∧ W.cell? ⟨gS, 5, none⟩ = some (.string ⟨#[41]⟩) ∧ W.cell? ⟨gS, 6, none⟩ = some (.string ⟨#[44]⟩) ∧ W.cell? ⟨gS, 7, none⟩ = some (.string ⟨#[46]⟩) ∧ W.cell? ⟨gS, 8, none⟩ = some (.string ⟨#[42]⟩) ∧ W.cell? ⟨gS, 9, none⟩ = some (.string ⟨#[43]⟩) ∧ W.cell? ⟨gS, 10, none⟩ = some (.string ⟨#[45]⟩) ∧ W.cell? ⟨gS, 11, none⟩ = some (.string ⟨#[47]⟩) ∧ W.cell? ⟨gS, 12, none⟩ = some (.string ⟨#[37]⟩) ∧ W.cell? ⟨gS, 13, none⟩ = some (.string ⟨#[61]⟩) ∧ W.cell? ⟨gS, 14, none⟩ = some (.string ⟨#[60]⟩) ∧ W.cell? ⟨gS, 15, none⟩ = some (.string ⟨#[62]⟩) :=
  ⟨h 0 _ rfl, h 1 _ rfl, h 2 _ rfl, h 3 _ rfl, h 4 _ rfl, h 5 _ rfl, h 6 _ rfl, h 7 _ rfl, h 8 _ rfl, h 9 _ rfl, h 10 _ rfl, h 11 _ rfl, h 12 _ rfl, h 13 _ rfl, h 14 _ rfl, h 15 _ rfl⟩
theorem fst_shape (F : Fst) : ∃ (k : Int) (t : ByteArray) (n m e : Int), fstV F = .tuple #[tkV k t n 0, .int .i64 m, .int .i64 e] := by
  cases F with
  | bad e => exact ⟨_, _, _, _, _, rfl⟩
  | tok k s n m => exact ⟨_, _, _, _, _, rfl⟩
theorem run_take (p : UInt8 → Bool) (s : ByteArray) : (s.extract 0 (s.data.toList.takeWhile p).length).data.toList = s.data.toList.takeWhile p := by
  rw [ByteArray.data_extract, Array.toList_extract, List.extract_eq_take_drop]
  simp only [Nat.sub_zero, List.drop_zero]
  exact (List.prefix_iff_eq_take.1 (List.takeWhile_prefix p)).symm
theorem first_0 (s : ByteArray) (h0 : 0 < s.size) : ∃ r, s.data.toList = s[0] :: r := by
  have h : 0 < s.data.toList.length := by rw [data_len]; exact h0
  refine ⟨s.data.toList.drop 1, ?_⟩
  have h1 := List.drop_eq_getElem_cons h
  rw [List.drop_zero] at h1
  rw [← data_at s 0 h0 h]
  exact h1
theorem ext_size (s : ByteArray) (N : Nat) (h : N ≤ s.size) : (s.extract 0 N).size = N := by rw [ByteArray.size_extract]; omega

set_option maxRecDepth 100000 in
set_option maxHeartbeats 4000000 in
theorem first_name (s : ByteArray) (hs : s.size ≤ 1099511627776) (h0 : 0 < s.size) (hl : lowB s[0] = true) (W : World) : Calls Tryd.prog 11 #[.string s] W fun e w' => e = .returned (fstV (wordL 1 (s.data.toList.takeWhile nameB))) ∧ Below W.heap.size W w' := by
  have hs0 : (0 : Int) ≤ (s.size : Int) := by omega
  have hs1 : (0 : Int) < (s.size : Int) := by omega
  have hc : (s[0].toNat : Int) < 256 := by have := s[0].toNat_lt; omega
  have hc0 : (0 : Int) ≤ (s[0].toNat : Int) := by omega
  have HL := Lib.hid (fun W => lower_any s[0] W)
  rw [hl] at HL
  have HSP := Lib.hid (fun W => span_name s hs W)
  have hrl := run_le nameB s
  have hrt := run_take nameB s
  have hr0 : 0 < (s.data.toList.takeWhile nameB).length := by
    obtain ⟨r, hr⟩ := first_0 s h0
    rw [hr, List.takeWhile_cons, if_pos (low_name hl)]; simp
  have ha := all_of_takeWhile nameB s.data.toList
  have HR : ∀ W : World, Calls Tryd.prog 20 #[.int .i64 1, .string (s.extract 0 (s.data.toList.takeWhile nameB).length)] W fun e w' => e = .returned (fstV (wordL 1 ((s.extract 0 (s.data.toList.takeWhile nameB).length)).data.toList)) ∧ Below W.heap.size W w' := fun (W : World) => word_any 1 (by decide) (s.extract 0 (s.data.toList.takeWhile nameB).length) (by rw [ext_size _ _ hrl]; omega) (by rw [ext_size _ _ hrl]; exact hr0) W
  rw [hrt] at HR
  generalize hNN : (s.data.toList.takeWhile nameB).length = N at *
  have hN0 : (0 : Int) ≤ (N : Int) := by omega
  have hN1 : (N : Int) ≤ (s.size : Int) := by omega
  clear hrt ha hr0 hNN
  obtain ⟨k, t, n, m, er, hF⟩ := fst_shape (wordL 1 (s.data.toList.takeWhile nameB))
  rw [hF] at HR ⊢
  have HR := Lib.hid HR
  clear hF
  go_enter Tryd.func11, Tryd.ntmps11
  go_wp2_with (first | (go_at_call 17; (with_reducible refine (HL.out _).mono ?_); rintro e w1 ⟨rfl, rfl⟩) | (go_at_call 18; (with_reducible refine (HSP.out _).mono ?_); rintro e w1 ⟨rfl, rfl⟩) | (go_at_call 20; (with_reducible refine (HR.out _).mono ?_); rintro e wz ⟨rfl, hbw⟩; have HBW := Lib.hid hbw; have hfl := (Flds.new W 32 [.int .i64 0, .string nob, .int .i64 0, .int .i64 0]).later hbw; have g0 := hfl.cell 0; have g1 := hfl.cell 1; have g2 := hfl.cell 2; have g3 := hfl.cell 3; have k0 := hfl.frozen 0; have k1 := hfl.frozen 1; have k2 := hfl.frozen 2; have k3 := hfl.frozen 3; simp only [List.getElem?_cons_zero, List.getElem?_cons_succ] at g0 g1 g2 g3; have hsz := hbw.size; have hsz2 : W.heap.size < wz.heap.size := hfl.lt; clear hfl; clear hbw))
  refine bodyPost_ret (v := .tuple #[tkV k t n 0, .int .i64 m, .int .i64 er]) ?_ (by rfl) ⟨rfl, ?_⟩
  · simp only [results, Tryd.results11]; go_simp
  · have hz : W.heap.size < (W.alloc (.cells #[.int .i64 0, .string nob, .int .i64 0, .int .i64 0] 32)).heap.size := by simp
    have HB := ((Below.refl W.heap.size W).alloc (Nat.le_refl _) (.cells #[.int .i64 0, .string nob, .int .i64 0, .int .i64 0] 32)).trans (HBW.out.mono (by rw [World.size_alloc]; omega))
    exact (((HB.setCell (p := ⟨W.heap.size, 0, none⟩) (Nat.le_refl _) _).setCell (p := ⟨W.heap.size, 1, none⟩) (Nat.le_refl _) _).setCell (p := ⟨W.heap.size, 2, none⟩) (Nat.le_refl _) _).setCell (p := ⟨W.heap.size, 3, none⟩) (Nat.le_refl _) _

set_option maxRecDepth 100000 in
set_option maxHeartbeats 4000000 in
theorem first_key (s : ByteArray) (hs : s.size ≤ 1099511627776) (h0 : 0 < s.size) (hl : lowB s[0] = false) (hu : upB s[0] = true) (W : World) : Calls Tryd.prog 11 #[.string s] W fun e w' => e = .returned (fstV (wordL 2 (s.data.toList.takeWhile upB))) ∧ Below W.heap.size W w' := by
  have hs0 : (0 : Int) ≤ (s.size : Int) := by omega
  have hs1 : (0 : Int) < (s.size : Int) := by omega
  have hc : (s[0].toNat : Int) < 256 := by have := s[0].toNat_lt; omega
  have hc0 : (0 : Int) ≤ (s[0].toNat : Int) := by omega
  have HL := Lib.hid (fun W => lower_any s[0] W)
  rw [hl] at HL
  have HU := Lib.hid (fun W => upper_any s[0] W)
  rw [hu] at HU
  have HSP := Lib.hid (fun W => span_up s hs W)
  have hrl := run_le upB s
  have hrt := run_take upB s
  have hr0 : 0 < (s.data.toList.takeWhile upB).length := by
    obtain ⟨r, hr⟩ := first_0 s h0
    rw [hr, List.takeWhile_cons, if_pos (hu)]; simp
  have ha := all_of_takeWhile upB s.data.toList
  have HR : ∀ W : World, Calls Tryd.prog 20 #[.int .i64 2, .string (s.extract 0 (s.data.toList.takeWhile upB).length)] W fun e w' => e = .returned (fstV (wordL 2 ((s.extract 0 (s.data.toList.takeWhile upB).length)).data.toList)) ∧ Below W.heap.size W w' := fun (W : World) => word_any 2 (by decide) (s.extract 0 (s.data.toList.takeWhile upB).length) (by rw [ext_size _ _ hrl]; omega) (by rw [ext_size _ _ hrl]; exact hr0) W
  rw [hrt] at HR
  generalize hNN : (s.data.toList.takeWhile upB).length = N at *
  have hN0 : (0 : Int) ≤ (N : Int) := by omega
  have hN1 : (N : Int) ≤ (s.size : Int) := by omega
  clear hrt ha hr0 hNN
  obtain ⟨k, t, n, m, er, hF⟩ := fst_shape (wordL 2 (s.data.toList.takeWhile upB))
  rw [hF] at HR ⊢
  have HR := Lib.hid HR
  clear hF
  go_enter Tryd.func11, Tryd.ntmps11
  go_wp2_with (first | (go_at_call 17; (with_reducible refine (HL.out _).mono ?_); rintro e w1 ⟨rfl, rfl⟩) | (go_at_call 21; (with_reducible refine (HU.out _).mono ?_); rintro e w1 ⟨rfl, rfl⟩) | (go_at_call 18; (with_reducible refine (HSP.out _).mono ?_); rintro e w1 ⟨rfl, rfl⟩) | (go_at_call 20; (with_reducible refine (HR.out _).mono ?_); rintro e wz ⟨rfl, hbw⟩; have HBW := Lib.hid hbw; have hfl := (Flds.new W 32 [.int .i64 0, .string nob, .int .i64 0, .int .i64 0]).later hbw; have g0 := hfl.cell 0; have g1 := hfl.cell 1; have g2 := hfl.cell 2; have g3 := hfl.cell 3; have k0 := hfl.frozen 0; have k1 := hfl.frozen 1; have k2 := hfl.frozen 2; have k3 := hfl.frozen 3; simp only [List.getElem?_cons_zero, List.getElem?_cons_succ] at g0 g1 g2 g3; have hsz := hbw.size; have hsz2 : W.heap.size < wz.heap.size := hfl.lt; clear hfl; clear hbw))
  refine bodyPost_ret (v := .tuple #[tkV k t n 0, .int .i64 m, .int .i64 er]) ?_ (by rfl) ⟨rfl, ?_⟩
  · simp only [results, Tryd.results11]; go_simp
  · have hz : W.heap.size < (W.alloc (.cells #[.int .i64 0, .string nob, .int .i64 0, .int .i64 0] 32)).heap.size := by simp
    have HB := ((Below.refl W.heap.size W).alloc (Nat.le_refl _) (.cells #[.int .i64 0, .string nob, .int .i64 0, .int .i64 0] 32)).trans (HBW.out.mono (by rw [World.size_alloc]; omega))
    exact (((HB.setCell (p := ⟨W.heap.size, 0, none⟩) (Nat.le_refl _) _).setCell (p := ⟨W.heap.size, 1, none⟩) (Nat.le_refl _) _).setCell (p := ⟨W.heap.size, 2, none⟩) (Nat.le_refl _) _).setCell (p := ⟨W.heap.size, 3, none⟩) (Nat.le_refl _) _

set_option maxRecDepth 100000 in
set_option maxHeartbeats 4000000 in
theorem first_num (s : ByteArray) (hs : s.size ≤ 1099511627776) (h0 : 0 < s.size) (hl : lowB s[0] = false) (hu : upB s[0] = false) (hd : digB s[0] = true) (W : World) : Calls Tryd.prog 11 #[.string s] W fun e w' => e = .returned (fstV (numL (s.data.toList.takeWhile digB))) ∧ Below W.heap.size W w' := by
  have hs0 : (0 : Int) ≤ (s.size : Int) := by omega
  have hs1 : (0 : Int) < (s.size : Int) := by omega
  have hc : (s[0].toNat : Int) < 256 := by have := s[0].toNat_lt; omega
  have hc0 : (0 : Int) ≤ (s[0].toNat : Int) := by omega
  have HL := Lib.hid (fun W => lower_any s[0] W)
  rw [hl] at HL
  have HU := Lib.hid (fun W => upper_any s[0] W)
  rw [hu] at HU
  have HD := Lib.hid (fun W => digit_any s[0] W)
  rw [hd] at HD
  have HSP := Lib.hid (fun W => span_dig s hs W)
  have hrl := run_le digB s
  have hrt := run_take digB s
  have hr0 : 0 < (s.data.toList.takeWhile digB).length := by
    obtain ⟨r, hr⟩ := first_0 s h0
    rw [hr, List.takeWhile_cons, if_pos (hd)]; simp
  have ha := all_of_takeWhile digB s.data.toList
  have HR := fun (W : World) => number_any (s.extract 0 (s.data.toList.takeWhile digB).length) (by rw [ext_size _ _ hrl]; omega) (by rw [ext_size _ _ hrl]; exact hr0) (by rw [hrt]; exact ha) W
  rw [hrt] at HR
  generalize hNN : (s.data.toList.takeWhile digB).length = N at *
  have hN0 : (0 : Int) ≤ (N : Int) := by omega
  have hN1 : (N : Int) ≤ (s.size : Int) := by omega
  clear hrt ha hr0 hNN
  obtain ⟨k, t, n, m, er, hF⟩ := fst_shape (numL (s.data.toList.takeWhile digB))
  rw [hF] at HR ⊢
  have HR := Lib.hid HR
  clear hF
  go_enter Tryd.func11, Tryd.ntmps11
  go_wp2_with (first | (go_at_call 17; (with_reducible refine (HL.out _).mono ?_); rintro e w1 ⟨rfl, rfl⟩) | (go_at_call 21; (with_reducible refine (HU.out _).mono ?_); rintro e w1 ⟨rfl, rfl⟩) | (go_at_call 22; (with_reducible refine (HD.out _).mono ?_); rintro e w1 ⟨rfl, rfl⟩) | (go_at_call 18; (with_reducible refine (HSP.out _).mono ?_); rintro e w1 ⟨rfl, rfl⟩) | (go_at_call 23; (with_reducible refine (HR.out _).mono ?_); rintro e wz ⟨rfl, hbw⟩; have HBW := Lib.hid hbw; have hfl := (Flds.new W 32 [.int .i64 0, .string nob, .int .i64 0, .int .i64 0]).later hbw; have g0 := hfl.cell 0; have g1 := hfl.cell 1; have g2 := hfl.cell 2; have g3 := hfl.cell 3; have k0 := hfl.frozen 0; have k1 := hfl.frozen 1; have k2 := hfl.frozen 2; have k3 := hfl.frozen 3; simp only [List.getElem?_cons_zero, List.getElem?_cons_succ] at g0 g1 g2 g3; have hsz := hbw.size; have hsz2 : W.heap.size < wz.heap.size := hfl.lt; clear hfl; clear hbw))
  refine bodyPost_ret (v := .tuple #[tkV k t n 0, .int .i64 m, .int .i64 er]) ?_ (by rfl) ⟨rfl, ?_⟩
  · simp only [results, Tryd.results11]; go_simp
  · have hz : W.heap.size < (W.alloc (.cells #[.int .i64 0, .string nob, .int .i64 0, .int .i64 0] 32)).heap.size := by simp
    have HB := ((Below.refl W.heap.size W).alloc (Nat.le_refl _) (.cells #[.int .i64 0, .string nob, .int .i64 0, .int .i64 0] 32)).trans (HBW.out.mono (by rw [World.size_alloc]; omega))
    exact (((HB.setCell (p := ⟨W.heap.size, 0, none⟩) (Nat.le_refl _) _).setCell (p := ⟨W.heap.size, 1, none⟩) (Nat.le_refl _) _).setCell (p := ⟨W.heap.size, 2, none⟩) (Nat.le_refl _) _).setCell (p := ⟨W.heap.size, 3, none⟩) (Nat.le_refl _) _

set_option maxRecDepth 100000 in
set_option maxHeartbeats 4000000 in
theorem first_text (s : ByteArray) (hs : s.size ≤ 1099511627776) (h0 : 0 < s.size) (hl : lowB s[0] = false) (hu : upB s[0] = false) (hd : digB s[0] = false) (hq : s[0].toNat = 39) (W : World) : Calls Tryd.prog 11 #[.string s] W fun e w' => e = .returned (fstV (textL s.data.toList 1 [])) ∧ Below W.heap.size W w' := by
  have hs0 : (0 : Int) ≤ (s.size : Int) := by omega
  have hs1 : (0 : Int) < (s.size : Int) := by omega
  have hc : (s[0].toNat : Int) < 256 := by have := s[0].toNat_lt; omega
  have hc0 : (0 : Int) ≤ (s[0].toNat : Int) := by omega
  have HL := Lib.hid (fun W => lower_any s[0] W)
  rw [hl] at HL
  have HU := Lib.hid (fun W => upper_any s[0] W)
  rw [hu] at HU
  have HD := Lib.hid (fun W => digit_any s[0] W)
  rw [hd] at HD
  have e1 : ((s[0].toNat : Int) == 39) = true := by simp [hq]
  have HR := fun W => text_any s hs h0 W
  clear hq
  obtain ⟨k, t, n, m, er, hF⟩ := fst_shape (textL s.data.toList 1 [])
  rw [hF] at HR ⊢
  have HR := Lib.hid HR
  clear hF
  go_enter Tryd.func11, Tryd.ntmps11
  go_wp2_with (first | (go_at_call 17; (with_reducible refine (HL.out _).mono ?_); rintro e w1 ⟨rfl, rfl⟩) | (go_at_call 21; (with_reducible refine (HU.out _).mono ?_); rintro e w1 ⟨rfl, rfl⟩) | (go_at_call 22; (with_reducible refine (HD.out _).mono ?_); rintro e w1 ⟨rfl, rfl⟩) | (go_at_call 24; (with_reducible refine (HR.out _).mono ?_); rintro e wz ⟨rfl, hbw⟩; have HBW := Lib.hid hbw; have hfl := (Flds.new W 32 [.int .i64 0, .string nob, .int .i64 0, .int .i64 0]).later hbw; have g0 := hfl.cell 0; have g1 := hfl.cell 1; have g2 := hfl.cell 2; have g3 := hfl.cell 3; have k0 := hfl.frozen 0; have k1 := hfl.frozen 1; have k2 := hfl.frozen 2; have k3 := hfl.frozen 3; simp only [List.getElem?_cons_zero, List.getElem?_cons_succ] at g0 g1 g2 g3; have hsz := hbw.size; have hsz2 : W.heap.size < wz.heap.size := hfl.lt; clear hfl; clear hbw))
  refine bodyPost_ret (v := .tuple #[tkV k t n 0, .int .i64 m, .int .i64 er]) ?_ (by rfl) ⟨rfl, ?_⟩
  · simp only [results, Tryd.results11]; go_simp
  · have hz : W.heap.size < (W.alloc (.cells #[.int .i64 0, .string nob, .int .i64 0, .int .i64 0] 32)).heap.size := by simp
    have HB := ((Below.refl W.heap.size W).alloc (Nat.le_refl _) (.cells #[.int .i64 0, .string nob, .int .i64 0, .int .i64 0] 32)).trans (HBW.out.mono (by rw [World.size_alloc]; omega))
    exact (((HB.setCell (p := ⟨W.heap.size, 0, none⟩) (Nat.le_refl _) _).setCell (p := ⟨W.heap.size, 1, none⟩) (Nat.le_refl _) _).setCell (p := ⟨W.heap.size, 2, none⟩) (Nat.le_refl _) _).setCell (p := ⟨W.heap.size, 3, none⟩) (Nat.le_refl _) _
end Go.Proofs.YtkgfmjejcpjfiaaDoor.lx
