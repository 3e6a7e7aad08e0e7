/- All tokens of a text, walked. -/
import Derived.Test.YtkgfmjejcpjfiaaDoorLexF
import Derived.OwnWalk
namespace Go.Proofs.YtkgfmjejcpjfiaaDoor.lx
set_option linter.unusedVariables false
open Go.RowKit

abbrev TK : TypeId := 32
/-- the cells of tokens -/
def tCells (ts : List Tk) : List Value := ts.flatMap fun t => [.int .i64 (t.k : Int), .string ⟨t.s.toArray⟩, .int .i64 (t.n : Int), .int .i64 (t.at_ : Int)]
theorem tCells_len (ts : List Tk) : (tCells ts).length = ts.length * 4 := by
  induction ts with
  | nil => rfl
  | cons v l ih => simp only [tCells, List.flatMap_cons, List.length_append, List.length_cons, List.length_nil] at ih ⊢; omega
theorem tCells_cons (v : Tk) (l : List Tk) : tCells (v :: l) = .int .i64 (v.k : Int) :: .string ⟨v.s.toArray⟩ :: .int .i64 (v.n : Int) :: .int .i64 (v.at_ : Int) :: tCells l := rfl
theorem tCells_snoc (l : List Tk) (v : Tk) : tCells (l ++ [v]) = tCells l ++ [.int .i64 (v.k : Int), .string ⟨v.s.toArray⟩, .int .i64 (v.n : Int), .int .i64 (v.at_ : Int)] := by simp [tCells]
theorem tCells_at : ∀ (l : List Tk) (j : Nat) (v : Tk), l[j]? = some v → (tCells l)[j * 4]? = some (.int .i64 (v.k : Int)) ∧ (tCells l)[j * 4 + 1]? = some (.string ⟨v.s.toArray⟩) ∧ (tCells l)[j * 4 + 2]? = some (.int .i64 (v.n : Int)) ∧ (tCells l)[j * 4 + 3]? = some (.int .i64 (v.at_ : Int))
  | [], j, v, h => by simp at h
  | u :: l, 0, v, h => by simp at h; subst h; exact ⟨rfl, rfl, rfl, rfl⟩
  | u :: l, j + 1, v, h => by
    have := tCells_at l j v (by simpa using h)
    rw [tCells_cons, show (j + 1) * 4 = j * 4 + 1 + 1 + 1 + 1 by omega]
    exact this
theorem cells_new_add (w : World) (vs : List Value) (T : TypeId) : ∀ j u, vs[j]? = some u → (w.alloc (.cells vs.toArray T)).cell? ((⟨w.heap.size, 0, none⟩ : Addr).add j) = some u := by
  intro j u h
  have e : (⟨w.heap.size, 0, none⟩ : Addr).add j = ⟨w.heap.size, j, none⟩ := by unfold Addr.add; split <;> simp_all
  rw [e, (Flds.new w T vs).cell j, h]
theorem infoTk : (Tryd.prog.info? TK).map (fun i => (i.zero, i.size, i.bytes)) = some (some (tkV 0 ⟨#[]⟩ 0 0), 4, 40) := by kernel_rfl
theorem first_bad (l : List UInt8) (e : Nat) (h : firstL l = .bad e) : e = 4 ∨ e = 8 := by
  have hw : ∀ k s, wordL k s = .bad e → e = 4 ∨ e = 8 := fun k s h => by
    unfold wordL at h; split at h
    · cases h; exact .inr rfl
    · cases h
  have ht : ∀ i acc, textL l i acc = .bad e → e = 4 ∨ e = 8 := fun i acc h => by
    induction i, acc using textL.induct (l := l) with
    | case1 i acc hi hq hq2 ih => rw [textL, dif_pos hi, if_pos hq, if_pos hq2] at h; exact ih h
    | case2 i acc hi hq hq2 hl => rw [textL, dif_pos hi, if_pos hq, if_neg hq2, if_pos hl] at h; cases h; exact .inr rfl
    | case3 i acc hi hq hq2 hl => rw [textL, dif_pos hi, if_pos hq, if_neg hq2, if_neg hl] at h; cases h
    | case4 i acc hi hq ih => rw [textL, dif_pos hi, if_neg hq] at h; exact ih h
    | case5 i acc hi => rw [textL, dif_neg hi] at h; cases h; exact .inl rfl
  cases l with
  | nil => cases h; exact .inl rfl
  | cons c r =>
    simp only [firstL] at h
    split at h
    · exact hw _ _ h
    · split at h
      · exact hw _ _ h
      · split at h
        · unfold numL at h
          split at h
          · cases h; exact .inr rfl
          · split at h
            · cases h; exact .inr rfl
            · cases h
        · split at h
          · exact ht _ _ h
          · unfold signL at h
            split at h
            · cases h
            · cases h; exact .inl rfl

/-- what Split tells -/
def SplitPost (F : Out) (W : World) (e : Ending) (w' : World) : Prop := ∃ v, e = .returned v ∧ Below W.heap.size W w' ∧ match F with
  | .bad i er => v = .tuple #[.slice none 0 0, .int .i64 (i : Int), .int .i64 (er : Int)]
  | .ok ts => ∃ sv, v = .tuple #[sv, .int .i64 0, .int .i64 0] ∧ w'.ownsRow W.heap.size TK 4 sv ts.length (tCells ts)

set_option maxRecDepth 100000 in
set_option maxHeartbeats 4000000 in
theorem split_any (s : ByteArray) (hs : s.size ≤ 1099511627776) (W : World) (hS : Signs W) : Calls Tryd.prog 6 #[.string s] W (SplitPost (splitT s.data.toList) W) := by
  obtain ⟨i0, hi, hz0, hz1, hz2⟩ := info_parts infoTk
  have hs0 : (0 : Int) ≤ (s.size : Int) := by omega
  by_cases h : 2000 < s.size
  · have d : (2000 : Int) < (s.size : Int) := by omega
    rw [splitT_long _ (by rw [data_len]; exact h)]
    go_enter Tryd.func6, Tryd.ntmps6
    go_wp2_with fail
    refine bodyPost_ret (v := .tuple #[.slice none 0 0, .int .i64 0, .int .i64 3]) ?_ (by rfl) ⟨_, rfl, Below.refl _ _, rfl⟩
    · simp only [results, Tryd.results6]; go_simp
  · have d : ¬ (2000 : Int) < (s.size : Int) := by omega
    have hF0 : splitT s.data.toList = splitL s.data.toList 0 [] := by unfold splitT; rw [if_neg (by rw [data_len]; exact h)]
    obtain ⟨F, hF⟩ : ∃ F, splitL s.data.toList 0 [] = F := ⟨_, rfl⟩
    rw [hF0, hF]
    have HF := Lib.hid hF
    have HS := Lib.hid hS
    clear hF0 hF hS
    go_enter Tryd.func6, Tryd.ntmps6
    go_wp2_with fail
    go_loopw [5, 6] (fun sv i wr => ∃ (k : Nat) (ts : List Tk) (a : Option Addr) (c : Nat), sv = .slice a ts.length c ∧ i = .int .i64 (k : Int) ∧ k ≤ s.size ∧ ts.length ≤ k ∧ Hid (splitL s.data.toList k ts = F) ∧ Hid (wr.ownsRow W.heap.size TK 4 sv ts.length (tCells ts)) ∧ Hid (Below W.heap.size W wr)) (fun _ i _ => s.size - (intOf i).toNat)
    case atStart => exact ⟨0, [], none, 0, rfl, rfl, Nat.zero_le _, Nat.le_refl _, HF, Lib.hid (World.ownsRow_nil _ _ _ _), Lib.hid (Below.refl _ _)⟩
    case round =>
      obtain ⟨k, ts, a, c, rfl, rfl, hk, htk, HT, HO, HB⟩ := hrel
      have hd0 : (0 : Int) ≤ (k : Int) := by omega
      by_cases hz : k < s.size
      · have dz : (k : Int) < (s.size : Int) := by omega
        have hl : k < s.data.toList.length := by rw [data_len]; exact hz
        have hc : (s[k].toNat : Int) < 256 := by have := s[k].toNat_lt; omega
        have hc0 : (0 : Int) ≤ (s[k].toNat : Int) := by omega
        by_cases hb : blankB s[k] = true
        · have HT2 := Lib.hid ((split_blank _ _ ts hl (by rw [data_at s k hz]; exact hb)).symm.trans HT.out)
          by_cases h32 : s[k].toNat = 32
          · have e1 : ((s[k].toNat : Int) == 32) = true := by simp [h32]
            clear hb
            go_wp2_with fail
            go_roundw
            case rel => exact ⟨k + 1, ts, a, c, rfl, by go_num, by omega, by omega, HT2, HO, HB⟩
            case measure => simp [intOf]; omega
          · have h10 : s[k].toNat = 10 := by unfold blankB at hb; simp only [Bool.or_eq_true, beq_iff_eq] at hb; omega
            have e1 : ((s[k].toNat : Int) == 32) = false := by simp; omega
            have e2 : ((s[k].toNat : Int) == 10) = true := by simp [h10]
            clear hb
            go_wp2_with fail
            go_roundw
            case rel => exact ⟨k + 1, ts, a, c, rfl, by go_num, by omega, by omega, HT2, HO, HB⟩
            case measure => simp [intOf]; omega
        · have hb' : blankB s[k] = false := by simpa using hb
          have e1 : ((s[k].toNat : Int) == 32) = false := by unfold blankB at hb'; simp only [Bool.or_eq_false_iff, beq_eq_false_iff_ne] at hb'; simp; omega
          have e2 : ((s[k].toNat : Int) == 10) = false := by unfold blankB at hb'; simp only [Bool.or_eq_false_iff, beq_eq_false_iff_ne] at hb'; simp; omega
          have hbl : blankB s.data.toList[k] = false := by rw [data_at s k hz]; exact hb'
          have hext : (s.extract k s.size).data.toList = s.data.toList.drop k := Lib.extract_to_end s k
          have hexz : (s.extract k s.size).size = s.size - k := by rw [ByteArray.size_extract]; omega
          have HFI := first_any (s.extract k s.size) (by omega) (by omega) wr (HS.out.later HB.out)
          rw [hext] at HFI
          clear hb hb' hext
          cases hff : firstL (s.data.toList.drop k) with
          | bad er =>
            have her := first_bad _ _ hff
            have her0 : ((er : Int) != 0) = true := by simp; omega
            have hre := (split_bad _ _ ts er hl hbl hff).symm.trans HT.out
            rw [hff] at HFI
            simp only [fstV] at HFI
            have HFI := Lib.hid HFI
            subst hre
            clear hff hbl
            go_wp2_with (go_at_call 11; (with_reducible refine (HFI.out).mono ?_); rintro e w1 ⟨rfl, hb1⟩; have HB1 := Lib.hid hb1; clear hb1)
            refine bodyPost_ret (v := .tuple #[.slice none 0 0, .int .i64 (k : Int), .int .i64 (er : Int)]) ?_ (by rfl) ⟨_, rfl, (HB.out.trans (HB1.out.mono HB.out.size)).alloc (by have := HB.out.size; have := HB1.out.size; omega) _, rfl⟩
            · simp only [results, Tryd.results6]; go_simp
          | tok kk ss nn mm =>
            have hln := first_len _ hff
            rw [List.length_drop, data_len] at hln
            have HT2 := Lib.hid ((split_tok _ _ ts kk ss nn mm hl hbl hff).symm.trans HT.out)
            rw [hff] at HFI
            simp only [fstV] at HFI
            have HFI := Lib.hid HFI
            clear hff hbl
            have q1 : (0 : Int) ≤ ((mm + 1 : Nat) : Int) := by omega
            have q2 : ((mm + 1 : Nat) : Int) ≤ 2000 := by omega
            have q3 : (k : Int) ≤ 2000 := by omega
            generalize hM : mm + 1 = M at *
            go_wp2_with (first | (go_at_call 11; (with_reducible refine (HFI.out).mono ?_); rintro e w1 ⟨rfl, hb1⟩; have hown1 := owns_below HO.out hb1; have hwl : W.heap.size ≤ w1.heap.size := Nat.le_trans HB.out.size hb1.size; have HB1 := Lib.hid (HB.out.trans (hb1.mono HB.out.size)); clear hb1) | (at_builtin; refine wpList_append_own _ rfl _ _ 23 rfl W.heap.size TK i0 (tkV 0 ⟨#[]⟩ 0 0) 4 40 Tryd.underlying23 hi hz0 hz1 hz2 rfl (by decide) _ _ _ rfl ((hown1.alloc _).alloc _) ⟨w1.heap.size + 1, 0, none⟩ 1 1 [.int .i64 (kk : Int), .string ⟨ss.toArray⟩, .int .i64 (nn : Int), .int .i64 (k : Int)] rfl rfl ?c1 ?c2 ?c3 ?c4 ?c5 ?_))
            case c1 =>
              intro j u hu
              have := cells_new_add (w1.alloc (.cells #[.int .i64 (kk : Int), .string ⟨ss.toArray⟩, .int .i64 (nn : Int), .int .i64 (k : Int)] TK)) [.int .i64 (kk : Int), .string ⟨ss.toArray⟩, .int .i64 (nn : Int), .int .i64 (k : Int)] TK j u hu
              rwa [World.size_alloc] at this
            case c2 => intro u hu; simp at hu; rcases hu with rfl | rfl | rfl | rfl <;> rfl
            case c3 => unfold maxLen; omega
            case c4 => omega
            case c5 => simp only [World.size_alloc]; omega
            intro v' w5 hown' hgrow _
            have hB5 : Below W.heap.size W w5 := ((HB1.out.alloc hwl _).alloc (by simp only [World.size_alloc]; omega) _).grown hgrow (by simp only [World.size_alloc]; omega) (fun k hk => (hown1.lt k hk).1)
            obtain ⟨a5, c5, rfl⟩ := owns_shape hown'
            have HO2 := Lib.hid hown'
            have HB5 := Lib.hid hB5
            clear hown1 hown' hgrow hB5
            go_wp2
            go_roundw
            case rel => exact ⟨k + M, ts ++ [⟨kk, ss, nn, k⟩], a5, c5, by rw [List.length_append]; rfl, by go_num, by omega, by rw [List.length_append]; simp; omega, HT2, Lib.hid (by rw [tCells_snoc, List.length_append]; exact HO2.out), HB5⟩
            case measure => simp [intOf]; omega
      · have dz : ¬ (k : Int) < (s.size : Int) := by omega
        have hre := (split_end s.data.toList k ts (by rw [data_len]; omega)).symm.trans HT.out
        subst hre
        go_wp2_with fail
        refine bodyPost_ret (v := .tuple #[.slice a ts.length c, .int .i64 0, .int .i64 0]) ?_ (by rfl) ⟨_, rfl, HB.out, _, rfl, HO.out⟩
        · simp only [results, Tryd.results6]; go_simp
end Go.Proofs.YtkgfmjejcpjfiaaDoor.lx
