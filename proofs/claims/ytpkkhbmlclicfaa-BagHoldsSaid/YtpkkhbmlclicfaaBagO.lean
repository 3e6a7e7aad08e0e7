/- The key of rows, by the document's text; walked. -/
import Derived.Test.YtpkkhbmlclicfaaMH
import Derived.Test.YtpkkhbmlclicfaaRowI
import Derived.Test.YtpkkhbmlclicfaaMF
import Derived.Test.YtpkkhbmlclicfaaMA
import Derived.Test.YtpkkhbmlclicfaaMD
namespace Go.Proofs.Ytpkkhbmlclicfaa.val
set_option linter.unusedVariables false
open Go.RowKit Go.Sort
theorem packB_small (ms : List (List V)) (hg : ∀ l ∈ ms, Goods l ∧ l.length ≤ 4) : (packB (ms.map kB)).length ≤ ms.length * 280 := by
  rw [packB_length]
  induction ms with
  | nil => simp
  | cons a l ih =>
    have h1 := ih (fun x hx => hg x (List.mem_cons_of_mem _ hx))
    have h2 := hg a (List.mem_cons_self ..)
    have h3 := keyB_len a h2.1
    have h4 : (kB a).size = (keyB a).length := by unfold kB; show (keyB a).toArray.size = _; simp
    simp only [List.map_cons, List.sum_cons, List.length_cons]
    omega
set_option maxRecDepth 100000 in
set_option maxHeartbeats 4000000 in
theorem key8_any (v : Value) (us : List Value) (ls ms : List (List V)) (hn : us.length ≤ 1000) (hg : ∀ l ∈ ls, Goods l ∧ l.length ≤ 4) (w : World) (hv : Row w v 1 us.length us) (hr : Rws w us ls) (hp : ms.Perm ls) (hs : SortedL ms) :
    Calls Try.prog 17 #[v] w fun e w' => e = .returned (.string ⟨(packB (ms.map kB)).toArray⟩) ∧ Below w.heap.size w w' := by
  obtain ⟨i0, hi, hz0, hz1, hz2⟩ := info_parts infoStr
  have HSO := Lib.hid (refsort_any v us ls hn (fun l hl => (hg l hl).1) (fun l hl => by have := (hg l hl).2; omega) w hv hr)
  have HGM : Hid (∀ l ∈ ms, Goods l ∧ l.length ≤ 4) := Lib.hid (fun l hl => hg l (hp.mem_iff.1 hl))
  have hml : ms.length = us.length := by rw [hp.length_eq, hr.1]
  obtain ⟨n, hnn⟩ : ∃ n, us.length = n := ⟨_, rfl⟩
  rw [hnn] at HSO hml hn
  have HML := Lib.hid hml
  have HPP : Hid (∀ ls', ls'.Perm ls → SortedL ls' → ls' = ms) := Lib.hid (fun ls' h1 h2 => sorted_unique ls' ms (fun l hl => (hg l (h1.mem_iff.1 hl)).1) (h1.trans hp.symm) h2 hs)
  have n0 : (0 : Int) ≤ (n : Int) := by omega
  have n1 : (n : Int) ≤ 1000 := by omega
  clear hnn hml hg hv hr hp hs
  go_enter Try.func17, Try.ntmps17
  go_wp2_with fail
  (with_reducible refine HSO.out.mono ?_); rintro e w1 ⟨a, cap, vs, ls', rfl, hvl, hrow, hrw, hpe, hso, hb1⟩
  obtain rfl := HPP.out ls' hpe hso
  have HRO := Lib.hid hrow
  have HRW := Lib.hid hrw
  have HVL := Lib.hid hvl
  have HB1 := Lib.hid hb1
  clear hpe hso hrow hrw hvl hb1 HSO HPP
  go_wp2_with fail
  go_loopw [3, 5] (fun sv iv wr => ∃ (k : Nat) (aa : Option Addr) (cc : Nat) (ss : List ByteArray), sv = .slice aa k cc ∧ iv = .int .i64 (k : Int) ∧ k ≤ n ∧ Hid (ss.length = k ∧ ss = (ls'.take k).map kB) ∧ Hid (wr.ownsRow w1.heap.size 9 1 sv k (ss.map Value.string)) ∧ Hid (Below w1.heap.size w1 wr)) (fun _ iv _ => n - (intOf iv).toNat)
  case atStart => exact ⟨0, none, 0, [], rfl, rfl, Nat.zero_le _, Lib.hid ⟨rfl, rfl⟩, Lib.hid (World.ownsRow_nil _ _ _ _), Lib.hid (Below.refl _ _)⟩
  case round =>
    obtain ⟨k, aa, cc, ss, rfl, rfl, hk, HSS, HOW, HBW⟩ := hrel
    have hd0 : (0 : Int) ≤ (k : Int) := by omega
    by_cases hkn : k < n
    · have dk : (k : Int) < (n : Int) := by omega
      have hkv : k < vs.length := by rw [HVL.out]; exact hkn
      have hkl : k < ls'.length := by rw [HML.out]; exact hkn
      obtain ⟨b, off, cap', ea, hcell⟩ := (HRO.out.later HBW.out).pos (by omega)
      simp only [Value.slice.injEq] at ea
      obtain ⟨rfl, -, rfl⟩ := ea
      have c0 := (hcell k (by omega)).trans (List.getElem?_eq_getElem hkv)
      have hru := HRW.out.2 k _ _ (List.getElem?_eq_getElem hkv) (List.getElem?_eq_getElem hkl)
      have hgr := HGM.out _ (List.getElem_mem hkl)
      have htk : ls'.take (k + 1) = ls'.take k ++ [ls'[k]] := List.take_succ_eq_append_getElem hkl
      generalize ls'[k] = r at *
      generalize vs[k] = u at *
      obtain ⟨ua, uc, rfl, hrest⟩ := id hru
      have HRU := Lib.hid hru
      have HTK := Lib.hid htk
      have HKY := Lib.hid (refkey_any (.slice ua r.length uc) r hgr.1 (by omega) wr (HRU.out.later HBW.out))
      have HGR := Lib.hid hgr
      clear hcell hru hrest htk hgr
      go_upto_region 6 with fail
      go_wp2_with (first | (go_at_call 32; (with_reducible refine HKY.out.mono ?_); rintro e w4 ⟨rfl, hb4⟩; have HO4 := Lib.hid (owns_below HOW.out hb4); have HW4 := Lib.hid (HBW.out.trans (hb4.mono HBW.out.size)); have hz4 := HW4.out.size; clear hb4) | (at_builtin; refine wpList_append_own _ rfl _ _ 46 rfl w1.heap.size 9 i0 (.string ⟨#[]⟩) 1 16 Try.underlying46 hi hz0 hz1 hz2 rfl (by decide) _ _ _ rfl (HO4.out.alloc _) ⟨w4.heap.size, 0, none⟩ 1 1 [.string ⟨(keyB r).toArray⟩] rfl rfl (cells_new_add' w4 [.string ⟨(keyB r).toArray⟩] 9) (fun u hu => by rw [List.mem_singleton.1 hu]; rfl) (by unfold maxLen; omega) (by omega) (by simp only [World.size_alloc]; omega) ?_; intro v' w5 hown' hgrow _))
      have hgr' : (w4.alloc (.cells #[.string ⟨(keyB r).toArray⟩] 9)).grownBy w5 (Value.slice aa k cc).ownBlock := hgrow
      have HB5 := Lib.hid ((HW4.out.alloc hz4 (.cells #[.string ⟨(keyB r).toArray⟩] 9)).grown hgr' (by simp only [World.size_alloc]; omega) (fun jj hjj => (HO4.out.lt jj hjj).1))
      obtain ⟨a5, c5, rfl⟩ := owns_shape hown'
      have HO5 := Lib.hid hown'
      clear hgr' hgrow hown'
      go_roundw
      case rel =>
        refine ⟨k + 1, a5, c5, ss ++ [⟨(keyB r).toArray⟩], rfl, by go_num, by omega, Lib.hid ⟨by rw [List.length_append, HSS.out.1]; rfl, ?_⟩, Lib.hid (by rw [List.map_append]; exact HO5.out), HB5⟩
        rw [HTK.out, List.map_append, ← HSS.out.2]; rfl
      case measure => simp [intOf]; omega
    · have dk : ¬ (k : Int) < (n : Int) := by omega
      obtain rfl : k = n := by omega
      obtain ⟨hsl, hse⟩ := HSS.out
      rw [List.take_of_length_le (by rw [HML.out]; exact Nat.le_refl _)] at hse
      have HPK := Lib.hid (refPack_any (.slice aa k cc) ss wr (by omega) (by rw [hsl]; exact Row.of_owns HOW.out) (by rw [hse]; have := packB_small ls' HGM.out; rw [HML.out] at this; omega))
      have HSE := Lib.hid hse
      clear hsl hse
      go_wp2_with fail
      (with_reducible refine HPK.out.mono ?_); rintro e w4 ⟨rfl, hb4⟩
      have HW4 := Lib.hid (HBW.out.trans (hb4.mono HBW.out.size))
      have HB4 := Lib.hid (HB1.out.trans (HW4.out.mono HB1.out.size))
      clear hb4
      go_wp2_with fail
      go_ret
      exact ⟨by first | rfl | (rw [HSE.out]; rfl), HB4.out⟩
end Go.Proofs.Ytpkkhbmlclicfaa.val
