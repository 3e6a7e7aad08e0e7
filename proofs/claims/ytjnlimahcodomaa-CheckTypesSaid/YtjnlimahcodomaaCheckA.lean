/- Fields in memory; a column among them; the small functions of layer 20; walked. -/
import Derived.Test.YtjnlimahcodomaaCheckP
import Derived.Test.YtjnlimahcodomaaExprHJ
import Derived.Test.YtjnlimahcodomaaExprM
import Derived.Test.YtjnlimahcodomaaValueCF
import Derived.Test.YtjnlimahcodomaaValTG
namespace Go.Proofs.Ytjnlimahcodomaa.ck
set_option linter.unusedVariables false
open Go.RowKit
open val (V null doV fitB notV negV ofB ofN ofS gB vv ag3)
open ex (Er TE TQ of_fe)
def fCells (l : List Fd) : List Value := l.flatMap fun x => [.string x.tb, .string x.nm, .int .i64 x.k]
theorem fCells_len (l : List Fd) : (fCells l).length = l.length * 3 := by
  induction l with
  | nil => rfl
  | cons a l ih => unfold fCells at ih ⊢; rw [List.flatMap_cons, List.length_append, ih]; simp; omega
theorem fCells_cons (v : Fd) (l : List Fd) : fCells (v :: l) = .string v.tb :: .string v.nm :: .int .i64 v.k :: fCells l := rfl
theorem fCells_at : ∀ (l : List Fd) (j : Nat) (v : Fd), l[j]? = some v → (fCells l)[j * 3]? = some (.string v.tb) ∧ (fCells l)[j * 3 + 1]? = some (.string v.nm) ∧ (fCells l)[j * 3 + 2]? = some (.int .i64 v.k)
  | [], j, v, h => by simp at h
  | a :: l, 0, v, h => by
    simp at h; subst h
    rw [fCells_cons]; simp
  | a :: l, j + 1, v, h => by
    have := fCells_at l j v (by simpa using h)
    rw [fCells_cons, show (j + 1) * 3 = j * 3 + 3 by omega]
    simpa using this
theorem fd_at {w : World} {a : Option Addr} {cap n : Nat} {l : List Fd} {k : Nat} {x : Fd} (hv : Row w (.slice a n cap) 3 n (fCells l)) (hk : k < n) (hx : l[k]? = some x) :
    ∃ b off, a = some ⟨b, off, none⟩ ∧ ∀ wq, Below w.heap.size w wq → wq.cell? ⟨b, off + k * 3, none⟩ = some (.string x.tb) ∧ wq.cell? ⟨b, off + k * 3 + 1, none⟩ = some (.string x.nm) ∧ wq.cell? ⟨b, off + k * 3 + 2, none⟩ = some (.int .i64 x.k) ∧ b < wq.heap.size := by
  obtain ⟨b, off, cap', ea, hcell⟩ := hv.pos (by omega)
  simp only [Value.slice.injEq] at ea
  obtain ⟨rfl, -, rfl⟩ := ea
  refine ⟨b, off, rfl, fun wq hb => ?_⟩
  obtain ⟨c0, c1, c2⟩ := fCells_at l k _ hx
  have g0 := cell_later hb ((hcell (k * 3) (by omega)).trans c0)
  have g1 := cell_later hb ((hcell (k * 3 + 1) (by omega)).trans c1)
  have g2 := cell_later hb ((hcell (k * 3 + 2) (by omega)).trans c2)
  rw [← Nat.add_assoc] at g1 g2
  exact ⟨g0, g1, g2, World.block_lt_of_cell? wq _ g0⟩
theorem bytes_yes (s : ByteArray) : (s.toList == s.toList) = true := by simp
theorem bytes_no' {a b : ByteArray} (h : a ≠ b) : (a.toList == b.toList) = false := by
  have : ¬ a.toList = b.toList := fun h' => h (by rw [Lib.toList_data, Lib.toList_data] at h'; exact ByteArray.ext (Array.toList_inj.1 h'))
  simpa using this
theorem emp_no {a : ByteArray} (h : a ≠ ByteArray.empty) : ¬ a.toList = [] := fun h' => h (by rw [Lib.toList_data, Array.toList_eq_nil_iff] at h'; exact ByteArray.ext h')
theorem emp_no' {a : ByteArray} (h : a ≠ ByteArray.empty) : a.toList.isEmpty = false := by
  cases h' : a.toList with
  | nil => exact absurd h' (emp_no h)
  | cons _ _ => rfl
set_option maxRecDepth 100000 in
set_option maxHeartbeats 2000000 in
theorem find_any (a : Option Addr) (n cap : Nat) (l : List Fd) (r : Er) (ar : Option Addr) (nr cr : Nat) (hlv : r.lv = .slice ar nr cr) (hn : l.length = n) (hn8 : n ≤ 1000) (w : World) (hr : Row w (.slice a n cap) 3 n (fCells l)) :
    Calls Try.prog 22 #[.slice a n cap, r.val] w fun en w' => en = .returned (.tuple #[.int .i64 ((findF l r.tb r.nm).1 : Int), .int .i64 (findF l r.tb r.nm).2]) ∧ Below w.heap.size w w' := by
  obtain ⟨rk, rop, rv, rtb, rnm, rlv⟩ := r
  dsimp only at hlv ⊢
  subst hlv
  unfold Er.val
  dsimp only
  have hn0 : (0 : Int) ≤ (n : Int) := by omega
  have hn1 : (n : Int) ≤ 1000 := by omega
  have HN := Lib.hid hn
  have HR := Lib.hid hr
  have hfe : Flds (w.alloc (.cells #[.int .i64 rk, .int .i64 rop, .int .i64 rv.k, .int .i64 rv.n, .string rv.s, .string rtb, .string rnm, .slice ar nr cr] TE)) w.heap.size TE [.int .i64 rk, .int .i64 rop, .int .i64 rv.k, .int .i64 rv.n, .string rv.s, .string rtb, .string rnm, .slice ar nr cr] := Flds.new w TE _
  have hb0 : Below w.heap.size w (w.alloc (.cells #[.int .i64 rk, .int .i64 rop, .int .i64 rv.k, .int .i64 rv.n, .string rv.s, .string rtb, .string rnm, .slice ar nr cr] TE)) := (Below.refl _ _).alloc (Nat.le_refl _) _
  have HFE := Lib.hid hfe; have HB0 := Lib.hid hb0
  clear hn hr hfe hb0
  go_enter Try.func22, Try.ntmps22
  go_wp2_with fail
  go_loopw [6, 7, 12] (fun f c i wr => ∃ j : Nat, i = .int .i64 (j : Int) ∧ j ≤ n ∧ f = .int .i64 ((scanF l rtb rnm j).1 : Int) ∧ c = .int .i64 ((scanF l rtb rnm j).2 : Int) ∧ Hid (Flds wr w.heap.size TE [.int .i64 rk, .int .i64 rop, .int .i64 rv.k, .int .i64 rv.n, .string rv.s, .string rtb, .string rnm, .slice ar nr cr]) ∧ Hid (Below w.heap.size w wr)) (fun _ _ i _ => n - (intOf i).toNat)
  case atStart => exact ⟨0, rfl, Nat.zero_le _, rfl, rfl, HFE, HB0⟩
  case round =>
    obtain ⟨j, rfl, hj, rfl, rfl, HF, HB⟩ := hrel
    have j0 : (0 : Int) ≤ (j : Int) := by omega
    by_cases hjn : j < n
    · have dj : (j : Int) < (n : Int) := by omega
      obtain ⟨f, hx⟩ : ∃ f, l[j]? = some f := ⟨_, List.getElem?_eq_getElem (show j < l.length by have := HN.out; omega)⟩
      have HS := Lib.hid (scanF_succ (tb := rtb) (nm := rnm) hx)
      obtain ⟨hc1, -⟩ := scanF_le (l := l) (tb := rtb) (nm := rnm) j
      obtain ⟨b, off, rfl, hcs⟩ := fd_at HR.out hjn hx
      obtain ⟨c0, c1, c2, lb⟩ := hcs wr HB.out
      obtain ⟨q0, q1, q2, q3, q4, q5, q6, q7, lq⟩ := of_fe HF.out
      obtain ⟨p, hp⟩ : ∃ p, scanF l rtb rnm j = p := ⟨_, rfl⟩
      obtain ⟨F, C⟩ := p
      rw [hp] at HS hc1 ⊢
      dsimp only at HS hc1 ⊢
      clear hp
      obtain ⟨ftb, fnm, fk⟩ := f
      dsimp only at c0 c1 c2
      have s1 : IntKind.i64.wrap ((C : Int) + 1) = (C : Int) + 1 := Go.IntWalk.i64_in _ (by omega)
      have hb4 : Below wr.heap.size wr (wr.alloc (.cells #[.string ftb, .string fnm, .int .i64 fk] 61)) := (Below.refl _ _).alloc (Nat.le_refl _) _
      have HF4 := Lib.hid (HF.out.later hb4)
      have HB4 := Lib.hid (HB.out.trans (hb4.mono HB.out.size))
      clear hcs hx hb4
      by_cases e1 : fnm = rnm
      · subst e1
        have t1 := bytes_yes fnm
        by_cases e2 : rtb = ByteArray.empty
        · have HH : Hid (scanF l rtb fnm (j + 1) = (j, C + 1)) := Lib.hid (by rw [HS.out, if_pos (by unfold hitB; simp [e2])])
          have t2 : rtb.toList.isEmpty = true := by rw [e2, Lib.toList_data]; rfl
          have t3 : rtb.toList = [] := by rw [e2, Lib.toList_data]; rfl
          clear HS e2
          go_wp2_with fail
          go_roundw
          case rel => exact ⟨j + 1, by go_num, by omega, by rw [HH.out], by rw [HH.out]; simp, HF4, HB4⟩
          case measure => simp [intOf]; omega
        · have t2 := emp_no' e2
          have t3 := emp_no e2
          by_cases e3 : ftb = rtb
          · subst e3
            have HH : Hid (scanF l ftb fnm (j + 1) = (j, C + 1)) := Lib.hid (by rw [HS.out, if_pos (by unfold hitB; simp)])
            have t4 := bytes_yes ftb
            clear HS e2
            go_wp2_with fail
            go_roundw
            case rel => exact ⟨j + 1, by go_num, by omega, by rw [HH.out], by rw [HH.out]; simp, HF4, HB4⟩
            case measure => simp [intOf]; omega
          · have HH : Hid (scanF l rtb fnm (j + 1) = (F, C)) := Lib.hid (by rw [HS.out, if_neg (by unfold hitB; simp [e2, e3])])
            have t4 := bytes_no' e3
            clear HS e2 e3
            go_wp2_with fail
            go_roundw
            case rel => exact ⟨j + 1, by go_num, by omega, by rw [HH.out], by rw [HH.out], HF4, HB4⟩
            case measure => simp [intOf]; omega
      · have HH : Hid (scanF l rtb rnm (j + 1) = (F, C)) := Lib.hid (by rw [HS.out, if_neg (by unfold hitB; simp [e1])])
        have t1 := bytes_no' e1
        clear HS e1
        go_wp2_with fail
        go_roundw
        case rel => exact ⟨j + 1, by go_num, by omega, by rw [HH.out], by rw [HH.out], HF4, HB4⟩
        case measure => simp [intOf]; omega
    · have dj : ¬ (j : Int) < (n : Int) := by omega
      obtain rfl : j = n := by omega
      have HFF : Hid (findF l rtb rnm = if (scanF l rtb rnm j).2 = 0 then (0, 6) else if (scanF l rtb rnm j).2 = 1 then ((scanF l rtb rnm j).1, 0) else (0, 7)) := Lib.hid (by unfold findF; rw [HN.out])
      obtain ⟨p, hp⟩ : ∃ p, scanF l rtb rnm j = p := ⟨_, rfl⟩
      obtain ⟨F, C⟩ := p
      rw [hp] at HFF ⊢
      dsimp only at HFF ⊢
      clear hp
      by_cases h0 : C = 0
      · subst h0
        have HA : Hid (findF l rtb rnm = (0, 6)) := Lib.hid (by rw [HFF.out]; rfl)
        clear HFF
        go_wp2_with fail
        refine bodyPost_ret (results_tmp2 rfl _ _ _) rfl ?_
        exact ⟨by rw [HA.out]; rfl, HB.out⟩
      · by_cases h1 : C = 1
        · subst h1
          have HA : Hid (findF l rtb rnm = (F, 0)) := Lib.hid (by rw [HFF.out]; rfl)
          clear HFF h0
          go_wp2_with fail
          refine bodyPost_ret (results_tmp2 rfl _ _ _) rfl ?_
          exact ⟨by rw [HA.out]; rfl, HB.out⟩
        · have HA : Hid (findF l rtb rnm = (0, 7)) := Lib.hid (by rw [HFF.out, if_neg h0, if_neg h1])
          have b0 : ((C : Int) == 0) = false := by simp; omega
          have b1 : ((C : Int) == 1) = false := by simp; omega
          clear HFF h0 h1
          go_wp2_with fail
          refine bodyPost_ret (results_tmp2 rfl _ _ _) rfl ?_
          exact ⟨by rw [HA.out]; rfl, HB.out⟩
set_option maxRecDepth 100000 in
set_option maxHeartbeats 400000 in
theorem only_any (kd op : Int) (w : World) : Calls Try.prog 39 #[.int .i64 kd, .int .i64 op] w fun en w' => en = .returned (.tuple #[.int .i64 (onlyT kd op).1, .int .i64 (onlyT kd op).2]) ∧ w' = w := by
  unfold onlyT
  by_cases h0 : op = 0
  · subst h0
    rw [if_neg (by simp)]
    go_enter Try.func39, Try.ntmps39
    go_wp2_with fail
    refine bodyPost_ret (results_tmp2 rfl _ _ _) rfl ?_
    exact ⟨rfl, rfl⟩
  · by_cases h1 : op = kd
    · subst h1
      rw [if_neg (by simp)]
      have b0 : (op != 0) = true := by simpa using h0
      have b1 : (op != op) = false := by simp
      go_enter Try.func39, Try.ntmps39
      go_wp2_with fail
      refine bodyPost_ret (results_tmp2 rfl _ _ _) rfl ?_
      exact ⟨rfl, rfl⟩
    · rw [if_pos ⟨h0, h1⟩]
      have b0 : (op != 0) = true := by simpa using h0
      have b1 : (op != kd) = true := by simpa using h1
      go_enter Try.func39, Try.ntmps39
      go_wp2_with fail
      refine bodyPost_ret (results_tmp2 rfl _ _ _) rfl ?_
      exact ⟨rfl, rfl⟩
theorem result_any (op : Int) (w : World) : Calls Try.prog 38 #[.int .i64 op] w fun en w' => en = .returned (.int .i64 (resT op)) ∧ w' = w := by
  unfold resT
  by_cases h12 : op = 12
  · subst h12
    rw [if_pos rfl]
    go_enter Try.func38, Try.ntmps38
    go_wp2_with fail
    go_ret
    exact ⟨rfl, rfl⟩
  · rw [if_neg h12]
    have b0 : (op == 12) = false := by simpa using h12
    by_cases h7 : 7 ≤ op
    · have b1 : decide (7 ≤ op) = true := by simpa using h7
      by_cases h11 : op ≤ 11
      · rw [if_pos ⟨h7, h11⟩]
        have b2 : decide (op ≤ 11) = true := by simpa using h11
        go_enter Try.func38, Try.ntmps38
        go_wp2_with fail
        go_ret
        exact ⟨rfl, rfl⟩
      · rw [if_neg (by omega)]
        have b2 : decide (op ≤ 11) = false := by simpa using h11
        go_enter Try.func38, Try.ntmps38
        go_wp2_with fail
        go_ret
        exact ⟨rfl, rfl⟩
    · rw [if_neg (by omega)]
      have b1 : decide (7 ≤ op) = false := by simpa using h7
      go_enter Try.func38, Try.ntmps38
      go_wp2_with fail
      go_ret
      exact ⟨rfl, rfl⟩
end Go.Proofs.Ytjnlimahcodomaa.ck
