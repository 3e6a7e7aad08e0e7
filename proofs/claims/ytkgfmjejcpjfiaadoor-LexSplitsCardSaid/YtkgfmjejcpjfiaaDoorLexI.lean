/- The law LexNames, walked. -/
import Derived.Test.YtkgfmjejcpjfiaaDoorLexH
import Derived.OwnWalk
namespace Go.Proofs.YtkgfmjejcpjfiaaDoor.lx
set_option linter.unusedVariables false
open Go.RowKit
attribute [local go_sem high] run_min_keep

/-- what Split tells, in parts -/
def SplitR (F : Out) (W w' : World) (a : Option Addr) (n c : Nat) (i er : Int) : Prop := match F with
  | .bad p q => a = none ∧ n = 0 ∧ c = 0 ∧ i = (p : Int) ∧ er = (q : Int)
  | .ok ts => n = ts.length ∧ i = 0 ∧ er = 0 ∧ w'.ownsRow W.heap.size TK 4 (.slice a n c) n (tCells ts)
theorem split_parts (s : ByteArray) (hs : s.size ≤ 1099511627776) (W : World) (hS : Signs W) : Calls Tryd.prog 6 #[.string s] W fun e w' => ∃ (a : Option Addr) (n c : Nat) (i er : Int), e = .returned (.tuple #[.slice a n c, .int .i64 i, .int .i64 er]) ∧ Hid (SplitR (splitT s.data.toList) W w' a n c i er) ∧ Below W.heap.size W w' := by
  refine (split_any s hs W hS).mono ?_
  rintro e w' ⟨v, rfl, hb, hv⟩
  generalize splitT s.data.toList = F at *
  cases F with
  | bad p q =>
    obtain rfl := hv
    exact ⟨_, _, _, _, _, rfl, Lib.hid ⟨rfl, rfl, rfl, rfl, rfl⟩, hb⟩
  | ok ts =>
    obtain ⟨sv, rfl, ho⟩ := hv
    obtain ⟨a, c, rfl⟩ := owns_shape ho
    exact ⟨_, _, _, _, _, rfl, Lib.hid ⟨rfl, rfl, rfl, ho⟩, hb⟩
theorem run_eqlT (k : Int) (s : ByteArray) (n a k' : Int) (s' : ByteArray) (n' a' : Int) (w : World) : (binOp .eql TK (tkV k s n a) (tkV k' s' n' a')).run Tryd.prog w = .ok (.bool (k == k' && s.toList == s'.toList && n == n' && a == a')) w := by
  rw [run_eql_struct]
  go_simp
  by_cases h1 : k = k' <;> by_cases h2 : n = n' <;> by_cases h3 : s.toList = s'.toList <;> by_cases h4 : a = a' <;> simp [h1, h2, h3, h4]
attribute [local go_sem high] run_eqlT
def demo : List Tk := [⟨1, [97], 0, 0⟩, ⟨5, [60, 61], 0, 1⟩, ⟨3, [49], 1, 3⟩]
theorem split_demo : splitT [97, 60, 61, 49] = .ok demo := by
  unfold splitT
  rw [if_neg (by decide), split_tok _ 0 [] 1 [97] 0 0 (by decide) (by decide) (by decide), split_tok _ _ _ 5 [60, 61] 0 1 (by decide) (by decide) (by decide), split_tok _ _ _ 3 [49] 1 0 (by decide) (by decide) (by decide), split_end _ _ _ (by decide)]
  rfl
theorem owns_tk {W w' : World} {a : Option Addr} {n c : Nat} {xs : List Value} (h : w'.ownsRow W.heap.size TK 4 (.slice a n c) n xs) (h0 : 0 < n) : ∃ g, a = some ⟨g, 0, none⟩ ∧ g < w'.heap.size ∧ ∀ j, j < n * 4 → w'.cell? ⟨g, j, none⟩ = xs[j]? := by
  obtain ⟨g, rfl, -, hl, hc, -⟩ := owns_cellAt h h0
  exact ⟨g, rfl, hl, hc⟩
set_option maxRecDepth 100000 in
set_option maxHeartbeats 2000000 in
theorem speaks_any (W : World) (hS : Signs W) : Calls Tryd.prog 5 #[] W fun e w' => e = .returned (.bool true) ∧ Below W.heap.size W w' := by
  have h1 := split_parts ⟨#[97, 60, 61, 49]⟩ (by decide) W hS
  have e1 : splitT (⟨#[97, 60, 61, 49]⟩ : ByteArray).data.toList = .ok demo := split_demo
  rw [e1] at h1
  have H1 := Lib.hid h1
  have hg := fun W => good_any ⟨#[97, 95, 49]⟩ (by decide) W
  have e2 : goodL (⟨#[97, 95, 49]⟩ : ByteArray).data.toList = true := by decide
  rw [e2] at hg
  have HG := Lib.hid hg
  clear h1 hg e1 e2
  go_enter Tryd.func5, Tryd.ntmps5
  go_upto_region 2 with (go_at_call 6; (with_reducible refine (H1.out).mono ?_); rintro e w1 ⟨a, n, c, i, er, rfl, hr, hb⟩)
  obtain ⟨rfl, rfl, rfl, ho⟩ := hr.out
  obtain ⟨g, rfl, hl, hc⟩ := owns_tk ho (by decide)
  have c0 : w1.cell? ⟨g, 0, none⟩ = some (.int .i64 1) := hc 0 (by decide)
  have c1 : w1.cell? ⟨g, 1, none⟩ = some (.string ⟨#[97]⟩) := hc 1 (by decide)
  have c2 : w1.cell? ⟨g, 2, none⟩ = some (.int .i64 0) := hc 2 (by decide)
  have c3 : w1.cell? ⟨g, 3, none⟩ = some (.int .i64 0) := hc 3 (by decide)
  have c5 : w1.cell? ⟨g, 5, none⟩ = some (.string ⟨#[60, 61]⟩) := hc 5 (by decide)
  have c10 : w1.cell? ⟨g, 10, none⟩ = some (.int .i64 1) := hc 10 (by decide)
  have c11 : w1.cell? ⟨g, 11, none⟩ = some (.int .i64 3) := hc 11 (by decide)
  have hdl : demo.length = 3 := rfl
  clear ho hc hr
  rw [hdl]
  go_wp2_with (go_at_call 9; (with_reducible refine (HG.out _).mono ?_); rintro e w2 ⟨rfl, rfl⟩)
  go_ret
  exact ⟨rfl, hb⟩
/-- one token that is a name and says the text: a name -/
theorem one_iff (l : List UInt8) (ts : List Tk) (t : Tk) (h : splitT l = .ok ts) (h1 : ts = [t]) : goodL l = (decide (t.k = 1) && (t.s == l)) := by
  subst h1
  by_cases hg : goodL l = true
  · rw [good_one l hg] at h
    simp only [Out.ok.injEq, List.cons.injEq, and_true] at h
    rw [hg, ← h]; simp
  · have hg' : goodL l = false := by simpa using hg
    rw [hg']
    by_cases hk : t.k = 1
    · by_cases hs : t.s = l
      · exfalso
        obtain ⟨k, s, n, a⟩ := t
        simp only at hk hs
        subst hk hs
        exact hg (one_good _ _ _ h)
      · simp [hs]
    · simp [hk]
theorem not_one (l : List UInt8) (ts : List Tk) (h : splitT l = .ok ts) (h1 : ts.length ≠ 1) : goodL l = false := by
  cases hg : goodL l with
  | false => rfl
  | true => rw [good_one l hg] at h; cases h; exact absurd rfl h1
theorem not_bad (l : List UInt8) (i e : Nat) (h : splitT l = .bad i e) : goodL l = false := by
  cases hg : goodL l with
  | false => rfl
  | true => rw [good_one l hg] at h; cases h
theorem split_err (l : List UInt8) (i e : Nat) (h : splitT l = .bad i e) : e ≠ 0 := by
  unfold splitT at h
  split at h
  · cases h; decide
  · suffices H : ∀ (j : Nat) (ts : List Tk), splitL l j ts = .bad i e → e ≠ 0 from H 0 [] h
    intro j ts
    induction j, ts using splitL.induct (l := l) with
    | case1 j ts hi hb ih => intro h; rw [split_blank l j ts hi hb] at h; exact ih h
    | case2 j ts hi hb er hf => intro h; rw [split_bad l j ts er hi (by simpa using hb) hf] at h; cases h; have := first_bad _ _ hf; omega
    | case3 j ts hi hb k s n m hf ih => intro h; rw [split_tok l j ts k s n m hi (by simpa using hb) hf] at h; exact ih h
    | case4 j ts hi => intro h; rw [split_end l j ts (by omega)] at h; cases h
theorem bytes_eq (t : List UInt8) (s : ByteArray) : ((⟨t.toArray⟩ : ByteArray).toList == s.toList) = (t == s.data.toList) := by
  rw [ByteArray.toList_eq, ByteArray.toList_eq]
/-- a row of bytes being filled -/
def FillR (B g N k : Nat) (W : World) : Prop := ∃ xs, W.ownsRow B 5 1 (.slice (some ⟨g, 0, none⟩) N N) N xs ∧ ∀ j < k, xs[j]? = some (.int .u8 40)
theorem FillR.lt {B g N k : Nat} {W : World} (h : FillR B g N k W) : g < W.heap.size := by
  obtain ⟨xs, h, -⟩ := h
  exact (h.lt g rfl).2
theorem FillR.at {B g N k : Nat} {W : World} (h : FillR B g N k W) (hk : k < N) : (∃ u, W.cell? ⟨g, k, none⟩ = some u) ∧ W.frozen? ⟨g, k, none⟩ = false := by
  obtain ⟨xs, h, -⟩ := h
  have hl : xs.length = N := by simpa using h.1
  exact ⟨⟨xs[k], by rw [h.cellAt k (by omega), List.getElem?_eq_getElem (by omega)]⟩, h.frozenAt k⟩
theorem FillR.put {B g N k : Nat} {W : World} (h : FillR B g N k W) (hk : k < N) : FillR B g N (k + 1) (W.setCell ⟨g, k, none⟩ (.int .u8 40)) := by
  obtain ⟨xs, h, h1⟩ := h
  have hl : xs.length = N := by simpa using h.1
  refine ⟨xs.set k (.int .u8 40), (h.stored k _).1, fun j hj => ?_⟩
  by_cases e : j = k
  · subst e; rw [List.getElem?_set_self (by omega)]
  · rw [List.getElem?_set_ne (fun e' => e e'.symm)]; exact h1 j (by omega)
theorem FillR.text {B g N : Nat} {W : World} (h : FillR B g N N W) : (convert 36 9 (.slice (some ⟨g, 0, none⟩) N N)).run Tryd.prog W = .ok (.string ⟨(List.replicate N (40 : UInt8)).toArray⟩) W := by
  obtain ⟨xs, h, h1⟩ := h
  have := run_convert_bytes_back (P := Tryd.prog) W 36 9 5 ⟨g, 0, none⟩ N (List.replicate N (40 : UInt8)) Tryd.underlying36 Tryd.underlying5 Tryd.underlying9 (fun j hj => by
    rw [List.length_replicate] at hj
    have e : (⟨g, 0, none⟩ : Addr).add j = ⟨g, j, none⟩ := by unfold Addr.add; split <;> simp_all
    rw [e, h.cellAt j (by omega), h1 j hj, List.getElem_replicate]; rfl)
  rwa [List.length_replicate] at this
set_option maxRecDepth 100000 in
set_option maxHeartbeats 8000000 in
theorem names_walk (t : ByteArray) (ht : t.size ≤ 9223372036854775807) (n : Nat) (hn : n ≤ 65535) (W : World) (hS : Signs W) : Calls Tryd.prog 4 #[.string t, .int .u16 (n : Int)] W fun e w' => e = .returned (.bool true) ∧ Below W.heap.size W w' := by
  obtain ⟨i0, hi, hz0, hz1, hz2⟩ := info_parts infoByte
  have HSP := Lib.hid (speaks_any W hS)
  have HS := Lib.hid hS
  have hmn0 : 0 ≤ min (t.size : Int) 30 := by omega
  have hmn1 : min (t.size : Int) 30 ≤ t.size := by omega
  have hn0 : (0 : Int) ≤ (n : Int) := by omega
  have hn1 : (n : Int) ≤ 65535 := by omega
  obtain ⟨N, hN⟩ : ∃ N : Nat, n % 4000 = N := ⟨_, rfl⟩
  have hNt : (n : Int).tmod 4000 = (N : Int) := by rw [← hN]; rfl
  have hN0 : (0 : Int) ≤ (N : Int) := by omega
  have hN1 : (N : Int) < 4000 := by omega
  clear hS hN
  go_enter Tryd.func4, Tryd.ntmps4
  go_upto_region 4 with (go_at_call 5; (with_reducible refine (HSP.out).mono ?_); rintro e w1 ⟨rfl, hb1⟩; have HB1 := Lib.hid hb1; clear hb1)
  have hsz : (t.extract 0 (min (t.size : Int) 30).toNat).size ≤ 30 := by rw [ByteArray.size_extract]; omega
  generalize t.extract 0 (min (t.size : Int) 30).toNat = s at *
  have HG := Lib.hid (fun W => good_any s (by omega) W)
  have HRG := Lib.hid (fun W => rgood_any s (by omega) W)
  have HSPL := Lib.hid (split_parts s (by omega) w1 (HS.out.later HB1.out))
  obtain ⟨F, hF⟩ : ∃ F, splitT s.data.toList = F := ⟨_, rfl⟩
  obtain ⟨G, hG⟩ : ∃ G, goodL s.data.toList = G := ⟨_, rfl⟩
  rw [hF] at HSPL
  rw [hG] at HG HRG
  have HFF := Lib.hid hF
  have HGG := Lib.hid hG
  clear hF hG
  go_upto_region 6 with (first | (go_at_call 9; (with_reducible refine (HG.out _).mono ?_); rintro e w2 ⟨rfl, rfl⟩) | (go_at_call 6; (with_reducible refine (HSPL.out).mono ?_); rintro e w3 ⟨a, len, c, i, er, rfl, hr, hb3⟩; have HB3 := Lib.hid (HB1.out.trans (hb3.mono HB1.out.size)); clear hb3))
  go_cut [9] from 9 to 116 (fun one wx => one = .bool G ∧ wx = w3)
  case first =>
    cases F with
    | bad p q =>
      obtain ⟨rfl, rfl, rfl, rfl, rfl⟩ := hr.out
      have hq := split_err _ _ _ HFF.out
      have e : ((q : Int) == 0) = false := by simp; omega
      have hg := not_bad _ _ _ HFF.out
      rw [HGG.out] at hg
      subst hg
      go_wp2_with fail
      go_meet
      exact ⟨rfl, rfl⟩
    | ok ts =>
      obtain ⟨rfl, rfl, rfl, ho⟩ := hr.out
      by_cases h1 : ts.length = 1
      · obtain ⟨tk, rfl⟩ := List.length_eq_one_iff.1 h1
        have hg := one_iff _ _ tk HFF.out rfl
        rw [HGG.out] at hg
        obtain ⟨g, rfl, hl, hc⟩ := owns_tk ho (by simp)
        have c0 : w3.cell? ⟨g, 0, none⟩ = some (.int .i64 (tk.k : Int)) := hc 0 (by simp)
        have c1 : w3.cell? ⟨g, 1, none⟩ = some (.string ⟨tk.s.toArray⟩) := hc 1 (by simp)
        have el : [tk].length = 1 := rfl
        rw [el]
        clear ho hc hr h1 el
        by_cases hk : tk.k = 1
        · have e : ((tk.k : Int) == 1) = true := by simp [hk]
          have hg2 : G = (tk.s == s.data.toList) := by rw [hg]; simp [hk]
          have hbe : (tk.s == s.toList) = G := by rw [ByteArray.toList_eq]; exact hg2.symm
          clear hg hg2 hk
          go_wp2_with fail
          go_meet
          exact ⟨by first | rfl | rw [hbe], rfl⟩
        · have e : ((tk.k : Int) == 1) = false := by simp; omega
          have hg2 : G = false := by rw [hg]; simp [hk]
          subst hg2
          clear hg hk
          go_wp2_with fail
          go_meet
          exact ⟨rfl, rfl⟩
      · have hg := not_one _ _ HFF.out h1
        rw [HGG.out] at hg
        subst hg
        have e : ((ts.length : Int) == 1) = false := by simp; omega
        clear ho hr h1
        go_wp2_with fail
        go_meet
        exact ⟨rfl, rfl⟩
  case rest =>
    obtain ⟨rfl, rfl⟩ := hcut
    clear hr HSPL HFF HG
    go_wp2_with (at_make; refine wpList_make_full _ rfl _ _ 36 rfl W.heap.size 5 i0 (.int .u8 0) 1 Tryd.underlying36 hi hz0 hz1 .i64 .i64 _ _ N rfl rfl (by first | rfl | exact hNt) (by first | rfl | exact hNt) (by rw [hz2]; omega) (by unfold maxLen; omega) HB3.out.size ?_; intro w4 hown4 hgrow4)
    have HB4 := Lib.hid (HB3.out.grown hgrow4 HB3.out.size (fun k hk => by simp at hk))
    have HFI : Hid (FillR W.heap.size wc.heap.size N 0 w4) := Lib.hid ⟨_, hown4, fun j hj => by omega⟩
    generalize wc.heap.size = g at *
    clear hown4 hgrow4
    go_loopw [11] (fun i wr => ∃ k : Nat, i = .int .i64 (k : Int) ∧ k ≤ N ∧ Hid (FillR W.heap.size g N k wr) ∧ Hid (Below W.heap.size W wr)) (fun i _ => N - (intOf i).toNat)
    case atStart => exact ⟨0, rfl, Nat.zero_le _, HFI, HB4⟩
    case round =>
      obtain ⟨k, rfl, hk, HR, HB⟩ := hrel
      have hd0 : (0 : Int) ≤ (k : Int) := by omega
      have hgl := HR.out.lt
      by_cases hz : k < N
      · have dz : (k : Int) < (N : Int) := by omega
        obtain ⟨⟨u, hu⟩, hfz⟩ := HR.out.at hz
        have HB2 := Lib.hid (HB.out.setCell (p := ⟨g, k, none⟩) (by obtain ⟨xs, h, -⟩ := HR.out; exact (h.lt g rfl).1) (.int .u8 40))
        have HR2 := Lib.hid (HR.out.put hz)
        go_wp2_with fail
        go_roundw
        case rel => exact ⟨k + 1, by go_num, by omega, HR2, HB2⟩
        case measure => simp [intOf]; omega
      · have dz : ¬ (k : Int) < (N : Int) := by omega
        obtain rfl : k = N := by omega
        have hcv := HR.out.text
        have hS2 := split_parts ⟨(List.replicate k (40 : UInt8)).toArray⟩ (by show (List.replicate k (40 : UInt8)).toArray.size ≤ _; rw [List.size_toArray, List.length_replicate]; omega) wr (HS.out.later HB.out)
        have hSd : (⟨(List.replicate k (40 : UInt8)).toArray⟩ : ByteArray).data.toList = List.replicate k 40 := rfl
        rw [hSd] at hS2
        generalize (⟨(List.replicate k (40 : UInt8)).toArray⟩ : ByteArray) = S at *
        have HS2 := Lib.hid hS2
        clear hS2 hSd
        by_cases hb : 2000 < k
        · have db : (2000 : Int) < (k : Int) := by omega
          rw [splitT_long _ (by rw [List.length_replicate]; exact hb)] at HS2
          go_wp2_with (first | (go_at_call 6; (with_reducible refine (HS2.out).mono ?_); rintro e w6 ⟨a6, len6, c6, i6, er6, rfl, hr6, hb6⟩; obtain ⟨rfl, rfl, rfl, rfl, rfl⟩ := hr6.out; have HB6 := Lib.hid (HB.out.trans (hb6.mono HB.out.size)); clear hb6 hr6) | (go_at_call 10; (with_reducible refine (HRG.out _).mono ?_); rintro e w7 ⟨rfl, rfl⟩))
          go_ret
          exact ⟨by cases G <;> rfl, HB6.out⟩
        · have db : ¬ (2000 : Int) < (k : Int) := by omega
          obtain ⟨us, hu1, hu2⟩ := splitT_brackets k (by omega)
          rw [hu1] at HS2
          have HU2 := Lib.hid hu2
          clear hu1 hu2
          go_wp2_with (first | (go_at_call 6; (with_reducible refine (HS2.out).mono ?_); rintro e w6 ⟨a6, len6, c6, i6, er6, rfl, hr6, hb6⟩; obtain ⟨hlen, rfl, rfl, -⟩ := hr6.out; obtain rfl : len6 = k := hlen.trans HU2.out; clear hlen HU2; have HB6 := Lib.hid (HB.out.trans (hb6.mono HB.out.size)); clear hb6 hr6) | (go_at_call 10; (with_reducible refine (HRG.out _).mono ?_); rintro e w7 ⟨rfl, rfl⟩))
          go_ret
          exact ⟨by cases G <;> rfl, HB6.out⟩
theorem names_any (t : ByteArray) (ht : t.size ≤ maxLen) (n : Int) (hn : 0 ≤ n ∧ n ≤ 65535) (W : World) (hS : Signs W) : Calls Tryd.prog 4 #[.string t, .int .u16 n] W fun e w' => e = .returned (.bool true) ∧ Below W.heap.size W w' := by
  obtain ⟨m, rfl⟩ : ∃ m : Nat, n = (m : Int) := ⟨n.toNat, by omega⟩
  exact names_walk t (by unfold maxLen at ht; omega) m (by omega) W hS
end Go.Proofs.YtkgfmjejcpjfiaaDoor.lx
