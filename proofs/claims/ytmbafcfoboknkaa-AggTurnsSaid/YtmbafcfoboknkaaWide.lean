/- Wide numbers: each call of the package, at whatever number. -/
import Derived.Test.YtmbafcfoboknkaaRows
import Derived.Test.YtmbafcfoboknkaaOnly
import Derived.Test.YtmbafcfoboknkaaBytes
import Derived.WalkLawsBesides
import Derived.Laws.Externs
import Derived.Deep.QuietTactic
import Derived.BigQuiet
import Derived.Deep.RegionHeld3
import Derived.Deep.DrawnRows
import Derived.Deep.DeepCutAuto
import Derived.Outline
namespace Go.Proofs.Ytmbafcfoboknkaa.wide
set_option linter.unusedVariables false
open Go.RowKit
attribute [local go_sem ↓] Go.wp_at_zero Go.wp_at_succ
abbrev TW : TypeId := 69
/-- the upper and the lower half of an integer, as a wide number has them -/
def hiW (v : Int) : Int := wrap64 (v / 18446744073709551616)
def loW (v : Int) : Int := v % 18446744073709551616
def enc (v : Int) : List Value := [.int .i64 (hiW v), .int .u64 (loW v)]
abbrev agg (v : Int) : Value := .agg #[.int .i64 (hiW v), .int .u64 (loW v)]
def cells (l : List Int) : List Value := l.flatMap enc
theorem enc_zero : enc 0 = [.int .i64 0, .int .u64 0] := by simp [enc, hiW, loW, wrap64]
theorem cells_at : ∀ (l : List Int) (i : Nat) (p : Int), l[i]? = some p → (cells l)[i * 2]? = some (.int .i64 (hiW p)) ∧ (cells l)[i * 2 + 1]? = some (.int .u64 (loW p))
  | [], i, p, h => by simp at h
  | q :: l, 0, p, h => by simp at h; subst h; exact ⟨rfl, rfl⟩
  | q :: l, i + 1, p, h => by
    have ih := cells_at l i p (by simpa using h)
    have e : cells (q :: l) = enc q ++ cells l := by simp [cells]
    have el : (enc q).length = 2 := rfl
    rw [e, List.getElem?_append_right (by omega), List.getElem?_append_right (by omega), el, show (i + 1) * 2 - 2 = i * 2 by omega, show (i + 1) * 2 + 1 - 2 = i * 2 + 1 by omega]
    exact ih
theorem loW_bd (v : Int) : 0 ≤ loW v ∧ loW v < 18446744073709551616 := by unfold loW; omega
theorem wrap64_eq (x : Int) : wrap64 x = (x + 9223372036854775808) % 18446744073709551616 - 9223372036854775808 := by
  unfold wrap64; omega
theorem hiW_bd (v : Int) : -9223372036854775808 ≤ hiW v ∧ hiW v ≤ 9223372036854775807 := by unfold hiW; rw [wrap64_eq]; omega
theorem add64 (x y : Int) (hx : 0 ≤ x) (hy : 0 ≤ y) (w : World) : (callFunc 75 #[.int .u64 x, .int .u64 y, .int .u64 0]).run Try.prog w =
    .ok (.value (.tuple #[.int .u64 ((x + y) % 18446744073709551616), .int .u64 ((x + y) / 18446744073709551616)])) w := by
  have h := run_callFunc_extern (P := Try.prog) (f := 75) (e := add64Entry) Try.func75 (by kernel_rfl) (by kernel_rfl) (by kernel_rfl) (by kernel_rfl) #[.int .u64 x, .int .u64 y, .int .u64 0] w
  rw [h, run_add64 x y 0 hx hy (Int.le_refl _) (by decide) w, Int.add_zero]
  rfl
theorem plus_lo (a b : Int) : (loW a + loW b) % 18446744073709551616 = loW (a + b) := by unfold loW; omega
theorem plus_hi (a b : Int) : wrap64 (wrap64 (hiW a + hiW b) + (loW a + loW b) / 18446744073709551616) = hiW (a + b) := by
  unfold hiW loW; simp only [wrap64_eq]; omega
theorem of_hi (n : Int) (hn : -9223372036854775808 ≤ n ∧ n ≤ 9223372036854775807) : n / 9223372036854775808 = hiW n := by unfold hiW; rw [wrap64_eq]; omega
theorem of_lo (n : Int) : IntKind.u64.wrap n = loW n := by unfold loW; rw [IntKind.wrap_u64]
theorem of_agg (n : Int) (hn : -9223372036854775808 ≤ n ∧ n ≤ 9223372036854775807) : Value.agg #[.int .i64 (n / 9223372036854775808), .int .u64 (IntKind.u64.wrap n)] = agg n := by rw [of_hi n hn, of_lo]
theorem of_any (n : Int) (w : World) (hn : -9223372036854775808 ≤ n ∧ n ≤ 9223372036854775807) :
    Calls Try.prog 41 #[.int .i64 n] w fun e w' => e = .returned (agg n) ∧ Below w.heap.size w w' := by
  have HA := Lib.hid (of_agg n hn)
  go_enter Try.func41, Try.ntmps41
  go_wp2
  refine bodyPost_ret (v := .agg #[.int .i64 (n / 9223372036854775808), .int .u64 (IntKind.u64.wrap n)]) (by simp [results, Try.results41, go_sem]) rfl ⟨by rw [HA.out], ?_⟩
  exact (Below.refl _ _).alloc (Nat.le_refl _) _
theorem sum_take (l : List Int) (k : Nat) (x : Int) (h : l[k]? = some x) : (l.take (k + 1)).sum = (l.take k).sum + x := by
  obtain ⟨hl, e⟩ := List.getElem?_eq_some_iff.1 h
  rw [List.take_succ_eq_append_getElem hl, List.sum_append, e]; simp
set_option maxHeartbeats 1000000 in
theorem plus_any (a : Option Addr) (cap : Nat) (l : List Int) (w : World) (hr : Row w (.slice a l.length cap) 2 l.length (cells l)) (hm : l.length ≤ 9223372036854775807) :
    Calls Try.prog 61 #[.slice a l.length cap] w fun e w' => e = .returned (agg l.sum) ∧ Below w.heap.size w w' := by
  have HR := Lib.hid hr
  have hadd := add64
  have hmi : (l.length : Int) ≤ 9223372036854775807 := by omega
  have hlo : (0 : Int) ≤ (l.length : Int) := by omega
  clear hr
  go_enter Try.func61, Try.ntmps61
  go_wp2
  have hB0 : Below w.heap.size w ((w.alloc (.cells #[.int .i64 0, .int .u64 0] 69)).alloc (.cells #[.int .i64 0, .int .u64 0] 69)) := ((Below.refl _ _).alloc (Nat.le_refl _) _).alloc (by simp) _
  have hF1 : Flds ((w.alloc (.cells #[.int .i64 0, .int .u64 0] 69)).alloc (.cells #[.int .i64 0, .int .u64 0] 69)) (w.heap.size + 1) TW [.int .i64 0, .int .u64 0] := by
    have := Flds.new (w.alloc (.cells #[.int .i64 0, .int .u64 0] 69)) TW [.int .i64 0, .int .u64 0]
    rw [World.size_alloc] at this; exact this
  have hF0 : Flds ((w.alloc (.cells #[.int .i64 0, .int .u64 0] 69)).alloc (.cells #[.int .i64 0, .int .u64 0] 69)) w.heap.size TW [.int .i64 0, .int .u64 0] := (Flds.new w TW [.int .i64 0, .int .u64 0]).alloc _
  go_loopw [10] (fun i wr => ∃ k : Nat, k ≤ l.length ∧ i = .int .i64 k ∧ Flds wr (w.heap.size + 1) TW (enc (l.take k).sum) ∧ Flds wr w.heap.size TW [.int .i64 0, .int .u64 0] ∧ Below w.heap.size w wr) (fun i _ => l.length - (intOf i).toNat)
  case atStart => exact ⟨0, Nat.zero_le _, rfl, by rw [List.take_zero, List.sum_nil, enc_zero]; exact hF1, hF0, hB0⟩
  case round =>
    obtain ⟨k, hk, rfl, h1, h0, hB⟩ := hrel
    clear hF1 hF0 hB0
    have hd0 : (0 : Int) ≤ (k : Int) := by omega
    have HB := Lib.hid hB; have H0 := Lib.hid h0; have H1 := Lib.hid h1
    have z1 := h1.lt
    have y0 := h1.cell 0; have y1 := h1.cell 1; have q0 := h1.frozen 0; have q1 := h1.frozen 1
    simp only [enc, List.getElem?_cons_zero, List.getElem?_cons_succ] at y0 y1
    have t0 := h0.cell 0; have t1 := h0.cell 1; have p0 := h0.frozen 0; have p1 := h0.frozen 1
    simp only [List.getElem?_cons_zero, List.getElem?_cons_succ] at t0 t1
    obtain ⟨S, hS⟩ : ∃ S, S = (l.take k).sum := ⟨_, rfl⟩
    rw [← hS] at y0 y1
    have HS := Lib.hid hS
    have hl1 := loW_bd S
    by_cases hlt : k < l.length
    · have hd1 : (k : Int) < (l.length : Int) := by omega
      obtain ⟨b, off, cap', ea, hc⟩ := (HR.out.later hB).pos (by omega)
      simp only [Value.slice.injEq] at ea
      obtain ⟨rfl, -, rfl⟩ := ea
      have hu := List.getElem?_eq_getElem hlt
      obtain ⟨ca, cb⟩ := cells_at l k _ hu
      have ga := (hc (k * 2) (by omega)).trans ca
      have gb := (hc (k * 2 + 1) (by omega)).trans cb
      rw [← Nat.add_assoc] at gb
      have HT := Lib.hid (sum_take l k _ hu)
      generalize l[k] = x at ga gb HT
      have hl2 := loW_bd x
      have HL := Lib.hid (plus_lo S x)
      have HH := Lib.hid (plus_hi S x)
      obtain ⟨X, hX⟩ : ∃ X, loW x = X := ⟨_, rfl⟩
      obtain ⟨Y, hY⟩ : ∃ Y, loW S = Y := ⟨_, rfl⟩
      obtain ⟨X1, hX1⟩ : ∃ X, hiW x = X := ⟨_, rfl⟩
      obtain ⟨Y1, hY1⟩ : ∃ Y, hiW S = Y := ⟨_, rfl⟩
      rw [hX] at gb hl2 HL HH; rw [hY] at y1 hl1 HL HH; rw [hX1] at ga HH; rw [hY1] at y0 HH
      clear hX hY hX1 hY1 ca cb hu hc hS h1 h0 hB
      go_wp2
      go_roundw
      case rel =>
        refine ⟨k + 1, by omega, by go_num, ?_, (((H0.out.other _ _ (by simp)).other _ _ (by simp)).alloc _), (((HB.out.setCell (p := ⟨w.heap.size + 1, 0, none⟩) (by simp) _).setCell (p := ⟨w.heap.size + 1, 1, none⟩) (by simp) _).alloc (by simp; omega) _)⟩
        have := ((H1.out.set 0 (.int .i64 (hiW (S + x)))).set 1 (.int .u64 (loW (S + x)))).alloc (.cells #[.int .i64 X1, .int .u64 X] 69)
        rw [HT.out, ← HS.out, HH.out, HL.out]
        exact this
      case measure => simp [intOf]; omega
    · obtain rfl : k = l.length := by omega
      rw [List.take_length] at HS H1
      clear hS h1 h0 hB
      go_wp2
      refine bodyPost_ret (v := .agg #[.int .i64 (hiW S), .int .u64 (loW S)]) (by simp [results, Try.results61, go_sem, t0, t1]) rfl ⟨by rw [HS.out], ?_⟩
      exact ((HB.out.setCell (p := ⟨w.heap.size, 0, none⟩) (by simp) _).setCell (p := ⟨w.heap.size, 1, none⟩) (by simp) _)
set_option maxRecDepth 10000 in
theorem eqW (a b c d : Int) (w : World) : (Op.equalIn 10000 69 (.agg #[.int .i64 a, .int .u64 b]) (.agg #[.int .i64 c, .int .u64 d])).run Try.prog w = .ok (a == c && b == d) w := by
  have hf : Try.prog.underlying 69 = some (.struct (Try.prog.fieldsOf 69)) := by kernel_rfl
  have hs : Try.prog.stoodInHeld 69 = false := by kernel_rfl
  rw [show (10000 : Nat) = 9999 + 1 from rfl, run_equalIn_struct w 9999 _ _ _ hf hs]
  simp only [Program.fieldsOf, Try.underlying69, Op.eqFields]
  rw [show (9999 : Nat) = 9998 + 1 from rfl]
  simp [go_sem, part, run_equalIn_int]
  by_cases h1 : a = c <;> by_cases h2 : b = d <;> simp [h1, h2]
theorem run_eqlW (a b c d : Int) (w : World) : (binOp .eql 69 (.agg #[.int .i64 a, .int .u64 b]) (.agg #[.int .i64 c, .int .u64 d])).run Try.prog w = .ok (.bool (a == c && b == d)) w := by
  rw [run_eql_struct, eqW]; rfl
theorem run_neqW (a b c d : Int) (w : World) : (binOp .neq 69 (.agg #[.int .i64 a, .int .u64 b]) (.agg #[.int .i64 c, .int .u64 d])).run Try.prog w = .ok (.bool (!(a == c && b == d))) w := by
  rw [run_neq_struct, eqW]; rfl
attribute [local go_sem high] run_eqlW run_neqW
theorem keep2 {w W W' : World} {p q : Addr} {a b : Value} (hh : W.cell? p = some a ∧ W.cell? q = some b ∧ Below w.heap.size w W) (hb : Below W.heap.size W W') : W'.cell? p = some a ∧ W'.cell? q = some b ∧ Below w.heap.size w W' :=
  ⟨cell_later hb hh.1, cell_later hb hh.2.1, hh.2.2.trans (hb.mono hh.2.2.size)⟩
/-- the int64 of a wide number -/
def isInt (h l : Int) : Bool := h == hiW (wrap64 l) && l == loW (wrap64 l)
set_option maxHeartbeats 400000 in
theorem int_any (h l : Int) (hl : 0 ≤ l ∧ l < 18446744073709551616) (w : World) :
    Calls Try.prog 62 #[.agg #[.int .i64 h, .int .u64 l]] w fun e w' => e = .returned (.tuple #[.int .i64 (if isInt h l then wrap64 l else 0), .bool (isInt h l)]) ∧ Below w.heap.size w w' := by
  have hn : -9223372036854775808 ≤ wrap64 l ∧ wrap64 l ≤ 9223372036854775807 := by rw [wrap64_eq]; omega
  have HC := fun W => of_any (wrap64 l) W hn
  have HCH := Lib.hid HC
  obtain ⟨p, hp⟩ : ∃ p, (h == hiW (wrap64 l)) = p := ⟨_, rfl⟩
  obtain ⟨q, hq⟩ : ∃ q, (l == loW (wrap64 l)) = q := ⟨_, rfl⟩
  have hI : isInt h l = (p && q) := by unfold isInt; rw [hp, hq]
  rw [hI]
  have HNN := Lib.hid hn
  clear hn hI HC
  cases p <;> cases q
  all_goals
    go_enter Try.func62, Try.ntmps62
    go_wp2
    go_region_held3 (fun W => W.cell? ⟨w.heap.size, 0, none⟩ = some (.int .i64 h) ∧ W.cell? ⟨w.heap.size, 1, none⟩ = some (.int .u64 l) ∧ Below w.heap.size w W)
      (first | exact ⟨cells_new w [_, _] _ 0, cells_new w [_, _] _ 1, ((Below.refl _ _).alloc (Nat.le_refl _) _).drew⟩ | exact keep2 (by assumption) hb')
      (first | (go_at_call 41; refine (HCH.out _).mono ?_; rintro e w' ⟨rfl, hb'⟩))
    go_wp2
    go_ret2
    exact ⟨rfl, And.right (And.right (by assumption))⟩
def be8I (u : Int) : List Int := [u / 72057594037927936 % 256, u / 281474976710656 % 256, u / 1099511627776 % 256, u / 4294967296 % 256, u / 16777216 % 256, u / 65536 % 256, u / 256 % 256, u % 256]
theorem digit_eq (u k m : Nat) (h : 256 ^ k = m) : UInt8.ofNat ((u : Int) / (m : Int) % 256).toNat = UInt8.ofNat (u / 256 ^ k % 256) := by
  rw [h, show ((u : Int) / (m : Int) % 256) = ((u / m % 256 : Nat) : Int) by rw [Int.natCast_emod, Int.natCast_ediv]; rfl, Int.toNat_natCast]
theorem be8I_eq (u : Nat) : strOfNums (be8I (u : Int)) = ⟨(beD 8 u).toArray⟩ := by
  have e : (be8I (u : Int)).map (fun n => UInt8.ofNat n.toNat) = beD 8 u := by
    rw [beD_cons, beD_cons, beD_cons, beD_cons, beD_cons, beD_cons, beD_cons, beD_cons, beD,
      ← digit_eq u 7 72057594037927936 rfl, ← digit_eq u 6 281474976710656 rfl, ← digit_eq u 5 1099511627776 rfl, ← digit_eq u 4 4294967296 rfl, ← digit_eq u 3 16777216 rfl, ← digit_eq u 2 65536 rfl, ← digit_eq u 1 256 rfl]
    have h0 : UInt8.ofNat ((u : Int) % 256).toNat = UInt8.ofNat (u / 256 ^ 0 % 256) := by
      rw [show ((u : Int) % 256) = ((u % 256 : Nat) : Int) by rw [Int.natCast_emod]; rfl, Int.toNat_natCast, Nat.pow_zero, Nat.div_one]
    rw [← h0]
    rfl
  unfold strOfNums
  rw [e]
theorem run_convert16 (w : World) (a0 a1 a2 a3 a4 a5 a6 a7 b0 b1 b2 b3 b4 b5 b6 b7 : Int) :
    (convert 23 9 (.slice (some ⟨w.heap.size, 0, none⟩) 16 16)).run Try.prog (w.alloc (.cells #[.int .u8 a0, .int .u8 a1, .int .u8 a2, .int .u8 a3, .int .u8 a4, .int .u8 a5, .int .u8 a6, .int .u8 a7, .int .u8 b0, .int .u8 b1, .int .u8 b2, .int .u8 b3, .int .u8 b4, .int .u8 b5, .int .u8 b6, .int .u8 b7] 139)) = .ok (.string (strOfNums [a0, a1, a2, a3, a4, a5, a6, a7, b0, b1, b2, b3, b4, b5, b6, b7])) (w.alloc (.cells #[.int .u8 a0, .int .u8 a1, .int .u8 a2, .int .u8 a3, .int .u8 a4, .int .u8 a5, .int .u8 a6, .int .u8 a7, .int .u8 b0, .int .u8 b1, .int .u8 b2, .int .u8 b3, .int .u8 b4, .int .u8 b5, .int .u8 b6, .int .u8 b7] 139)) :=
  run_convert_block w _ _ _ 139 Try.underlying23 Try.underlying5 Try.underlying9 [a0, a1, a2, a3, a4, a5, a6, a7, b0, b1, b2, b3, b4, b5, b6, b7] 16
set_option maxRecDepth 10000 in
set_option maxHeartbeats 1000000 in
theorem key_raw (h l : Int) (hl : 0 ≤ l ∧ l < 18446744073709551616) (w : World) :
    Calls Try.prog 52 #[.agg #[.int .i64 h, .int .u64 l]] w fun e w' => e = .returned (.string (strOfNums (be8I (IntKind.u64.wrap h) ++ be8I l))) ∧ Below w.heap.size w w' := by
  have hcv := run_convert16 (w.alloc (.cells #[.int .i64 h, .int .u64 l] 69))
  rw [World.size_alloc] at hcv
  go_enter Try.func52, Try.ntmps52
  go_wp2
  refine wp_loop_rounds 9 ?_
  iterate 9
    rw [rounds_succ]
    go_wp2
  go_ret
  have ht : be8I l = [l / 72057594037927936, l / 281474976710656 % 256, l / 1099511627776 % 256, l / 4294967296 % 256, l / 16777216 % 256, l / 65536 % 256, l / 256 % 256, l % 256] := by
    unfold be8I; congr 1; omega
  exact ⟨ret_str (by rw [ht]; rfl), ((Below.refl _ _).alloc (Nat.le_refl _) _).alloc (by simp) _⟩
theorem half (l : List UInt8) (hl : l.length = 8) : (strOfNums (be8I (beVal l : Int))).data.toList = l := by
  rw [be8I_eq]; show (beD 8 (beVal l)).toArray.toList = l
  rw [← hl, beD_beVal]
end Go.Proofs.Ytmbafcfoboknkaa.wide
