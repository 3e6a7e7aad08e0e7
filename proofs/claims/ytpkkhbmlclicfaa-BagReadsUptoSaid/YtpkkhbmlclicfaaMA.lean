/- Values of SQL as plain mathematics: what operators do, by two texts, which agree. No program. -/
import Derived.WalkKit
import Derived.Laws.BitsLemmas
import Derived.Laws.StructEq
import Derived.Test.YtpkkhbmlclicfaaRows
import Derived.Test.YtpkkhbmlclicfaaShelf
import Derived.WalkSpells
import Derived.Lib.Strings
import Derived.Lib.Builder
import Derived.Lib.AppendStr
import Derived.Laws.Externs
import Derived.Laws.BytesArg
import Derived.Lib.Hide
import Derived.Below
import Derived.Laws.BitsAllLaws
import Derived.WalkLawsBesides
import Derived.Deep.QuietTactic
import Derived.BigQuiet
import Derived.WalkSmall
import Derived.Deep.RegionHeld3
import Derived.Deep.RegionWith
import Derived.Lib.IndexBytes
namespace Go.Proofs.Ytpkkhbmlclicfaa.val
set_option linter.unusedVariables false
/-- a value: its kind, its number, its text -/
structure V where
  k : Int
  n : Int
  s : ByteArray
def null : V := ⟨0, 0, ByteArray.empty⟩
def ofB (b : Bool) : V := if b then ⟨1, 1, ByteArray.empty⟩ else ⟨1, 0, ByteArray.empty⟩
def ofN (n : Int) : V := ⟨2, n, ByteArray.empty⟩
/-- are both the same? -/
def veq6 (k n : Int) (s : ByteArray) (k' n' : Int) (s' : ByteArray) : Bool := k == k' && (n == n' && s.toList == s'.toList)
abbrev veq (a b : V) : Bool := veq6 a.k a.n a.s b.k b.n b.s
theorem bytes_ext {a b : ByteArray} (h : a.toList = b.toList) : a = b := by
  rw [ByteArray.toList_eq, ByteArray.toList_eq] at h
  cases a; cases b; simp at h; simp [h]
theorem veq_iff (a b : V) : veq a b = true ↔ a = b := by
  cases a; cases b
  simp only [veq6, Bool.and_eq_true, beq_iff_eq, V.mk.injEq]
  constructor
  · rintro ⟨h1, h2, h3⟩; exact ⟨h1, h2, bytes_ext h3⟩
  · rintro ⟨h1, h2, h3⟩; exact ⟨h1, h2, by rw [h3]⟩
theorem veq_self (a : V) : veq a a = true := (veq_iff a a).2 rfl
theorem veq_false (a b : V) : veq a b = false ↔ a ≠ b := by rw [← Bool.not_eq_true, veq_iff]
/-- does a value stand ahead of another one? -/
def less (a b : V) : Bool := if a.k = b.k then (if a.k = 3 then Op.bytesLess a.s.toList b.s.toList else decide (a.n < b.n)) else decide (a.k < b.k)
/-- a value that may be -/
def Good (v : V) : Prop := (v.k = 0 ∧ v.n = 0 ∧ v.s = ByteArray.empty) ∨ (v.k = 1 ∧ (v.n = 0 ∨ v.n = 1) ∧ v.s = ByteArray.empty) ∨ (v.k = 2 ∧ v.s = ByteArray.empty ∧ -9223372036854775808 ≤ v.n ∧ v.n ≤ 9223372036854775807) ∨ (v.k = 3 ∧ v.n = 0 ∧ v.s.size ≤ 64)
theorem bl_irrefl : ∀ x : List UInt8, Op.bytesLess x x = false
  | [] => rfl
  | a :: x => by simp [Op.bytesLess, bl_irrefl x]
theorem bl_total : ∀ x y : List UInt8, Op.bytesLess x y = false → Op.bytesLess y x = false → x = y
  | [], [], _, _ => rfl
  | [], b :: y, h, _ => by simp [Op.bytesLess] at h
  | a :: x, [], _, h => by simp [Op.bytesLess] at h
  | a :: x, b :: y, h1, h2 => by
    simp only [Op.bytesLess] at h1 h2
    by_cases e : a = b
    · subst e
      simp at h1 h2
      rw [bl_total x y h1 h2]
    · exfalso
      simp [e, fun h : b = a => e h.symm] at h1 h2
      have := UInt8.le_antisymm h2.1 h1
      exact e (by first | exact this | exact this.symm)
theorem bl_asymm : ∀ x y : List UInt8, Op.bytesLess x y = true → Op.bytesLess y x = false
  | [], [], h => by simp [Op.bytesLess] at h
  | [], b :: y, _ => rfl
  | a :: x, [], h => by simp [Op.bytesLess] at h
  | a :: x, b :: y, h => by
    simp only [Op.bytesLess] at h ⊢
    by_cases e : a = b
    · subst e
      simp at h ⊢
      exact bl_asymm x y h
    · simp [e, fun h : b = a => e h.symm] at h ⊢
      exact ⟨UInt8.le_of_lt h, fun e' => absurd e'.symm e⟩
theorem less_irrefl (a : V) : less a a = false := by
  unfold less; simp only [if_true]; split
  · exact bl_irrefl _
  · simp
theorem less_total (a b : V) (ha : Good a) (hb : Good b) (h1 : less a b = false) (h2 : less b a = false) : a = b := by
  unfold less at h1 h2
  have ek : a.k = b.k := by
    by_cases e : a.k = b.k
    · exact e
    · rw [if_neg e] at h1; rw [if_neg (fun e' => e e'.symm)] at h2; simp at h1 h2; omega
  rw [if_pos ek] at h1; rw [if_pos ek.symm] at h2
  cases a with | mk ka na sa =>
  cases b with | mk kb nb sb =>
  dsimp only at *
  subst ek
  by_cases e3 : ka = 3
  · subst e3
    simp only [if_true] at h1 h2
    have es := bytes_ext (bl_total _ _ h1 h2)
    subst es
    have e1 : na = nb := by unfold Good at ha hb; dsimp only at ha hb; omega
    rw [e1]
  · rw [if_neg e3] at h1 h2
    simp at h1 h2
    obtain rfl : na = nb := by omega
    have es : sa = ByteArray.empty := by rcases ha with h | h | h | h <;> first | exact h.2.2 | exact h.2.1 | (exact absurd h.1 e3)
    have et : sb = ByteArray.empty := by rcases hb with h | h | h | h <;> first | exact h.2.2 | exact h.2.1 | (exact absurd h.1 e3)
    rw [es, et]
/-- what two numbers give, and the error -/
def exact (op a b : Int) : Int := if op = 7 then a + b else if op = 8 then a - b else if op = 9 then a * b else if op = 10 then a.tdiv b else a.tmod b
end Go.Proofs.Ytpkkhbmlclicfaa.val
/- strings.Builder at this program: copyCheck, WriteByte, WriteString, String, of a builder that the call itself has made. No condition but the room of 2^47 bytes. -/
namespace Go.Proofs.Ytpkkhbmlclicfaa
set_option linter.unusedVariables false
open Go.RowKit
set_option maxHeartbeats 400000 in
set_option maxRecDepth 100000 in
theorem copyCheck_used (b : Nat) (w : World) (h0 : w.cell? ⟨b, 0, none⟩ = some (.pointer (some ⟨b, 0, none⟩))) :
    Calls Try.prog 59 #[.pointer (some ⟨b, 0, none⟩)] w fun e w' => e = .returned (.tuple #[]) ∧ w = w' := by
  obtain ⟨j, hj, _⟩ := Option.map_eq_some_iff.1 (show (Try.prog.info? 95).map (·.size) = some 2 by kernel_rfl)
  go_enter Try.func59, Try.ntmps59
  go_wp2
  rw [Lib.run_neq_ptr_same w _ Try.underlying93 hj]
  go_wp2
  go_end0
  exact ⟨rfl, rfl⟩
set_option maxHeartbeats 400000 in
set_option maxRecDepth 100000 in
theorem copyCheck_fresh (b : Nat) (w : World) (h0 : w.cell? ⟨b, 0, none⟩ = some (.pointer none)) (hsh : w.shape? b = some (95, 2)) (hfz : w.frozen? ⟨b, 0, none⟩ = false) :
    Calls Try.prog 59 #[.pointer (some ⟨b, 0, none⟩)] w fun e w' => e = .returned (.tuple #[]) ∧ w' = w.setCell ⟨b, 0, none⟩ (.pointer (some ⟨b, 0, none⟩)) := by
  obtain ⟨j, hj, hjs⟩ := Option.map_eq_some_iff.1 (show (Try.prog.info? 95).map (·.size) = some 2 by kernel_rfl)
  go_enter Try.func59, Try.ntmps59
  go_wp2
  rw [Lib.run_to_unsafe w ⟨b, 0, none⟩ Try.underlying93 Try.underlying132 hj (by rw [hjs]; decide) hsh (Nat.zero_lt_succ 1)]
  simp only [Result.andThen]
  rw [Oper.upon_value]
  go_wp2
  rw [run_callFunc_extern Try.func75 (by kernel_rfl) (by kernel_rfl) (by kernel_rfl) (e := Extern.AbiNoEscape.same) (by kernel_rfl)]
  rw [Lib.run_noEscape]
  simp only [Result.andThen]
  rw [Oper.upon_value]
  go_wp2
  rw [Lib.run_from_unsafe w ⟨b, 0, none⟩ Try.underlying132 Try.underlying93 hj hsh (by kernel_rfl)]
  simp only [Result.andThen]
  rw [Oper.upon_value]
  go_wp2
  go_end0
  exact ⟨rfl, rfl⟩
set_option maxRecDepth 100000 in
theorem copyCheck_any (B b : Nat) (bs : List Value) (w : World) (h : Lib.IsBuilder 95 5 B b bs w) :
    Calls Try.prog 59 #[.pointer (some ⟨b, 0, none⟩)] w fun e w' => e = .returned (.tuple #[]) ∧ (Lib.BuilderAt 95 5 B b (.pointer (some ⟨b, 0, none⟩)) bs w' ∧ Below B w w') := by
  rcases h with h | h
  · refine (copyCheck_fresh b w h.cell0 h.shape h.frozen0).mono ?_
    rintro e w' ⟨rfl, rfl⟩
    exact ⟨rfl, h.used _, (Below.refl B w).setCell (p := ⟨b, 0, none⟩) h.1 _⟩
  · refine (copyCheck_used b w h.cell0).mono ?_
    rintro e w' ⟨rfl, rfl⟩
    exact ⟨rfl, h, Below.refl B _⟩
theorem infoByte : (Try.prog.info? 5).map (fun i => (i.zero, i.size, i.bytes)) = some (some (.int .u8 0), 1, 1) := by kernel_rfl
set_option maxHeartbeats 1000000 in
theorem writeByte_any (B b : Nat) (bs : List Value) (c : Int) (w : World) (h : Lib.IsBuilder 95 5 B b bs w) (hlen : bs.length + 1 ≤ 140737488355328) (hBw : B ≤ w.heap.size) :
    Calls Try.prog 45 #[.pointer (some ⟨b, 0, none⟩), .int .u8 c] w fun e w' => e = .returned .nilIface ∧ (Lib.BuilderAt 95 5 B b (.pointer (some ⟨b, 0, none⟩)) (bs ++ [.int .u8 c]) w' ∧ Below B w w') := by
  obtain ⟨i0, hi, hz0, hz1, hz2⟩ := info_parts infoByte
  go_enter Try.func45, Try.ntmps45
  go_wp2_with (go_at_call 59; refine (copyCheck_any B b bs _ h).mono ?_)
  rintro e w1 ⟨rfl, h1, hb1⟩
  obtain ⟨hB, v, hbk, hown, hne⟩ := h1
  have c0 : w1.cell? ⟨b, 0, none⟩ = some (.pointer (some ⟨b, 0, none⟩)) := by rw [Lib.cell_of_heap hbk]; rfl
  have c1 : w1.cell? ⟨b, 1, none⟩ = some v := by rw [Lib.cell_of_heap hbk]; rfl
  go_wp2_with (at_builtin; refine wpList_append_own _ rfl _ _ 79 rfl B 5 i0 (.int .u8 0) 1 1 Try.underlying79 hi hz0 hz1 hz2 rfl (by decide) _ _ _ rfl (hown.alloc _) ⟨w1.heap.size, 0, none⟩ 1 1 [.int .u8 c] rfl rfl ?c1 ?c2 ?c3 ?c4 ?c5 ?_)
  case c1 =>
    intro j u hj
    match j, hj with
    | 0, hj => simp at hj; subst hj; simp [Addr.add]
  case c2 => intro u hu; simp at hu; subst hu; rfl
  case c3 => unfold maxLen; omega
  case c4 => omega
  case c5 => have := hb1.size; simp; omega
  intro v' w2 hown' hgrow _
  have hlt : b < w1.heap.size := by
    rcases Nat.lt_or_ge b w1.heap.size with h' | h'
    · exact h'
    · simp [Array.getElem?_eq_none h'] at hbk
  have hb2 : w2.heap[b]? = some (.cells #[.pointer (some ⟨b, 0, none⟩), v] 95 (0, 0)) := by
    rw [hgrow.block b (by simp; omega) (fun e => hne e.symm), Lib.alloc_old w1 _ b hlt]
    exact hbk
  have d0 : w2.cell? ⟨b, 0, none⟩ = some (.pointer (some ⟨b, 0, none⟩)) := by rw [Lib.cell_of_heap hb2]; rfl
  have d1 : w2.cell? ⟨b, 1, none⟩ = some v := by rw [Lib.cell_of_heap hb2]; rfl
  have f1 : w2.frozen? ⟨b, 1, none⟩ = false := Lib.frozen_of_heap hb2 1
  obtain ⟨g, cap, rfl⟩ : ∃ g cap, v' = .slice (some ⟨g, 0, none⟩) (bs.length + 1) cap := by
    rcases hown'.2 with ⟨_, h0⟩ | ⟨g, cap, cur, hv, _⟩
    · omega
    · exact ⟨g, cap, hv⟩
  go_wp2
  go_ret
  refine ⟨rfl, ?_, ?_⟩
  · exact Lib.BuilderAt.put (T := 95) (e := 5) hB hb2 (bs' := bs ++ [.int .u8 c]) (by simpa using hown') (by decide)
  · exact ((hb1.alloc (by have := hb1.size; omega) _).grown hgrow (by have := hb1.size; simp; omega) (fun k hk => (hown.lt k hk).1)).setCell (p := ⟨b, 1, none⟩) hB _
set_option maxHeartbeats 1000000 in
theorem writeString_any (B b : Nat) (bs : List Value) (s : ByteArray) (w : World) (h : Lib.IsBuilder 95 5 B b bs w) (hlen : bs.length + s.size ≤ 140737488355328) (hBw : B ≤ w.heap.size) :
    Calls Try.prog 46 #[.pointer (some ⟨b, 0, none⟩), .string s] w fun e w' => e = .returned (.tuple #[.int .i64 s.size, .nilIface]) ∧ (Lib.BuilderAt 95 5 B b (.pointer (some ⟨b, 0, none⟩)) (bs ++ Lib.strCells s) w' ∧ Below B w w') := by
  obtain ⟨i0, hi, hz0, hz1, hz2⟩ := info_parts infoByte
  go_enter Try.func46, Try.ntmps46
  go_wp2_with (go_at_call 59; refine (copyCheck_any B b bs _ h).mono ?_)
  rintro e w1 ⟨rfl, h1, hb1⟩
  obtain ⟨hB, v, hbk, hown, hne⟩ := h1
  have c0 : w1.cell? ⟨b, 0, none⟩ = some (.pointer (some ⟨b, 0, none⟩)) := by rw [Lib.cell_of_heap hbk]; rfl
  have c1 : w1.cell? ⟨b, 1, none⟩ = some v := by rw [Lib.cell_of_heap hbk]; rfl
  go_wp2_with (at_builtin; refine Lib.wpList_append_own_string _ rfl _ _ 79 9 rfl B 5 i0 Try.underlying79 Try.underlying9 hi hz0 hz1 hz2 _ _ _ rfl hown s rfl ?c3 ?c4 ?c5 ?_)
  case c3 => unfold maxLen; omega
  case c4 => omega
  case c5 => have := hb1.size; omega
  intro v' w2 hown' hgrow _
  have hlt : b < w1.heap.size := by
    rcases Nat.lt_or_ge b w1.heap.size with h' | h'
    · exact h'
    · simp [Array.getElem?_eq_none h'] at hbk
  have hb2 : w2.heap[b]? = some (.cells #[.pointer (some ⟨b, 0, none⟩), v] 95 (0, 0)) := by
    rw [hgrow.block b hlt (fun e => hne e.symm)]
    exact hbk
  have d0 : w2.cell? ⟨b, 0, none⟩ = some (.pointer (some ⟨b, 0, none⟩)) := by rw [Lib.cell_of_heap hb2]; rfl
  have d1 : w2.cell? ⟨b, 1, none⟩ = some v := by rw [Lib.cell_of_heap hb2]; rfl
  have f1 : w2.frozen? ⟨b, 1, none⟩ = false := Lib.frozen_of_heap hb2 1
  obtain ⟨ao, n', cap, rfl⟩ : ∃ ao n' cap, v' = .slice ao n' cap := by
    rcases hown'.2 with ⟨hv, _⟩ | ⟨g, cap, cur, hv, _⟩
    · exact ⟨_, _, _, hv⟩
    · exact ⟨_, _, _, hv⟩
  go_wp2
  go_ret2
  refine ⟨rfl, ?_, ?_⟩
  · exact Lib.BuilderAt.put (T := 95) (e := 5) hB hb2 (bs' := bs ++ Lib.strCells s) (by simpa [Lib.strCells_length] using hown') (by decide)
  · exact (hb1.grown hgrow (by have := hb1.size; omega) (fun k hk => (hown.lt k hk).1)).setCell (p := ⟨b, 1, none⟩) hB _
theorem builderString_any (B b : Nat) (l : List UInt8) (w : World) (h : Lib.IsBuilder 95 5 B b (Lib.byteCells l) w) (hBw : B ≤ w.heap.size) :
    Calls Try.prog 47 #[.pointer (some ⟨b, 0, none⟩)] w fun e w' => e = .returned (.string ⟨l.toArray⟩) ∧ Below B w w' := Try.Builder_String_any B b l w h hBw
end Go.Proofs.Ytpkkhbmlclicfaa
/- Small laws of no program: a byte block made by the call turned into a string; a slice that is read as a row of cells. No conditions beyond those that each statement names. -/
namespace Go.Proofs.Ytpkkhbmlclicfaa
set_option linter.unusedVariables false
open Go.RowKit
theorem cells_new (w : World) (vs : List Value) (T : TypeId) (i : Nat) : (w.alloc (.cells vs.toArray T)).cell? ⟨w.heap.size, i, none⟩ = vs[i]? := by
  have h : (w.alloc (.cells vs.toArray T)).heap[w.heap.size]? = some (.cells vs.toArray T (0, 0)) := by
    show (w.heap.push _)[w.heap.size]? = _
    simp
  rw [Lib.cell_of_heap h]; simp
/-- 'string(b[:])' of a block that the call has just made: its bytes. -/
theorem run_convert_block {P : Program} (w : World) (src dst e T : TypeId) (hs : P.underlying src = some (.slice e)) (he : P.underlying e = some (.int .u8)) (hd : P.underlying dst = some .string) (xs : List Int) (cap : Nat) :
    (convert src dst (.slice (some ⟨w.heap.size, 0, none⟩) xs.length cap)).run P (w.alloc (.cells (xs.map (Value.int .u8)).toArray T)) = .ok (.string (strOfNums xs)) (w.alloc (.cells (xs.map (Value.int .u8)).toArray T)) := by
  refine run_convert_bytes_arg _ src e hs he _ 0 xs.length cap xs rfl (fun i hi => ?_) dst hd
  rw [cells_new, List.getElem?_map, Nat.zero_add, List.getElem?_eq_getElem hi]
  simp [List.getD, List.getElem?_eq_getElem hi]
theorem wrap_u64_bd (n : Int) : 0 ≤ IntKind.u64.wrap n ∧ IntKind.u64.wrap n < 18446744073709551616 := by
  rw [IntKind.wrap_u64]; omega
theorem or_byte (u : Nat) (b : UInt8) (hu : u < 72057594037927936) : bits .or .u64 (IntKind.u64.wrap (↑u * 256)) (IntKind.u64.wrap ↑b.toNat) = ((256 * u + b.toNat : Nat) : Int) := by
  have hb := b.toNat_lt
  have e1 : IntKind.u64.wrap ((u : Int) * 256) = ((256 * u : Nat) : Int) := by rw [IntKind.wrap_u64]; omega
  have e2 : IntKind.u64.wrap (b.toNat : Int) = ((b.toNat : Nat) : Int) := by rw [IntKind.wrap_u64]; omega
  rw [e1, e2, u64_or_nat _ _ (by omega) (by omega), nat_join 8 (256 * u) b.toNat (by omega) (by omega)]
theorem take_snoc (s : ByteArray) (k : Nat) (h : k < s.size) : s.data.toList.take (k + 1) = s.data.toList.take k ++ [s[k]] := by
  rw [List.take_succ_eq_append_getElem (by simpa using h)]; rfl
theorem take_all (s : ByteArray) (k : Nat) (h : s.size ≤ k) : s.data.toList.take k = s.data.toList :=
  List.take_of_length_le (by simpa using h)
theorem ret_i64 {a b : Int} (h : a = b) : Ending.returned (.int .i64 a) = .returned (.int .i64 b) := by rw [h]
theorem ret_str {a b : ByteArray} (h : a = b) : Ending.returned (.string a) = .returned (.string b) := by rw [h]
theorem i64_or_nat (a b : Nat) (ha : a < 9223372036854775808) (hb : b < 9223372036854775808) : bits .or .i64 (a : Int) (b : Int) = ((a ||| b : Nat) : Int) := by
  have hx : a ||| b < 2 ^ 63 := Nat.or_lt_two_pow (by omega) (by omega)
  show IntKind.i64.wrap ((BitVec.ofInt 64 (a : Int) ||| BitVec.ofInt 64 (b : Int)).toNat : Int) = _
  rw [BitVec.toNat_or, ofInt_u64 a (by omega), ofInt_u64 b (by omega)]
  simp only [IntKind.wrap, IntKind.bits, IntKind.signed]; simp; omega
theorem be4_or (a b c d : UInt8) : bits BinOp.or IntKind.i64 (bits BinOp.or IntKind.i64 (bits BinOp.or IntKind.i64 (wrap64 (wrap64 ↑a.toNat * 16777216)) (wrap64 (wrap64 ↑b.toNat * 65536))) (wrap64 (wrap64 ↑c.toNat * 256))) (wrap64 ↑d.toNat)
    = ((((a.toNat * 256 + b.toNat) * 256 + c.toNat) * 256 + d.toNat : Nat) : Int) := by
  have ha := a.toNat_lt; have hb := b.toNat_lt; have hc := c.toNat_lt; have hd := d.toNat_lt
  rw [IntWalk.wrap64_in (a.toNat : Int) ⟨by omega, by omega⟩, IntWalk.wrap64_in (b.toNat : Int) ⟨by omega, by omega⟩, IntWalk.wrap64_in (c.toNat : Int) ⟨by omega, by omega⟩, IntWalk.wrap64_in (d.toNat : Int) ⟨by omega, by omega⟩,
    IntWalk.wrap64_in ((a.toNat : Int) * 16777216) ⟨by omega, by omega⟩, IntWalk.wrap64_in ((b.toNat : Int) * 65536) ⟨by omega, by omega⟩, IntWalk.wrap64_in ((c.toNat : Int) * 256) ⟨by omega, by omega⟩]
  rw [show ((a.toNat : Int) * 16777216) = ((a.toNat * 16777216 : Nat) : Int) from rfl, show ((b.toNat : Int) * 65536) = ((b.toNat * 65536 : Nat) : Int) from rfl, show ((c.toNat : Int) * 256) = ((c.toNat * 256 : Nat) : Int) from rfl]
  rw [i64_or_nat _ _ (by omega) (by omega), nat_join 24 _ _ (by omega) (by omega), i64_or_nat _ _ (by omega) (by omega), nat_join 16 _ _ (by omega) (by omega), i64_or_nat _ _ (by omega) (by omega), nat_join 8 _ _ (by omega) (by omega)]
  rw [show a.toNat * 16777216 + b.toNat * 65536 + c.toNat * 256 + d.toNat = ((a.toNat * 256 + b.toNat) * 256 + c.toNat) * 256 + d.toNat by omega]
/-- A slice value that reads as the cells xs, so many to an element. -/
def Row (w : World) (v : Value) (size n : Nat) (xs : List Value) : Prop :=
  ∃ a cap, v = .slice a n cap ∧ xs.length = n * size ∧ (n = 0 ∨ ∃ b off, a = some ⟨b, off, none⟩ ∧ ∀ j, j < n * size → w.cell? ⟨b, off + j, none⟩ = xs[j]?)
theorem Row.later {w w' : World} {v : Value} {size n : Nat} {xs : List Value} (h : Row w v size n xs) (hb : Below w.heap.size w w') : Row w' v size n xs := by
  obtain ⟨a, cap, hv, hl, h⟩ := h
  refine ⟨a, cap, hv, hl, h.imp id ?_⟩
  rintro ⟨b, off, ha, hc⟩
  refine ⟨b, off, ha, fun j hj => ?_⟩
  have h1 := hc j hj
  rw [List.getElem?_eq_getElem (by omega)] at h1 ⊢
  exact cell_later hb h1
theorem Row.of_owns {w : World} {base : Nat} {e : TypeId} {size n : Nat} {v : Value} {xs : List Value} (h : w.ownsRow base e size v n xs) : Row w v size n xs := by
  have hl := h.1
  rcases h.2 with ⟨rfl, rfl⟩ | ⟨g, cap, cur, rfl, _⟩
  · exact ⟨none, 0, rfl, hl, .inl rfl⟩
  · exact ⟨_, cap, rfl, hl, .inr ⟨g, 0, rfl, fun j hj => by simpa using h.cellAt j hj⟩⟩
theorem Row.pos {w : World} {v : Value} {size n : Nat} {xs : List Value} (h : Row w v size n xs) (hn : 0 < n) : ∃ b off cap, v = .slice (some ⟨b, off, none⟩) n cap ∧ ∀ j, j < n * size → w.cell? ⟨b, off + j, none⟩ = xs[j]? := by
  obtain ⟨a, cap, hv, _, h⟩ := h
  rcases h with h | ⟨b, off, rfl, hc⟩
  · omega
  · exact ⟨b, off, cap, hv, hc⟩
theorem Row.len {w : World} {v : Value} {size n : Nat} {xs : List Value} (h : Row w v size n xs) : xs.length = n * size := h.choose_spec.choose_spec.2.1
theorem owns_below {w w' : World} {B : Nat} {e : TypeId} {k : Nat} {v : Value} {n : Nat} {xs : List Value} (h : w.ownsRow B e k v n xs) (hb : Below w.heap.size w w') : w'.ownsRow B e k v n xs := by
  refine h.kept (row := none) ⟨hb.os, hb.tape, hb.output, hb.size, fun j hj _ => hb.block j hj⟩ ?_
  cases v.ownBlock
  · exact .inl rfl
  · exact .inr (by simp)
theorem empty_of_size (R : ByteArray) (h : R.size = 0) : R = ⟨#[]⟩ := by
  have : R.data.size = 0 := h
  cases R; simp at this; subst this; rfl
theorem isEmpty_of_size (R : ByteArray) (h : R.size ≠ 0) : R.data.toList.isEmpty = false := by
  cases hd : R.data.toList with
  | nil => exact absurd (show R.size = 0 by rw [← ByteArray.size_data, ← Array.length_toList, hd]; rfl) h
  | cons => rfl
end Go.Proofs.Ytpkkhbmlclicfaa
/- Plain mathematics of bytes: a number in base 256, the greatest byte first; texts of one length are ordered as their numbers; packed texts. No program, no conditions beyond those that each statement names. -/
namespace Go.Proofs.Ytpkkhbmlclicfaa
set_option linter.unusedVariables false
/-- the number of some bytes, the greatest first -/
def beVal (l : List UInt8) : Nat := l.foldl (fun u b => 256 * u + b.toNat) 0
/-- so many bytes of a number -/
def beD : Nat → Nat → List UInt8
  | 0, _ => []
  | k + 1, u => beD k (u / 256) ++ [UInt8.ofNat (u % 256)]
theorem beD_length (k u : Nat) : (beD k u).length = k := by
  induction k generalizing u with
  | zero => rfl
  | succ k ih => simp [beD, ih]
theorem beVal_snoc (l : List UInt8) (b : UInt8) : beVal (l ++ [b]) = 256 * beVal l + b.toNat := by
  unfold beVal; rw [List.foldl_append]; rfl
theorem foldl_be (l : List UInt8) (x : Nat) : l.foldl (fun u b => 256 * u + b.toNat) x = x * 256 ^ l.length + beVal l := by
  induction l generalizing x with
  | nil => simp [beVal]
  | cons b l ih =>
    unfold beVal
    rw [List.foldl_cons, List.foldl_cons, ih, ih (256 * 0 + b.toNat), List.length_cons, Nat.pow_succ, Nat.add_mul, Nat.add_mul]
    simp only [Nat.mul_zero, Nat.zero_mul, Nat.zero_add]
    rw [show 256 * x * 256 ^ l.length = x * (256 ^ l.length * 256) by rw [Nat.mul_comm 256 x, Nat.mul_assoc, Nat.mul_comm 256]]
    omega
theorem beVal_cons (b : UInt8) (l : List UInt8) : beVal (b :: l) = b.toNat * 256 ^ l.length + beVal l := by
  have h : beVal (b :: l) = l.foldl (fun u b => 256 * u + b.toNat) (256 * 0 + b.toNat) := rfl
  rw [h, foldl_be]; simp
theorem beVal_lt (l : List UInt8) : beVal l < 256 ^ l.length := by
  induction l with
  | nil => simp [beVal]
  | cons b l ih =>
    rw [beVal_cons, List.length_cons, Nat.pow_succ]
    have hb := b.toNat_lt
    have : b.toNat * 256 ^ l.length ≤ 255 * 256 ^ l.length := Nat.mul_le_mul_right _ (by omega)
    omega
theorem beVal_beD (k u : Nat) : beVal (beD k u) = u % 256 ^ k := by
  induction k generalizing u with
  | zero => simp [beD, beVal, Nat.mod_one]
  | succ k ih =>
    rw [beD, beVal_snoc, ih]
    have e : (UInt8.ofNat (u % 256)).toNat = u % 256 := by simp
    rw [e, Nat.pow_succ, Nat.mul_comm (256 ^ k) 256, Nat.mod_mul]
    omega
theorem beD_beVal (l : List UInt8) : beD l.length (beVal l) = l := by
  generalize hk : l.length = k
  induction k generalizing l with
  | zero => rw [List.length_eq_zero_iff.1 hk]; rfl
  | succ k ih =>
    obtain ⟨m, b, rfl⟩ : ∃ m b, l = m ++ [b] := ⟨l.dropLast, l.getLast (by intro h; simp [h] at hk), (List.dropLast_concat_getLast _).symm⟩
    have hm : m.length = k := by simpa using hk
    have hb := b.toNat_lt
    rw [beVal_snoc, beD, show (256 * beVal m + b.toNat) / 256 = beVal m by omega, show (256 * beVal m + b.toNat) % 256 = b.toNat by omega, ih m hm]
    simp
theorem beD_inj (k u v : Nat) (hu : u < 256 ^ k) (hv : v < 256 ^ k) (h : beD k u = beD k v) : u = v := by
  have := congrArg beVal h
  rwa [beVal_beD, beVal_beD, Nat.mod_eq_of_lt hu, Nat.mod_eq_of_lt hv] at this
theorem beD_cons (k u : Nat) : beD (k + 1) u = UInt8.ofNat (u / 256 ^ k % 256) :: beD k u := by
  induction k generalizing u with
  | zero => simp [beD]
  | succ k ih =>
    rw [beD, ih (u / 256), Nat.div_div_eq_div_mul, ← Nat.pow_succ', List.cons_append]
    rfl
/-- an int64 as eight bytes that are ordered as it is -/
def intB (n : Int) : List UInt8 := beD 8 (n + 9223372036854775808).toNat
theorem intB_length (n : Int) : (intB n).length = 8 := beD_length _ _
theorem intB_inj (a b : Int) (ha : -9223372036854775808 ≤ a ∧ a ≤ 9223372036854775807) (hb : -9223372036854775808 ≤ b ∧ b ≤ 9223372036854775807) (h : intB a = intB b) : a = b := by
  have := beD_inj 8 _ _ (by omega) (by omega) h
  omega
/-- texts packed to one: of each its length in four bytes, and it -/
def packB (ss : List ByteArray) : List UInt8 := ss.flatMap fun s => beD 4 s.size ++ s.data.toList
theorem packB_snoc (ss : List ByteArray) (s : ByteArray) : packB (ss ++ [s]) = packB ss ++ (beD 4 s.size ++ s.data.toList) := by
  simp [packB, List.flatMap_append]
theorem packB_length (ss : List ByteArray) : (packB ss).length = (ss.map fun s => s.size + 4).sum := by
  induction ss with
  | nil => rfl
  | cons s ss ih =>
    have : packB (s :: ss) = (beD 4 s.size ++ s.data.toList) ++ packB ss := by simp [packB]
    rw [this, List.length_append, ih, List.length_append, beD_length, List.map_cons, List.sum_cons]
    simp; omega
end Go.Proofs.Ytpkkhbmlclicfaa
namespace Go.Proofs.Ytpkkhbmlclicfaa
set_option linter.unusedVariables false
open Go.RowKit
/-- an int64 as a uint64 that is ordered as it is -/
def uI (n : Int) : Int := IntKind.u64.wrap (IntKind.u64.wrap n + 9223372036854775808)
/-- its eight bytes, the greatest first, as the walk has them -/
def be8I (u : Int) : List Int := [u / 72057594037927936 % 256, u / 281474976710656 % 256, u / 1099511627776 % 256, u / 4294967296 % 256, u / 16777216 % 256, u / 65536 % 256, u / 256 % 256, u % 256]
theorem uI_eq (n : Int) (h : -9223372036854775808 ≤ n ∧ n ≤ 9223372036854775807) : uI n = ((n + 9223372036854775808).toNat : Int) := by
  unfold uI; rw [IntKind.wrap_u64, IntKind.wrap_u64]; omega
theorem digit_eq (u k m : Nat) (h : 256 ^ k = m) : UInt8.ofNat ((u : Int) / (m : Int) % 256).toNat = UInt8.ofNat (u / 256 ^ k % 256) := by
  rw [h, show ((u : Int) / (m : Int) % 256) = ((u / m % 256 : Nat) : Int) by rw [Int.natCast_emod, Int.natCast_ediv]; rfl, Int.toNat_natCast]
theorem be8I_eq (u : Nat) : strOfNums (be8I (u : Int)) = ⟨(beD 8 u).toArray⟩ := by
  have e : (be8I (u : Int)).map (fun n => UInt8.ofNat n.toNat) = beD 8 u := by
    rw [beD_cons, beD_cons, beD_cons, beD_cons, beD_cons, beD_cons, beD_cons, beD_cons, beD,
      ← digit_eq u 7 72057594037927936 rfl, ← digit_eq u 6 281474976710656 rfl, ← digit_eq u 5 1099511627776 rfl, ← digit_eq u 4 4294967296 rfl, ← digit_eq u 3 16777216 rfl, ← digit_eq u 2 65536 rfl, ← digit_eq u 1 256 rfl]
    have h0 : UInt8.ofNat ((u : Int) % 256).toNat = UInt8.ofNat (u / 256 ^ 0 % 256) := by
      rw [show ((u : Int) % 256) = ((u % 256 : Nat) : Int) by rw [Int.natCast_emod]; rfl, Int.toNat_natCast, Nat.pow_zero, Nat.div_one]
    rw [← h0]
    rfl
  unfold strOfNums
  rw [e]
theorem int_eq (n : Int) (h : -9223372036854775808 ≤ n ∧ n ≤ 9223372036854775807) : strOfNums (be8I (uI n)) = ⟨(intB n).toArray⟩ := by
  rw [uI_eq n h, be8I_eq]; rfl
theorem run_convert8 (w : World) (a0 a1 a2 a3 a4 a5 a6 a7 : Int) :
    (convert 79 9 (.slice (some ⟨w.heap.size, 0, none⟩) 8 8)).run Try.prog (w.alloc (.cells #[.int .u8 a0, .int .u8 a1, .int .u8 a2, .int .u8 a3, .int .u8 a4, .int .u8 a5, .int .u8 a6, .int .u8 a7] 131)) = .ok (.string (strOfNums [a0, a1, a2, a3, a4, a5, a6, a7])) (w.alloc (.cells #[.int .u8 a0, .int .u8 a1, .int .u8 a2, .int .u8 a3, .int .u8 a4, .int .u8 a5, .int .u8 a6, .int .u8 a7] 131)) :=
  run_convert_block w _ _ _ 131 Try.underlying79 Try.underlying5 Try.underlying9 [a0, a1, a2, a3, a4, a5, a6, a7] 8
set_option maxHeartbeats 400000 in
theorem packInt_any (n : Int) (hn : -9223372036854775808 ≤ n ∧ n ≤ 9223372036854775807) (w : World) :
    Calls Try.prog 58 #[.int .i64 n] w fun e w' => e = .returned (.string ⟨(intB n).toArray⟩) ∧ Below w.heap.size w w' := by
  have hcv := run_convert8
  have HE := Lib.hid (int_eq n hn); clear hn
  go_enter Try.func58, Try.ntmps58
  go_wp2
  refine wp_loop_rounds 9 ?_
  iterate 9
    rw [rounds_succ]
    go_wp2
  go_ret
  exact ⟨by rw [← HE.out]; rfl, (Below.refl _ _).alloc (Nat.le_refl _) _⟩
set_option maxHeartbeats 400000 in
theorem getInt_no (s : ByteArray) (h : s.size ≠ 8) (w : World) :
    Calls Try.prog 50 #[.string s] w fun e w' => e = .returned (.tuple #[.int .i64 0, .bool false]) ∧ w = w' := by
  go_enter Try.func50, Try.ntmps50
  go_wp2
  go_ret2
  exact ⟨rfl, rfl⟩
theorem beVal_take (s : ByteArray) (k : Nat) (h : s.size = 8) (hk : k < 8) : beVal (s.data.toList.take k) < 72057594037927936 := by
  have := beVal_lt (s.data.toList.take k)
  have hl : (s.data.toList.take k).length ≤ 7 := by rw [List.length_take]; omega
  have := Nat.pow_le_pow_right (show 1 ≤ 256 by decide) hl
  omega
theorem beVal_take_snoc (s : ByteArray) (k : Nat) (h : s.size = 8) (hk : k < s.size) :
    bits .or .u64 (IntKind.u64.wrap (↑(beVal (s.data.toList.take k)) * 256)) (IntKind.u64.wrap ↑s[k].toNat) = ((beVal (s.data.toList.take (k + 1)) : Nat) : Int) := by
  rw [take_snoc s k hk, beVal_snoc, or_byte _ _ (beVal_take s k h (by omega))]
/-- the number of eight bytes -/
def getIv (s : ByteArray) : Int := (beVal s.data.toList : Int) - 9223372036854775808
theorem getIv_wrap (s : ByteArray) (h : s.size = 8) (k : Nat) (hk : 8 ≤ k) : wrap64 (IntKind.u64.wrap (↑(beVal (s.data.toList.take k)) - 9223372036854775808)) = getIv s := by
  rw [take_all s k (by omega)]
  have := beVal_lt s.data.toList
  have hl : s.data.toList.length = 8 := by simpa using h
  rw [hl] at this
  unfold getIv wrap64
  rw [IntKind.wrap_u64]
  omega
set_option maxHeartbeats 400000 in
theorem getInt_yes (s : ByteArray) (h : s.size = 8) (w : World) :
    Calls Try.prog 50 #[.string s] w fun e w' => e = .returned (.tuple #[.int .i64 (getIv s), .bool true]) ∧ w = w' := by
  have h1 : (s.size != 8) = false := by simp [h]
  go_enter Try.func50, Try.ntmps50
  go_wp2
  go_loop [4, 9] (fun u i => ∃ k : Nat, k ≤ 8 ∧ i = .int .i64 k ∧ ∃ H : Nat, u = .int .u64 H ∧ Hid (H = beVal (s.data.toList.take k))) (fun _ i => 8 - (intOf i).toNat)
  case atStart => exact ⟨0, Nat.zero_le _, rfl, 0, rfl, rfl⟩
  case round =>
    obtain ⟨k, hk, rfl, H, rfl, hH⟩ := hrel
    by_cases hlt : k < 8
    · have hks : k < s.size := by omega
      have HB := Lib.hid (beVal_take_snoc s k h hks)
      rw [← hH.out] at HB
      go_wp2
      go_round
      case rel => exact ⟨k + 1, by omega, by go_num, _, by rw [HB.out], rfl⟩
      case measure => simp [intOf]; omega
    · have HB := Lib.hid (getIv_wrap s h k (by omega))
      rw [← hH.out] at HB
      go_wp2
      go_ret2
      exact ⟨by rw [← HB.out]; rfl, rfl⟩
theorem run_convert1 (w : World) (x : Int) (T : TypeId) :
    (convert 79 9 (.slice (some ⟨w.heap.size, 0, none⟩) 1 1)).run Try.prog (w.alloc (.cells #[.int .u8 x] T)) = .ok (.string (strOfNums [x])) (w.alloc (.cells #[.int .u8 x] T)) :=
  run_convert_block w _ _ _ T Try.underlying79 Try.underlying5 Try.underlying9 [x] 1
theorem prep (u k : Nat) (l : List UInt8) : strOfNums [((u / 256 ^ k : Nat) : Int) % 256] ++ ⟨l.toArray⟩ = ⟨(UInt8.ofNat (u / 256 ^ k % 256) :: l).toArray⟩ := by
  unfold strOfNums
  rw [ByteArray.mk_append_mk]
  simp only [List.map_cons, List.map_nil, List.singleton_append]
  rw [show (((u / 256 ^ k : Nat) : Int) % 256) = ((u / 256 ^ k % 256 : Nat) : Int) by rw [Int.natCast_emod]; rfl, Int.toNat_natCast]
set_option maxHeartbeats 400000 in
theorem refInt_any (n : Int) (hn : -9223372036854775808 ≤ n ∧ n ≤ 9223372036854775807) (w : World) :
    Calls Try.prog 48 #[.int .i64 n] w fun e w' => e = .returned (.string ⟨(intB n).toArray⟩) ∧ Below w.heap.size w w' := by
  have hcv := run_convert1
  have hz1 : ∀ x, (strOfNums [x]).size = 1 := fun _ => rfl
  have HE := Lib.hid (uI_eq n hn); clear hn
  go_enter Try.func48, Try.ntmps48
  go_wp2
  go_loopw [3, 4, 5] (fun u o i wr => ∃ k : Nat, k ≤ 8 ∧ i = .int .i64 k ∧ (∃ H : Int, 0 ≤ H ∧ H < 18446744073709551616 ∧ u = .int .u64 H ∧ Hid (H = (((n + 9223372036854775808).toNat / 256 ^ k : Nat) : Int))) ∧ (∃ S : ByteArray, S.size = k ∧ o = .string S ∧ Hid (S = ⟨(beD k (n + 9223372036854775808).toNat).toArray⟩)) ∧ Below w.heap.size w wr) (fun _ _ i _ => 8 - (intOf i).toNat)
  case atStart => exact ⟨0, Nat.zero_le _, rfl, ⟨_, (wrap_u64_bd _).1, (wrap_u64_bd _).2, rfl, by show uI n = _; rw [HE.out]; simp⟩, ⟨_, rfl, rfl, rfl⟩, Below.refl _ _⟩
  case round =>
    obtain ⟨k, hk, rfl, ⟨H, hH0, hH1, rfl, hH⟩, ⟨S, hS0, rfl, hS⟩, hB⟩ := hrel
    by_cases hlt : k < 8
    · go_wp2
      go_roundw
      case rel => exact ⟨k + 1, by omega, by go_num, ⟨_, by omega, by omega, rfl, by rw [hH.out, Nat.pow_succ, ← Nat.div_div_eq_div_mul]; rfl⟩, ⟨_, by rw [ByteArray.size_append, hz1, hS0]; omega, rfl, by rw [hS.out, hH.out, beD_cons]; exact prep _ _ _⟩, hB.alloc hB.size _⟩
      case measure => simp [intOf]; omega
    · obtain rfl : k = 8 := by omega
      go_wp2
      go_ret
      exact ⟨by rw [hS.out]; rfl, hB⟩
end Go.Proofs.Ytpkkhbmlclicfaa
/- Pack: the texts of a slice, packed to one text. The room: 2^47 bytes. -/
namespace Go.Proofs.Ytpkkhbmlclicfaa
set_option linter.unusedVariables false
open Go.RowKit
theorem be4_cells (n : Nat) : Lib.byteCells (beD 4 n) = [.int .u8 ((n : Int) % 4294967296 / 16777216), .int .u8 ((n : Int) % 4294967296 / 65536 % 256), .int .u8 ((n : Int) % 4294967296 / 256 % 256), .int .u8 ((n : Int) % 4294967296 % 256)] := by
  have e : ∀ (x : Nat) (y : Int), y = ((x % 256 : Nat) : Int) → Value.int .u8 ((UInt8.ofNat (x % 256)).toNat : Int) = Value.int .u8 y := by
    intro x y h; rw [h]; congr 2; simp
  rw [beD_cons, beD_cons, beD_cons, beD_cons, beD]
  simp only [Lib.byteCells, List.map_cons, List.map_nil]
  rw [e _ ((n : Int) % 4294967296 / 16777216) (by omega), e _ ((n : Int) % 4294967296 / 65536 % 256) (by omega), e _ ((n : Int) % 4294967296 / 256 % 256) (by omega), e _ ((n : Int) % 4294967296 % 256) (by omega)]
theorem packB_take (ss : List ByteArray) (k : Nat) (h : k < ss.length) : packB (ss.take (k + 1)) = packB (ss.take k) ++ (beD 4 (ss[k]).size ++ (ss[k]).data.toList) := by
  rw [List.take_succ_eq_append_getElem h, packB_snoc]
theorem packB_take_le (ss : List ByteArray) (k : Nat) : (packB (ss.take k)).length ≤ (packB ss).length := by
  have h : packB ss = packB (ss.take k) ++ packB (ss.drop k) := by
    rw [packB, packB, packB, ← List.flatMap_append, List.take_append_drop]
  rw [h, List.length_append]; omega
set_option maxHeartbeats 1000000 in
theorem pack_some (b0 off cap : Nat) (ss : List ByteArray) (w : World) (h0 : 0 < ss.length) (hm : ss.length ≤ 9223372036854775807)
    (hc : ∀ j, (hj : j < ss.length) → w.cell? ⟨b0, off + j, none⟩ = some (.string ss[j])) (hroom : (packB ss).length ≤ 140737488355328) :
    Calls Try.prog 31 #[.slice (some ⟨b0, off, none⟩) ss.length cap] w fun e w' => e = .returned (.string ⟨(packB ss).toArray⟩) ∧ Below w.heap.size w w' := by
  have HC := Lib.hid hc; clear hc
  have HR := Lib.hid hroom; clear hroom
  go_enter Try.func31, Try.ntmps31
  go_wp2
  have hfresh := Lib.fresh_isBuilder 95 5 w
  go_loopw [9] (fun i wr => ∃ k : Nat, k ≤ ss.length ∧ i = .int .i64 k ∧ Lib.IsBuilder 95 5 w.heap.size w.heap.size (Lib.byteCells (packB (ss.take k))) wr ∧ Below w.heap.size w wr ∧ w.heap.size < wr.heap.size) (fun i _ => ss.length - (intOf i).toNat)
  case atStart => exact ⟨0, Nat.zero_le _, rfl, hfresh, (Below.refl _ _).alloc (Nat.le_refl _) _, by simp⟩
  case round =>
    obtain ⟨k, hk, rfl, hbu, hB, hsz⟩ := hrel
    clear hfresh
    by_cases hlt : k < ss.length
    · have hcell0 := cell_later hB (HC.out k hlt)
      have hl1 := packB_take_le ss (k + 1)
      have hpt := packB_take ss k hlt
      rw [hpt, List.length_append, List.length_append, beD_length] at hl1
      obtain ⟨s, hs⟩ : ∃ s, s = ss[k] := ⟨_, rfl⟩
      rw [← hs] at hcell0 hl1 hpt
      have hsl : s.data.toList.length = s.size := by simp
      have hroom := HR.out
      have hc0 := Lib.byteCells_length (packB (ss.take k))
      have L1 : (Lib.byteCells (packB (ss.take k))).length + 4 + s.size ≤ 140737488355328 := by omega
      have HPT := Lib.hid hpt; have HS := Lib.hid hs
      obtain ⟨P, hP⟩ : ∃ P, P = Lib.byteCells (packB (ss.take k)) := ⟨_, rfl⟩
      rw [← hP] at hbu L1
      have HP := Lib.hid hP
      clear hpt hs hsl hroom hc0 hl1 hP
      have B0 : w.heap.size ≤ w.heap.size := Nat.le_refl _
      go_wp2_with fail
      refine (writeByte_any w.heap.size w.heap.size P _ _ hbu (by omega) (by omega)).mono ?_
      rintro e w1 ⟨rfl, hb1, hB1⟩
      have s1 := hB1.size
      go_wp2_with fail
      refine (writeByte_any w.heap.size w.heap.size _ _ _ (.inr hb1) (by simp; omega) (by omega)).mono ?_
      rintro e w2 ⟨rfl, hb2, hB2⟩
      have s2 := hB2.size
      clear hb1
      go_wp2_with fail
      refine (writeByte_any w.heap.size w.heap.size _ _ _ (.inr hb2) (by simp; omega) (by omega)).mono ?_
      rintro e w3 ⟨rfl, hb3, hB3⟩
      have s3 := hB3.size
      clear hb2
      go_wp2_with fail
      refine (writeByte_any w.heap.size w.heap.size _ _ _ (.inr hb3) (by simp; omega) (by omega)).mono ?_
      rintro e w4 ⟨rfl, hb4, hB4⟩
      have s4 := hB4.size
      clear hb3
      go_wp2_with fail
      refine (writeString_any w.heap.size w.heap.size _ _ _ (.inr hb4) (by simp; omega) (by omega)).mono ?_
      rintro e w5 ⟨rfl, hb5, hB5⟩
      have s5 := hB5.size
      clear hb4
      have hB' := (((((hB.trans hB1).trans hB2).trans hB3).trans hB4).trans hB5)
      clear hB1 hB2 hB3 hB4 hB5
      have HB5 := Lib.hid hb5; clear hb5
      go_wp2
      go_roundw
      case rel =>
        refine ⟨k + 1, by omega, by go_num, .inr ?_, hB', by omega⟩
        rw [HPT.out, Lib.byteCells_append, Lib.byteCells_append, be4_cells, ← HP.out]
        have := HB5.out
        simpa [Lib.strCells_eq] using this
      case measure => simp [intOf]; omega
    · obtain rfl : k = ss.length := by omega
      rw [List.take_length] at hbu
      go_wp2_with (go_at_call 47; refine (builderString_any w.heap.size w.heap.size _ _ hbu (by omega)).mono ?_; rintro e w' ⟨rfl, hb'⟩)
      go_ret
      exact ⟨rfl, hB.trans hb'⟩
set_option maxHeartbeats 1000000 in
theorem pack_none (a : Option Addr) (cap : Nat) (w : World) :
    Calls Try.prog 31 #[.slice a 0 cap] w fun e w' => e = .returned (.string ⟨(packB []).toArray⟩) ∧ Below w.heap.size w w' := by
  have hfresh := Lib.fresh_isBuilder 95 5 w
  have hb0 : w.heap.size ≤ (w.alloc (.cells #[.pointer none, .slice none 0 0] 95)).heap.size := by simp
  go_enter Try.func31, Try.ntmps31
  go_wp2
  refine wp_loop_rounds 1 ?_; rw [rounds_succ]
  go_wp2_with (go_at_call 47; refine (builderString_any w.heap.size w.heap.size [] _ hfresh hb0).mono ?_; rintro e w' ⟨rfl, hb'⟩)
  go_ret
  exact ⟨rfl, ((Below.refl _ _).alloc (Nat.le_refl _) _).trans hb'⟩
/-- Pack of any slice of texts. -/
theorem pack_any (v : Value) (ss : List ByteArray) (w : World) (hm : ss.length ≤ 9223372036854775807) (hv : Row w v 1 ss.length (ss.map Value.string)) (hroom : (packB ss).length ≤ 140737488355328) :
    Calls Try.prog 31 #[v] w fun e w' => e = .returned (.string ⟨(packB ss).toArray⟩) ∧ Below w.heap.size w w' := by
  rcases Nat.eq_zero_or_pos ss.length with h0 | h0
  · obtain rfl := List.length_eq_zero_iff.1 h0
    obtain ⟨a, cap, rfl, _⟩ := hv
    exact pack_none a cap w
  · obtain ⟨b, off, cap, rfl, hc⟩ := hv.pos h0
    refine pack_some b off cap ss w h0 hm (fun j hj => ?_) hroom
    rw [hc j (by omega), List.getElem?_map, List.getElem?_eq_getElem hj]; rfl
end Go.Proofs.Ytpkkhbmlclicfaa
/- cut, Split: packed texts taken apart. -/
namespace Go.Proofs.Ytpkkhbmlclicfaa
set_option linter.unusedVariables false
open Go.RowKit
set_option maxHeartbeats 400000 in
theorem cut_short (s : ByteArray) (w : World) (h : s.size < 4) :
    Calls Try.prog 43 #[.string s] w fun e w' => e = .returned (.tuple #[.string ⟨#[]⟩, .string ⟨#[]⟩, .bool false]) ∧ Below w.heap.size w w' := by
  go_enter Try.func43, Try.ntmps43
  go_wp2
  go_ret3
  exact ⟨rfl, Below.refl _ _⟩
/-- what the first four bytes say -/
def cutN (s : ByteArray) : Nat := beVal (s.data.toList.take 4)
theorem cutN_eq (s : ByteArray) (h0 : 0 < s.size) (h1 : 1 < s.size) (h2 : 2 < s.size) (h3 : 3 < s.size) : ((s[0].toNat * 256 + s[1].toNat) * 256 + s[2].toNat) * 256 + s[3].toNat = cutN s := by
  unfold cutN
  rw [take_snoc s 3 h3, take_snoc s 2 h2, take_snoc s 1 h1, take_snoc s 0 h0, beVal_snoc, beVal_snoc, beVal_snoc, beVal_snoc]
  simp [beVal]; omega
set_option maxHeartbeats 400000 in
theorem cut_long (s : ByteArray) (w : World) (h : 4 ≤ s.size) (hs : s.size ≤ 9223372036854775807) (hn : s.size < 4 + cutN s) :
    Calls Try.prog 43 #[.string s] w fun e w' => e = .returned (.tuple #[.string ⟨#[]⟩, .string ⟨#[]⟩, .bool false]) ∧ Below w.heap.size w w' := by
  have g0 : (0 : Int) < (s.size : Int) := by omega
  have g0' : 0 < s.size := by omega
  have g1' : 1 < s.size := by omega
  have g2' : 2 < s.size := by omega
  have g3' : 3 < s.size := by omega
  have g1 : (1 : Int) < (s.size : Int) := by omega
  have g2 : (2 : Int) < (s.size : Int) := by omega
  have g3 : (3 : Int) < (s.size : Int) := by omega
  have hv := be4_or s[0] s[1] s[2] s[3]
  rw [cutN_eq s g0' g1' g2' g3'] at hv
  generalize cutN s = N at hv hn
  have hg : (s.size : Int) - 4 < N := by omega
  go_enter Try.func43, Try.ntmps43
  go_wp2
  go_quiet (fail)
  go_wp2
  go_ret3
  exact ⟨rfl, below_drewN (Below.refl _ _) _⟩
set_option maxHeartbeats 400000 in
theorem cut_yes (s : ByteArray) (w : World) (h : 4 ≤ s.size) (hs : s.size ≤ 9223372036854775807) (hn : 4 + cutN s ≤ s.size) :
    Calls Try.prog 43 #[.string s] w fun e w' => e = .returned (.tuple #[.string (s.extract 4 (4 + cutN s)), .string (s.extract (4 + cutN s) s.size), .bool true]) ∧ Below w.heap.size w w' := by
  have g0 : (0 : Int) < (s.size : Int) := by omega
  have g0' : 0 < s.size := by omega
  have g1' : 1 < s.size := by omega
  have g2' : 2 < s.size := by omega
  have g3' : 3 < s.size := by omega
  have g1 : (1 : Int) < (s.size : Int) := by omega
  have g2 : (2 : Int) < (s.size : Int) := by omega
  have g3 : (3 : Int) < (s.size : Int) := by omega
  have hv := be4_or s[0] s[1] s[2] s[3]
  rw [cutN_eq s g0' g1' g2' g3'] at hv
  generalize cutN s = N at hv hn
  have hg : (N : Int) ≤ (s.size : Int) - 4 := by omega
  have hg1 : (4 : Int) ≤ 4 + (N : Int) := by omega
  have hg2 : 4 + (N : Int) ≤ (s.size : Int) := by omega
  go_enter Try.func43, Try.ntmps43
  go_wp2
  go_quiet (fail)
  go_wp2
  go_quiet (fail)
  go_wp2
  go_ret3
  exact ⟨rfl, below_drewN (below_drewN (Below.refl _ _) _) _⟩
/-- the texts that are packed in a text, as far as they are whole, and whether all are -/
def splitF : Nat → ByteArray → List ByteArray × Bool
  | 0, s => ([], s.size == 0)
  | f + 1, s => if s.size < 4 ∨ s.size < 4 + cutN s then ([], s.size == 0) else (s.extract 4 (4 + cutN s) :: (splitF f (s.extract (4 + cutN s) s.size)).1, (splitF f (s.extract (4 + cutN s) s.size)).2)
def splitS (s : ByteArray) : List ByteArray × Bool := splitF s.size s
theorem splitF_stop (f : Nat) (s : ByteArray) (h : s.size < 4 ∨ s.size < 4 + cutN s) : splitF f s = ([], s.size == 0) := by
  cases f with
  | zero => rfl
  | succ f => rw [splitF, if_pos h]
theorem splitF_step (f : Nat) (s : ByteArray) (h1 : 4 ≤ s.size) (h2 : 4 + cutN s ≤ s.size) : splitF (f + 1) s = (s.extract 4 (4 + cutN s) :: (splitF f (s.extract (4 + cutN s) s.size)).1, (splitF f (s.extract (4 + cutN s) s.size)).2) := by
  rw [splitF, if_neg (by omega)]
theorem splitF_fuel : ∀ (f : Nat) (s : ByteArray), s.size ≤ f → splitF f s = splitS s := by
  have key : ∀ (n f g : Nat) (s : ByteArray), s.size ≤ n → s.size ≤ f → s.size ≤ g → splitF f s = splitF g s := by
    intro n
    induction n with
    | zero => intro f g s hn _ _; rw [splitF_stop f s (by omega), splitF_stop g s (by omega)]
    | succ n ih =>
      intro f g s hn hf hg
      by_cases h : s.size < 4 ∨ s.size < 4 + cutN s
      · rw [splitF_stop f s h, splitF_stop g s h]
      · obtain ⟨f, rfl⟩ : ∃ k, f = k + 1 := ⟨f - 1, by omega⟩
        obtain ⟨g, rfl⟩ : ∃ k, g = k + 1 := ⟨g - 1, by omega⟩
        have hz : (s.extract (4 + cutN s) s.size).size ≤ s.size - 4 := by rw [ByteArray.size_extract]; omega
        rw [splitF_step f s (by omega) (by omega), splitF_step g s (by omega) (by omega), ih f g _ (by omega) (by omega) (by omega)]
  intro f s h
  exact key _ f _ s (Nat.le_refl _) h (Nat.le_refl _)
theorem splitS_stop (s : ByteArray) (h : s.size < 4 ∨ s.size < 4 + cutN s) : splitS s = ([], s.size == 0) := splitF_stop _ s h
theorem splitS_step (s : ByteArray) (h1 : 4 ≤ s.size) (h2 : 4 + cutN s ≤ s.size) : splitS s = (s.extract 4 (4 + cutN s) :: (splitS (s.extract (4 + cutN s) s.size)).1, (splitS (s.extract (4 + cutN s) s.size)).2) := by
  have hz : (s.extract (4 + cutN s) s.size).size ≤ s.size - 4 := by rw [ByteArray.size_extract]; omega
  rw [← splitF_fuel (s.size + 1) s (by omega), splitF_step _ s h1 h2, splitF_fuel _ _ (by omega)]
theorem infoStr : (Try.prog.info? 9).map (fun i => (i.zero, i.size, i.bytes)) = some (some (.string ⟨#[]⟩), 1, 16) := by kernel_rfl
/-- what Split tells -/
def SplitPost (s : ByteArray) (w : World) (e : Ending) (w' : World) : Prop :=
  ∃ v, e = .returned (.tuple #[v, .int .i64 (if (splitS s).2 then 0 else 2)]) ∧ (if (splitS s).2 then w'.ownsRow w.heap.size 9 1 v (splitS s).1.length ((splitS s).1.map Value.string) else v = .slice none 0 0) ∧ Below w.heap.size w w'
theorem SplitPost.mk {s : ByteArray} {w : World} {e : Ending} {w' : World} (b : Bool) (hb : (splitS s).2 = b) (v : Value) (he : e = .returned (.tuple #[v, .int .i64 (if b then 0 else 2)])) (hv : if b then w'.ownsRow w.heap.size 9 1 v (splitS s).1.length ((splitS s).1.map Value.string) else v = .slice none 0 0) (hB : Below w.heap.size w w') : SplitPost s w e w' := by
  subst hb; exact ⟨v, he, hv, hB⟩
def SplitAt (s : ByteArray) (acc : List ByteArray) (r : ByteArray) : Prop :=
  splitS s = (acc ++ (splitS r).1, (splitS r).2) ∧ acc.length + r.size ≤ s.size
theorem SplitAt.step {s : ByteArray} {acc : List ByteArray} {r : ByteArray} (h : SplitAt s acc r) (h1 : 4 ≤ r.size) (h2 : 4 + cutN r ≤ r.size) : SplitAt s (acc ++ [r.extract 4 (4 + cutN r)]) (r.extract (4 + cutN r) r.size) := by
  refine ⟨?_, ?_⟩
  · rw [h.1, splitS_step r h1 h2]; simp
  · have := h.2
    have hz : (r.extract (4 + cutN r) r.size).size ≤ r.size - 4 := by rw [ByteArray.size_extract]; omega
    rw [List.length_append, List.length_singleton]; omega
set_option maxHeartbeats 1000000 in
theorem split_any (s : ByteArray) (w : World) (hs : s.size ≤ 1099511627776) :
    Calls Try.prog 28 #[.string s] w (SplitPost s w) := by
  obtain ⟨i0, hi, hz0, hz1, hz2⟩ := info_parts infoStr
  go_enter Try.func28, Try.ntmps28
  go_wp2
  go_loopw [4, 5] (fun v r wr => ∃ acc : List ByteArray, ∃ R : ByteArray, r = .string R ∧ SplitAt s acc R ∧ wr.ownsRow w.heap.size 9 1 v acc.length (acc.map Value.string) ∧ Below w.heap.size w wr) (fun _ r _ => match r with | .string R => R.size | _ => 0)
  case atStart => exact ⟨[], s, rfl, ⟨by simp, by simp⟩, World.ownsRow_nil _ _ _ _, Below.refl _ _⟩
  case round =>
    obtain ⟨acc, R, rfl, hA, hown, hB⟩ := hrel
    have hle := hA.2
    by_cases h0 : R.size = 0
    · have hR := empty_of_size R h0
      subst hR
      have hsp : splitS s = (acc, true) := by rw [hA.1, splitS_stop _ (.inl (by decide))]; simp only [List.append_nil]; rfl
      have HS := Lib.hid hsp; have HO := Lib.hid hown
      clear hsp hown hA hle
      go_wp2
      go_ret2
      refine SplitPost.mk true (by rw [HS.out]) _ rfl ?_ hB
      have := HO.out
      rw [HS.out]; simpa using this
    · have h0' := isEmpty_of_size R h0
      have h0'' : R.toList.isEmpty = false := by rw [Lib.toList_data]; exact h0'
      by_cases h1 : R.size < 4 ∨ R.size < 4 + cutN R
      · have hsp : (splitS s).2 = false := by rw [hA.1, splitS_stop _ h1]; simpa using h0
        have HS := Lib.hid hsp; have HA := Lib.hid hA; have HO := Lib.hid hown
        have hcut : Calls Try.prog 43 #[.string R] wr fun e w' => e = .returned (.tuple #[.string ⟨#[]⟩, .string ⟨#[]⟩, .bool false]) ∧ Below wr.heap.size wr w' := by
          by_cases h4 : R.size < 4
          · exact cut_short R wr h4
          · exact cut_long R wr (by omega) (by omega) (by omega)
        have HC := Lib.hid hcut
        clear hsp hA hown hcut h1
        go_wp2_with (go_at_call 43; refine HC.out.mono ?_; rintro e w1 ⟨rfl, hb1⟩)
        go_ret2
        exact SplitPost.mk false HS.out _ rfl rfl (hB.trans (hb1.mono hB.size))
      · have hst := hA.step (by omega) (by omega)
        have HA := Lib.hid hst
        have hzl : (R.extract (4 + cutN R) R.size).size ≤ R.size - 4 := by rw [ByteArray.size_extract]; omega
        have hR4 : 4 ≤ R.size := by omega
        clear hst hA
        go_wp2_with (first | (go_at_call 43; refine (cut_yes _ _ (by omega) (by omega) (by omega)).mono ?_; rintro e w1 ⟨rfl, hb1⟩; have hown1 := owns_below hown hb1) | (at_builtin; refine wpList_append_own _ rfl _ _ 46 rfl w.heap.size 9 i0 (.string ⟨#[]⟩) 1 16 Try.underlying46 hi hz0 hz1 hz2 rfl (by decide) _ _ _ rfl (hown1.alloc _) ⟨w1.heap.size, 0, none⟩ 1 1 [.string (R.extract 4 (4 + cutN R))] rfl rfl (cell_one_new _ _ _) ?c2 ?c3 ?c4 ?c5 ?_))
        case c2 => intro u hu; simp at hu; subst hu; rfl
        case c3 => unfold maxLen; omega
        case c4 => omega
        case c5 => have := hb1.size; have := hB.size; simp; omega
        intro v' w2 hown' hgrow _
        have hB2 : Below w.heap.size w w2 := ((hB.trans (hb1.mono hB.size)).alloc (by have := hb1.size; have := hB.size; omega) _).grown hgrow (by have := hb1.size; have := hB.size; simp; omega) (fun k hk => (hown1.lt k hk).1)
        have HO := Lib.hid hown'
        clear hown hown1 hown' hgrow hb1
        go_wp2
        go_roundw
        case rel => exact ⟨_, _, rfl, HA.out, by simpa using HO.out, hB2⟩
        case measure => simp; omega
end Go.Proofs.Ytpkkhbmlclicfaa
/- The document's Split, and its Pack. -/
namespace Go.Proofs.Ytpkkhbmlclicfaa
set_option linter.unusedVariables false
open Go.RowKit
/-- what the document's Split tells -/
def RefSplitPost (s : ByteArray) (w : World) (e : Ending) (w' : World) : Prop :=
  ∃ v, e = .returned (.tuple #[v, .bool (splitS s).2]) ∧ w'.ownsRow w.heap.size 9 1 v (splitS s).1.length ((splitS s).1.map Value.string) ∧ Below w.heap.size w w'
theorem RefSplitPost.mk {s : ByteArray} {w : World} {e : Ending} {w' : World} (l : List ByteArray) (b : Bool) (hb : splitS s = (l, b)) (v : Value) (he : e = .returned (.tuple #[v, .bool b])) (hv : w'.ownsRow w.heap.size 9 1 v l.length (l.map Value.string)) (hB : Below w.heap.size w w') : RefSplitPost s w e w' := by
  unfold RefSplitPost; rw [hb]; exact ⟨v, he, hv, hB⟩
end Go.Proofs.Ytpkkhbmlclicfaa
/- The document's Pack. -/
namespace Go.Proofs.Ytpkkhbmlclicfaa
set_option linter.unusedVariables false
open Go.RowKit
theorem run_convert4 (w : World) (a0 a1 a2 a3 : Int) (T : TypeId) :
    (convert 79 9 (.slice (some ⟨w.heap.size, 0, none⟩) 4 4)).run Try.prog (w.alloc (.cells #[.int .u8 a0, .int .u8 a1, .int .u8 a2, .int .u8 a3] T)) = .ok (.string (strOfNums [a0, a1, a2, a3])) (w.alloc (.cells #[.int .u8 a0, .int .u8 a1, .int .u8 a2, .int .u8 a3] T)) :=
  run_convert_block w _ _ _ T Try.underlying79 Try.underlying5 Try.underlying9 [a0, a1, a2, a3] 4
theorem run_convert4_drew (w : World) (a0 a1 a2 a3 : Int) (T : TypeId) :
    (convert 79 9 (.slice (some ⟨w.heap.size, 0, none⟩) 4 4)).run Try.prog (w.alloc (.cells #[.int .u8 a0, .int .u8 a1, .int .u8 a2, .int .u8 a3] T)).drew = .ok (.string (strOfNums [a0, a1, a2, a3])) (w.alloc (.cells #[.int .u8 a0, .int .u8 a1, .int .u8 a2, .int .u8 a3] T)).drew := by
  refine run_convert_bytes_arg _ _ _ Try.underlying79 Try.underlying5 _ 0 4 4 [a0, a1, a2, a3] rfl (fun i hi => ?_) _ Try.underlying9
  show (w.alloc (.cells ([a0, a1, a2, a3].map (Value.int .u8)).toArray T)).cell? _ = _
  have hi' : i < [a0, a1, a2, a3].length := hi
  rw [cells_new, List.getElem?_map, Nat.zero_add, List.getElem?_eq_getElem hi']
  simp [List.getD, List.getElem?_eq_getElem hi']
theorem joinB (l : List UInt8) (s : ByteArray) : (⟨l.toArray⟩ : ByteArray) ++ (strOfNums [(s.size : Int) / 16777216 % 256, (s.size : Int) / 65536 % 256, (s.size : Int) / 256 % 256, (s.size : Int) % 256] ++ s) = ⟨(l ++ (beD 4 s.size ++ s.data.toList)).toArray⟩ := by
  have h4 : strOfNums [(s.size : Int) / 16777216 % 256, (s.size : Int) / 65536 % 256, (s.size : Int) / 256 % 256, (s.size : Int) % 256] = ⟨(beD 4 s.size).toArray⟩ := by
    unfold strOfNums
    rw [beD_cons, beD_cons, beD_cons, beD_cons, beD, ← digit_eq s.size 3 16777216 rfl, ← digit_eq s.size 2 65536 rfl, ← digit_eq s.size 1 256 rfl]
    have h0 : UInt8.ofNat ((s.size : Int) % 256).toNat = UInt8.ofNat (s.size / 256 ^ 0 % 256) := by
      rw [show ((s.size : Int) % 256) = ((s.size % 256 : Nat) : Int) by rw [Int.natCast_emod]; rfl, Int.toNat_natCast, Nat.pow_zero, Nat.div_one]
    rw [← h0]
    rfl
  have hs : s = ⟨s.data.toList.toArray⟩ := by simp
  rw [h4]
  conv => lhs; rw [hs]
  rw [ByteArray.mk_append_mk, ByteArray.mk_append_mk]
set_option maxRecDepth 100000 in
set_option maxHeartbeats 1000000 in
theorem refPack_some (b0 off cap : Nat) (ss : List ByteArray) (w : World) (h0 : 0 < ss.length) (hm : ss.length ≤ 1099511627776)
    (hc : ∀ j, (hj : j < ss.length) → w.cell? ⟨b0, off + j, none⟩ = some (.string ss[j])) (hroom : (packB ss).length ≤ 140737488355328) :
    Calls Try.prog 18 #[.slice (some ⟨b0, off, none⟩) ss.length cap] w fun e w' => e = .returned (.string ⟨(packB ss).toArray⟩) ∧ Below w.heap.size w w' := by
  have HC := Lib.hid hc; clear hc
  have HR := Lib.hid hroom; clear hroom
  have hcv := run_convert4_drew
  have hcv2 := run_convert4
  have hz4 : ∀ a b c d, (strOfNums [a, b, c, d]).size = 4 := fun _ _ _ _ => rfl
  go_enter Try.func18, Try.ntmps18
  go_wp2
  go_loopw [3, 4] (fun o i wr => ∃ k : Nat, k ≤ ss.length ∧ i = .int .i64 k ∧ (∃ S : ByteArray, o = .string S ∧ Hid (S = ⟨(packB (ss.take k)).toArray⟩)) ∧ Below w.heap.size w wr) (fun _ i _ => ss.length - (intOf i).toNat)
  case atStart => exact ⟨0, Nat.zero_le _, rfl, ⟨_, rfl, rfl⟩, Below.refl _ _⟩
  case round =>
    obtain ⟨k, hk, rfl, ⟨S, rfl, hS⟩, hB⟩ := hrel
    by_cases hlt : k < ss.length
    · have hcell0 := cell_later hB (HC.out k hlt)
      obtain ⟨s, hs⟩ : ∃ s, s = ss[k] := ⟨_, rfl⟩
      rw [← hs] at hcell0
      have HS := Lib.hid hs
      have hpt := packB_take ss k hlt
      rw [← hs] at hpt
      have hl1 := packB_take_le ss (k + 1)
      rw [hpt, List.length_append, List.length_append, beD_length] at hl1
      have hsl : s.data.toList.length = s.size := by simp
      have hSl : S.size = (packB (ss.take k)).length := by rw [hS.out]; exact List.size_toArray
      have hroom := HR.out
      have L1 : S.size + 4 + s.size ≤ 140737488355328 := by omega
      have HPT := Lib.hid hpt
      clear hs hpt hl1 hsl hSl hroom
      have n1 : ¬ 9223372036854775807 < 4 + s.size := by omega
      have n2 : ¬ 9223372036854775807 < S.size + (4 + s.size) := by omega
      have hcell1 : ∀ o, (wr.alloc o).cell? ⟨b0, off + k, none⟩ = some (.string s) := fun o => cell_later ((Below.refl _ _).alloc (Nat.le_refl _) o) hcell0
      have hk1 : (k : Int) < (ss.length : Int) := by omega
      have hk2 : (0 : Int) ≤ (k : Int) := by omega
      go_wp2
      go_region_with (fail)
      all_goals
        go_wp2
        go_roundw
        case rel => exact ⟨k + 1, by omega, by go_num, ⟨_, rfl, by rw [HPT.out, hS.out]; exact joinB _ s⟩, (hB.alloc hB.size _).drew⟩
        case measure => simp [intOf]; omega
    · obtain rfl : k = ss.length := by omega
      go_wp2
      go_ret
      exact ⟨by rw [hS.out, List.take_length]; rfl, hB⟩
set_option maxRecDepth 100000 in
set_option maxHeartbeats 1000000 in
theorem refPack_none (a : Option Addr) (cap : Nat) (w : World) :
    Calls Try.prog 18 #[.slice a 0 cap] w fun e w' => e = .returned (.string ⟨(packB []).toArray⟩) ∧ Below w.heap.size w w' := by
  go_enter Try.func18, Try.ntmps18
  go_wp2
  refine wp_loop_rounds 1 ?_; rw [rounds_succ]
  go_wp2
  go_ret
  exact ⟨rfl, Below.refl _ _⟩
theorem refPack_any (v : Value) (ss : List ByteArray) (w : World) (hm : ss.length ≤ 1099511627776) (hv : Row w v 1 ss.length (ss.map Value.string)) (hroom : (packB ss).length ≤ 140737488355328) :
    Calls Try.prog 18 #[v] w fun e w' => e = .returned (.string ⟨(packB ss).toArray⟩) ∧ Below w.heap.size w w' := by
  rcases Nat.eq_zero_or_pos ss.length with h0 | h0
  · obtain rfl := List.length_eq_zero_iff.1 h0
    obtain ⟨a, cap, rfl, _⟩ := hv
    exact refPack_none a cap w
  · obtain ⟨b, off, cap, rfl, hc⟩ := hv.pos h0
    refine refPack_some b off cap ss w h0 hm (fun j hj => ?_) hroom
    rw [hc j (by omega), List.getElem?_map, List.getElem?_eq_getElem hj]; rfl
theorem data_mk (l : List UInt8) : (⟨l.toArray⟩ : ByteArray).data.toList = l := by simp
theorem size_mk (l : List UInt8) : (⟨l.toArray⟩ : ByteArray).size = l.length := List.size_toArray
theorem extract_mk (l : List UInt8) (a b : Nat) : (⟨l.toArray⟩ : ByteArray).extract a b = ⟨((l.drop a).take (b - a)).toArray⟩ := by
  rw [Lib.extract_eq, data_mk]
/-- what was packed is split again -/
theorem splitS_packB (ss : List ByteArray) (h : ∀ s ∈ ss, s.size < 4294967296) : splitS ⟨(packB ss).toArray⟩ = (ss, true) := by
  induction ss with
  | nil => decide +kernel
  | cons s ss ih =>
    have hs : s.size < 4294967296 := h s (by simp)
    have hp : packB (s :: ss) = beD 4 s.size ++ (s.data.toList ++ packB ss) := by simp [packB]
    have hl : (beD 4 s.size).length = 4 := beD_length _ _
    have hsl : s.data.toList.length = s.size := by simp
    have hN : cutN ⟨(packB (s :: ss)).toArray⟩ = s.size := by
      unfold cutN
      rw [data_mk, hp, List.take_append_of_le_length (by omega), List.take_of_length_le (by omega), beVal_beD, Nat.mod_eq_of_lt (by omega)]
    have hz : (⟨(packB (s :: ss)).toArray⟩ : ByteArray).size = 4 + s.size + (packB ss).length := by
      rw [size_mk, hp, List.length_append, List.length_append, hl, hsl]; omega
    rw [splitS_step _ (by rw [hz]; omega) (by rw [hz, hN]; omega), hN, extract_mk, extract_mk, hz]
    have e1 : ((packB (s :: ss)).drop 4).take (4 + s.size - 4) = s.data.toList := by
      rw [hp, List.drop_append_of_le_length (by omega), List.drop_of_length_le (by omega), List.nil_append, show 4 + s.size - 4 = s.data.toList.length by omega, List.take_left]
    have e2 : ((packB (s :: ss)).drop (4 + s.size)).take (4 + s.size + (packB ss).length - (4 + s.size)) = packB ss := by
      rw [hp, ← List.append_assoc, List.drop_left' (by rw [List.length_append, hl, hsl]), show 4 + s.size + (packB ss).length - (4 + s.size) = (packB ss).length by omega, List.take_length]
    rw [e1, e2, ih (fun x hx => h x (by simp [hx]))]
end Go.Proofs.Ytpkkhbmlclicfaa
/- Rows of values as plain mathematics: the key of a value, and which texts are keys. No program, no conditions beyond those that each statement names. -/
namespace Go.Proofs.Ytpkkhbmlclicfaa.val
set_option linter.unusedVariables false
/-- the bytes of a value in its row's key -/
def tailB (v : V) : List UInt8 := if v.k = 1 then [UInt8.ofNat v.n.toNat] else if v.k = 2 then intB v.n else if v.k = 3 then v.s.data.toList else []
def encB (v : V) : List UInt8 := UInt8.ofNat v.k.toNat :: tailB v
def encS (v : V) : ByteArray := ⟨(encB v).toArray⟩
/-- is a text a value's? -/
def shapeB (s : ByteArray) : Bool := match s.data.toList with
  | [] => false
  | k :: r => if k = 0 then r.isEmpty else if k = 1 then (match r with | [b] => decide (b.toNat < 2) | _ => false) else if k = 2 then decide (r.length = 8) else if k = 3 then decide (r.length ≤ 64) else false
theorem enc_1 (n : Int) (s : ByteArray) : encB ⟨1, n, s⟩ = [1, UInt8.ofNat n.toNat] := rfl
theorem enc_2 (n : Int) (s : ByteArray) : encB ⟨2, n, s⟩ = 2 :: intB n := rfl
theorem enc_3 (n : Int) (s : ByteArray) : encB ⟨3, n, s⟩ = 3 :: s.data.toList := rfl
theorem bytes_data {a b : ByteArray} (h : a.data.toList = b.data.toList) : a = b := by
  cases a; cases b; simp at h; simp [h]
theorem enc_inj {a b : V} (ha : Good a) (hb : Good b) (h : encB a = encB b) : a = b := by
  cases a with | mk ka na sa =>
  cases b with | mk kb nb sb =>
  have e0 := congrArg List.head? h
  unfold Good at ha hb
  dsimp only at ha hb
  have ek : ka = kb := by
    simp only [encB, List.head?_cons, Option.some.injEq] at e0
    have := congrArg UInt8.toNat e0
    simp at this
    omega
  subst ek
  rcases ha with ⟨rfl, rfl, rfl⟩ | ⟨rfl, h1, rfl⟩ | ⟨rfl, rfl, h1⟩ | ⟨rfl, rfl, h1⟩
  · have hb' : nb = 0 ∧ sb = ByteArray.empty := by simpa using hb
    rw [hb'.1, hb'.2]
  · have hb' : (nb = 0 ∨ nb = 1) ∧ sb = ByteArray.empty := by simpa using hb
    obtain ⟨h2, rfl⟩ := hb'
    rw [enc_1, enc_1] at h
    simp only [List.cons.injEq, true_and, and_true] at h
    have := congrArg UInt8.toNat h
    simp at this
    have : na = nb := by omega
    rw [this]
  · have hb' : sb = ByteArray.empty ∧ -9223372036854775808 ≤ nb ∧ nb ≤ 9223372036854775807 := by simpa using hb
    obtain ⟨rfl, h2⟩ := hb'
    rw [enc_2, enc_2] at h
    simp only [List.cons.injEq, true_and] at h
    rw [intB_inj na nb h1 h2 h]
  · have hb' : nb = 0 ∧ sb.size ≤ 64 := by simpa using hb
    obtain ⟨rfl, h2⟩ := hb'
    rw [enc_3, enc_3] at h
    simp only [List.cons.injEq, true_and] at h
    rw [bytes_data h]
theorem enc_shape {v : V} (h : Good v) : shapeB (encS v) = true := by
  cases v with | mk k n s =>
  unfold Good at h
  dsimp only at h
  unfold shapeB encS
  rcases h with ⟨rfl, rfl, rfl⟩ | ⟨rfl, h1, rfl⟩ | ⟨rfl, rfl, h1⟩ | ⟨rfl, rfl, h1⟩
  · rfl
  · rcases h1 with rfl | rfl <;> rfl
  · simp [enc_2, intB_length]
  · rw [enc_3]
    have : s.data.toList.length = s.size := by rw [← ByteArray.size_data]; simp
    simp [this, h1]
theorem enc_len {v : V} (h : Good v) : (encB v).length ≤ 65 := by
  cases v with | mk k n s =>
  unfold Good at h
  dsimp only at h
  rcases h with ⟨rfl, rfl, rfl⟩ | ⟨rfl, h1, rfl⟩ | ⟨rfl, rfl, h1⟩ | ⟨rfl, rfl, h1⟩
  · decide
  · simp [enc_1]
  · simp [enc_2, intB_length]
  · have : s.data.toList.length = s.size := by rw [← ByteArray.size_data]; simp
    rw [enc_3, List.length_cons]; omega
theorem encS_size (v : V) : (encS v).size = (encB v).length := size_mk _
/-- the key of a row -/
def keyB (l : List V) : List UInt8 := packB (l.map encS)
theorem keyB_len (l : List V) (h : ∀ v ∈ l, Good v) : (keyB l).length ≤ l.length * 69 := by
  unfold keyB
  rw [packB_length]
  induction l with
  | nil => simp
  | cons v l ih =>
    have h1 := enc_len (h v (by simp))
    have h2 := ih (fun u hu => h u (by simp [hu]))
    simp only [List.map_cons, List.sum_cons, List.length_cons, encS_size] at h2 ⊢
    omega
theorem split_key (l : List V) (h : ∀ v ∈ l, Good v) : splitS ⟨(keyB l).toArray⟩ = (l.map encS, true) := by
  refine splitS_packB _ fun s hs => ?_
  obtain ⟨v, hv, rfl⟩ := List.mem_map.1 hs
  have := enc_len (h v hv)
  rw [encS_size]; omega
theorem encS_inj {a b : V} (ha : Good a) (hb : Good b) (h : encS a = encS b) : a = b :=
  enc_inj ha hb (by have := congrArg (fun s : ByteArray => s.data.toList) h; simpa [encS] using this)
theorem map_enc_inj : ∀ (l m : List V), (∀ v ∈ l, Good v) → (∀ v ∈ m, Good v) → l.map encS = m.map encS → l = m
  | [], [], _, _, _ => rfl
  | [], b :: m, _, _, h => by simp at h
  | a :: l, [], _, _, h => by simp at h
  | a :: l, b :: m, ha, hb, h => by
    simp only [List.map_cons, List.cons.injEq] at h
    rw [encS_inj (ha a (by simp)) (hb b (by simp)) h.1, map_enc_inj l m (fun v hv => ha v (by simp [hv])) (fun v hv => hb v (by simp [hv])) h.2]
/-- what is whole is packed as it was -/
theorem packB_split : ∀ (f : Nat) (s : ByteArray), s.size ≤ f → (splitS s).2 = true → packB (splitS s).1 = s.data.toList := by
  intro f
  induction f with
  | zero =>
    intro s hs h
    have h0 : s.size = 0 := by omega
    rw [splitS_stop s (.inl (by omega))]
    have : s.data.toList.length = s.size := by rw [← ByteArray.size_data]; simp
    rw [List.eq_nil_of_length_eq_zero (by omega : s.data.toList.length = 0)]
    rfl
  | succ f ih =>
    intro s hs h
    have hl : s.data.toList.length = s.size := by rw [← ByteArray.size_data]; simp
    by_cases hc : s.size < 4 ∨ s.size < 4 + cutN s
    · rw [splitS_stop s hc] at h ⊢
      have h0 : s.size = 0 := by simpa using h
      rw [List.eq_nil_of_length_eq_zero (by omega : s.data.toList.length = 0)]
      rfl
    · have h1 : 4 ≤ s.size := by omega
      have h2 : 4 + cutN s ≤ s.size := by omega
      rw [splitS_step s h1 h2] at h ⊢
      have hz : (s.extract (4 + cutN s) s.size).size = s.size - (4 + cutN s) := by rw [ByteArray.size_extract]; omega
      have := ih (s.extract (4 + cutN s) s.size) (by rw [hz]; omega) h
      show packB ([s.extract 4 (4 + cutN s)] ++ (splitS (s.extract (4 + cutN s) s.size)).1) = _
      have hp : ∀ (x : ByteArray) l, packB ([x] ++ l) = beD 4 x.size ++ (x.data.toList ++ packB l) := fun x l => by simp [packB]
      rw [hp, this]
      have e1 : (s.extract 4 (4 + cutN s)).size = cutN s := by rw [ByteArray.size_extract]; omega
      have e2 : (s.extract 4 (4 + cutN s)).data.toList = (s.data.toList.drop 4).take (cutN s) := by
        rw [Lib.extract_data]; simp
      have e3 : (s.extract (4 + cutN s) s.size).data.toList = s.data.toList.drop (4 + cutN s) := by
        rw [Lib.extract_data]
        rw [List.take_of_length_le (by simp)]
      have e4 : beD 4 (cutN s) = s.data.toList.take 4 := by
        have := beD_beVal (s.data.toList.take 4)
        rwa [show (s.data.toList.take 4).length = 4 by rw [List.length_take]; omega] at this
      rw [e1, e2, e3, e4]
      have := List.take_append_drop 4 s.data.toList
      have h5 := List.take_append_drop (cutN s) (s.data.toList.drop 4)
      rw [List.drop_drop] at h5
      rw [h5, this]
end Go.Proofs.Ytpkkhbmlclicfaa.val
