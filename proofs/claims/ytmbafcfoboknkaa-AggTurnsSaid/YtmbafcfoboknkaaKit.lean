/- Small laws of no program: a byte block made by the call turned into a string; a slice that is read as a row of cells. No conditions beyond those that each statement names. -/
import Derived.WalkKit
import Derived.WalkSpells
import Derived.Laws.BytesArg
import Derived.Lib.Strings
import Derived.Lib.Hide
import Derived.Below
import Derived.Lib.Builder
import Derived.Laws.BitsAllLaws
namespace Go.Proofs.Ytmbafcfoboknkaa
set_option linter.unusedVariables false
open Go.RowKit
theorem cells_new (w : World) (vs : List Value) (T : TypeId) (i : Nat) : (w.alloc (.cells vs.toArray T)).cell? ⟨w.heap.size, i, none⟩ = vs[i]? := by
  have h : (w.alloc (.cells vs.toArray T)).heap[w.heap.size]? = some (.cells vs.toArray T (0, 0)) := by
    show (w.heap.push _)[w.heap.size]? = _
    simp
  rw [Lib.cell_of_heap h]; simp
/-- 'string(b[:])' of a block that the call has just made: its bytes. -/
theorem run_convert_block {P : Program} (w : World) (src dst e T : TypeId) (hs : P.underlying src = some (.slice e)) (he : P.underlying e = some (.int .u8)) (hd : P.underlying dst = some .string) (xs : List Int) (cap : Nat) :
    (convert src dst (.slice (some ⟨w.heap.size, 0, none⟩) xs.length cap)).run P (w.alloc (.cells (xs.map (Value.int .u8)).toArray T)) = .ok (.string (strOfNums xs)) (w.alloc (.cells (xs.map (Value.int .u8)).toArray T)) := by
  refine run_convert_bytes_arg _ src e hs he _ 0 xs.length cap xs rfl (fun i hi => ?_) dst hd
  rw [cells_new, List.getElem?_map, Nat.zero_add, List.getElem?_eq_getElem hi]
  simp [List.getD, List.getElem?_eq_getElem hi]
theorem wrap_u64_bd (n : Int) : 0 ≤ IntKind.u64.wrap n ∧ IntKind.u64.wrap n < 18446744073709551616 := by
  rw [IntKind.wrap_u64]; omega
theorem bits_u64_bd (op : BinOp) (a b : Int) : 0 ≤ bits op .u64 a b ∧ bits op .u64 a b < 18446744073709551616 := by
  unfold bits; exact wrap_u64_bd _
theorem or_byte (u : Nat) (b : UInt8) (hu : u < 72057594037927936) : bits .or .u64 (IntKind.u64.wrap (↑u * 256)) (IntKind.u64.wrap ↑b.toNat) = ((256 * u + b.toNat : Nat) : Int) := by
  have hb := b.toNat_lt
  have e1 : IntKind.u64.wrap ((u : Int) * 256) = ((256 * u : Nat) : Int) := by rw [IntKind.wrap_u64]; omega
  have e2 : IntKind.u64.wrap (b.toNat : Int) = ((b.toNat : Nat) : Int) := by rw [IntKind.wrap_u64]; omega
  rw [e1, e2, u64_or_nat _ _ (by omega) (by omega), nat_join 8 (256 * u) b.toNat (by omega) (by omega)]
theorem take_snoc (s : ByteArray) (k : Nat) (h : k < s.size) : s.data.toList.take (k + 1) = s.data.toList.take k ++ [s[k]] := by
  rw [List.take_succ_eq_append_getElem (by simpa using h)]; rfl
theorem take_all (s : ByteArray) (k : Nat) (h : s.size ≤ k) : s.data.toList.take k = s.data.toList :=
  List.take_of_length_le (by simpa using h)
theorem ret_u64 {a b : Int} (h : a = b) : Ending.returned (.int .u64 a) = .returned (.int .u64 b) := by rw [h]
theorem ret_i64 {a b : Int} (h : a = b) : Ending.returned (.int .i64 a) = .returned (.int .i64 b) := by rw [h]
theorem ret_str {a b : ByteArray} (h : a = b) : Ending.returned (.string a) = .returned (.string b) := by rw [h]
theorem i64_or_nat (a b : Nat) (ha : a < 9223372036854775808) (hb : b < 9223372036854775808) : bits .or .i64 (a : Int) (b : Int) = ((a ||| b : Nat) : Int) := by
  have hx : a ||| b < 2 ^ 63 := Nat.or_lt_two_pow (by omega) (by omega)
  show IntKind.i64.wrap ((BitVec.ofInt 64 (a : Int) ||| BitVec.ofInt 64 (b : Int)).toNat : Int) = _
  rw [BitVec.toNat_or, ofInt_u64 a (by omega), ofInt_u64 b (by omega)]
  simp only [IntKind.wrap, IntKind.bits, IntKind.signed]; simp; omega
theorem be4_or (a b c d : UInt8) : bits BinOp.or IntKind.i64 (bits BinOp.or IntKind.i64 (bits BinOp.or IntKind.i64 (wrap64 (wrap64 ↑a.toNat * 16777216)) (wrap64 (wrap64 ↑b.toNat * 65536))) (wrap64 (wrap64 ↑c.toNat * 256))) (wrap64 ↑d.toNat)
    = ((((a.toNat * 256 + b.toNat) * 256 + c.toNat) * 256 + d.toNat : Nat) : Int) := by
  have ha := a.toNat_lt; have hb := b.toNat_lt; have hc := c.toNat_lt; have hd := d.toNat_lt
  rw [IntWalk.wrap64_in (a.toNat : Int) ⟨by omega, by omega⟩, IntWalk.wrap64_in (b.toNat : Int) ⟨by omega, by omega⟩, IntWalk.wrap64_in (c.toNat : Int) ⟨by omega, by omega⟩, IntWalk.wrap64_in (d.toNat : Int) ⟨by omega, by omega⟩,
    IntWalk.wrap64_in ((a.toNat : Int) * 16777216) ⟨by omega, by omega⟩, IntWalk.wrap64_in ((b.toNat : Int) * 65536) ⟨by omega, by omega⟩, IntWalk.wrap64_in ((c.toNat : Int) * 256) ⟨by omega, by omega⟩]
  rw [show ((a.toNat : Int) * 16777216) = ((a.toNat * 16777216 : Nat) : Int) from rfl, show ((b.toNat : Int) * 65536) = ((b.toNat * 65536 : Nat) : Int) from rfl, show ((c.toNat : Int) * 256) = ((c.toNat * 256 : Nat) : Int) from rfl]
  rw [i64_or_nat _ _ (by omega) (by omega), nat_join 24 _ _ (by omega) (by omega), i64_or_nat _ _ (by omega) (by omega), nat_join 16 _ _ (by omega) (by omega), i64_or_nat _ _ (by omega) (by omega), nat_join 8 _ _ (by omega) (by omega)]
  rw [show a.toNat * 16777216 + b.toNat * 65536 + c.toNat * 256 + d.toNat = ((a.toNat * 256 + b.toNat) * 256 + c.toNat) * 256 + d.toNat by omega]
theorem be4_sum (a b c d : UInt8) : IntKind.u64.wrap (IntKind.u64.wrap (IntKind.u64.wrap (IntKind.u64.wrap (IntKind.u64.wrap ↑a.toNat * 16777216) + IntKind.u64.wrap (IntKind.u64.wrap ↑b.toNat * 65536)) + IntKind.u64.wrap (IntKind.u64.wrap ↑c.toNat * 256)) + IntKind.u64.wrap ↑d.toNat)
    = ((((a.toNat * 256 + b.toNat) * 256 + c.toNat) * 256 + d.toNat : Nat) : Int) := by
  have ha := a.toNat_lt; have hb := b.toNat_lt; have hc := c.toNat_lt; have hd := d.toNat_lt
  simp only [IntKind.wrap_u64]
  omega
/-- A slice value that reads as the cells xs, so many to an element. -/
def Row (w : World) (v : Value) (size n : Nat) (xs : List Value) : Prop :=
  ∃ a cap, v = .slice a n cap ∧ xs.length = n * size ∧ (n = 0 ∨ ∃ b off, a = some ⟨b, off, none⟩ ∧ ∀ j, j < n * size → w.cell? ⟨b, off + j, none⟩ = xs[j]?)
theorem Row.later {w w' : World} {v : Value} {size n : Nat} {xs : List Value} (h : Row w v size n xs) (hb : Below w.heap.size w w') : Row w' v size n xs := by
  obtain ⟨a, cap, hv, hl, h⟩ := h
  refine ⟨a, cap, hv, hl, h.imp id ?_⟩
  rintro ⟨b, off, ha, hc⟩
  refine ⟨b, off, ha, fun j hj => ?_⟩
  have h1 := hc j hj
  rw [List.getElem?_eq_getElem (by omega)] at h1 ⊢
  exact cell_later hb h1
theorem Row.of_owns {w : World} {base : Nat} {e : TypeId} {size n : Nat} {v : Value} {xs : List Value} (h : w.ownsRow base e size v n xs) : Row w v size n xs := by
  have hl := h.1
  rcases h.2 with ⟨rfl, rfl⟩ | ⟨g, cap, cur, rfl, _⟩
  · exact ⟨none, 0, rfl, hl, .inl rfl⟩
  · exact ⟨_, cap, rfl, hl, .inr ⟨g, 0, rfl, fun j hj => by simpa using h.cellAt j hj⟩⟩
theorem Row.pos {w : World} {v : Value} {size n : Nat} {xs : List Value} (h : Row w v size n xs) (hn : 0 < n) : ∃ b off cap, v = .slice (some ⟨b, off, none⟩) n cap ∧ ∀ j, j < n * size → w.cell? ⟨b, off + j, none⟩ = xs[j]? := by
  obtain ⟨a, cap, hv, _, h⟩ := h
  rcases h with h | ⟨b, off, rfl, hc⟩
  · omega
  · exact ⟨b, off, cap, hv, hc⟩
theorem Row.len {w : World} {v : Value} {size n : Nat} {xs : List Value} (h : Row w v size n xs) : xs.length = n * size := h.choose_spec.choose_spec.2.1
theorem owns_below {w w' : World} {B : Nat} {e : TypeId} {k : Nat} {v : Value} {n : Nat} {xs : List Value} (h : w.ownsRow B e k v n xs) (hb : Below w.heap.size w w') : w'.ownsRow B e k v n xs := by
  refine h.kept (row := none) ⟨hb.os, hb.tape, hb.output, hb.size, fun j hj _ => hb.block j hj⟩ ?_
  cases v.ownBlock
  · exact .inl rfl
  · exact .inr (by simp)
theorem empty_of_size (R : ByteArray) (h : R.size = 0) : R = ⟨#[]⟩ := by
  have : R.data.size = 0 := h
  cases R; simp at this; subst this; rfl
theorem isEmpty_of_size (R : ByteArray) (h : R.size ≠ 0) : R.data.toList.isEmpty = false := by
  cases hd : R.data.toList with
  | nil => exact absurd (show R.size = 0 by rw [← ByteArray.size_data, ← Array.length_toList, hd]; rfl) h
  | cons => rfl
end Go.Proofs.Ytmbafcfoboknkaa
