/- The store of cells in memory, as functions: a text and watchers for each name. -/
import Derived.Test.YtfaoeajaahnooaaOnly
import Derived.Test.YtfaoeajaahnooaaOwn
import Derived.Test.YtfaoeajaahnooaaProg
import Derived.Maps.OwnSet
import Derived.Carry
import Derived.WalkKit
import Derived.StringKeys
namespace Go.Proofs.Ytfaoeajaahnooaa.cel
set_option linter.unusedVariables false
open Go.RowKit Go.WideShapes Go.MapKept

abbrev TSt : TypeId := 48
abbrev TK : TypeId := 9
abbrev TI : TypeId := 3
abbrev M1 : TypeId := 45
abbrev M2 : TypeId := 46
abbrev M3 : TypeId := 49
abbrev Dat := DataW Unit
def nm (s : ByteArray) : Lit := .string s.data.toList
def nb (i : Int) : Lit := .int .i64 i
theorem nm_inj {s t : ByteArray} (h : nm s = nm t) : s = t := by
  unfold nm at h
  simp only [Lit.string.injEq] at h
  exact ByteArray.ext (Array.toList_inj.1 h)
theorem nm_key (s : ByteArray) : WideAt.IsKeyLit (nm s) := trivial
theorem nb_key (i : Int) : WideAt.IsKeyLit (nb i) := trivial
/-- how a cell's text reads -/
def txD (s : ByteArray) : Dat := .agg [.lit (.string s.data.toList)]
def txE (v : Value) : Option (Dat × List MemPlace) := match v with
  | .agg cs => (match cs.toList with
    | [.string s] => some (txD s, [])
    | _ => none)
  | _ => none
theorem txE_mk (s : ByteArray) : txE (.agg #[.string s]) = some (txD s, []) := rfl
theorem txE_inv {v : Value} {s : ByteArray} {ps : List MemPlace} (h : txE v = some (txD s, ps)) : v = .agg #[.string s] := by
  unfold txE at h
  split at h
  · rename_i cs
    split at h
    · rename_i t ht
      simp only [Option.some.injEq, Prod.mk.injEq] at h
      obtain ⟨h, -⟩ := h
      unfold txD at h
      simp only [DataW.agg.injEq, List.cons.injEq, DataW.lit.injEq, Lit.string.injEq, and_true] at h
      have : t = s := ByteArray.ext (Array.toList_inj.1 h)
      subst this
      have : cs = #[.string t] := by rw [← Array.toList_inj]; exact ht
      rw [this]
    · cases h
  · cases h
/-- how a set of watchers reads, in the map of them: by its block -/
def wsD : Option Nat → Dat
  | none => .nil
  | some b => .lit (.int .i64 (b : Int))
def wsE (v : Value) : Option (Dat × List MemPlace) := match v with
  | .map o => some (wsD o, [])
  | _ => none
theorem wsD_inj {a b : Option Nat} (h : wsD a = wsD b) : a = b := by
  cases a <;> cases b <;> simp [wsD] at h ⊢
  omega
theorem wsE_inv {v : Value} {o : Option Nat} {ps : List MemPlace} (h : wsE v = some (wsD o, ps)) : v = .map o := by
  unfold wsE at h
  split at h
  · rename_i o'
    simp only [Option.some.injEq, Prod.mk.injEq] at h
    rw [wsD_inj h.1]
  · cases h
theorem keyedS : Go.Maps.Keyed Try.prog TK := Go.Maps.string_keyed Try.underlying9
theorem keyedI : Go.Maps.Keyed Try.prog TI := Go.Maps.int_keyed Try.underlying3
theorem keyS {s : ByteArray} (h : s.size ≤ maxLen) : keyOf Try.prog TK (.string s) = some (nm s) := Go.WideMaps.keyOf_string_mk Try.underlying9 h
theorem keyI {i : Int} (h : -9223372036854775808 ≤ i ∧ i ≤ 9223372036854775807) : keyOf Try.prog TI (.int .i64 i) = some (nb i) := Go.Maps.keyOf_int_mk Try.underlying3 (Go.WalkArith.wf_i64 (by omega))
/-- a set of numbers -/
def SetAt (w : World) (b : Nat) (m : Nat) (l : List Int) : Prop := ∃ D : Dat, w.ownsMap Try.prog TI unitElem b m D ∧ (∀ i, Go.Maps.has D (nb i) = decide (i ∈ l)) ∧ l.Pairwise (· < ·)
/-- what a store holds -/
structure CS where
  tx : ByteArray → ByteArray
  wh : ByteArray → List Int
  n : Int
/-- a store in memory, its blocks of a set; m: how much has been stored, at most -/
structure Cel (own : Nat → Prop) (bs m : Nat) (S : CS) (w : World) (bt bw : Nat) (Dt Dw : Dat) (bk : ByteArray → Option Nat) : Prop where
  fl : Flds w bs TSt [.map (some bt), .map (some bw), .int .i64 S.n]
  obs : own bs
  obt : own bt
  obw : own bw
  ne : bt ≠ bw
  mt : w.ownsMap Try.prog TK txE bt m Dt
  at_t : ∀ s, s.size ≤ maxLen → Dt.atKey (nm s) (txD ByteArray.empty) = txD (S.tx s)
  has_t : ∀ s, s.size ≤ maxLen → Go.Maps.has Dt (nm s) = decide (S.tx s ≠ ByteArray.empty)
  mw : w.ownsMap Try.prog TK wsE bw m Dw
  at_w : ∀ s, s.size ≤ maxLen → Dw.atKey (nm s) (wsD none) = wsD (bk s)
  nil_w : ∀ s, s.size ≤ maxLen → (bk s = none → S.wh s = [])
  sets : ∀ s b, s.size ≤ maxLen → bk s = some b → own b ∧ b ≠ bt ∧ b ≠ bw ∧ SetAt w b m (S.wh s)
  inj : ∀ s s' b, s.size ≤ maxLen → s'.size ≤ maxLen → bk s = some b → bk s' = some b → s = s'
theorem fieldT (s : ByteArray) (w : World) : (Instr.field 52 (.agg #[.string s]) 0).run Try.prog w = .ok (.string s) w := by kernel_rfl
attribute [local go_sem] fieldT
theorem zT (w : World) : (zeroValue 52).run Try.prog w = .ok (.agg #[.string ByteArray.empty]) w := by kernel_rfl
theorem zM (w : World) : (zeroValue M3).run Try.prog w = .ok (.map none) w := by kernel_rfl
theorem zU (w : World) : (zeroValue 50).run Try.prog w = .ok (.agg #[]) w := by kernel_rfl
section
variable {own : Nat → Prop} {bs m : Nat} {S : CS} {w : World} {bt bw : Nat} {Dt Dw : Dat} {bk : ByteArray → Option Nat}
theorem Cel.text (h : Cel own bs m S w bt bw Dt Dw bk) (k : ByteArray) (hk : k.size ≤ maxLen) : (Instr.lookup M1 (.map (some bt)) (.string k) false).run Try.prog w = .ok (.agg #[.string (S.tx k)]) w := by
  obtain ⟨v, ps, h1, h2⟩ := h.mt.lookup keyedS Try.underlying45 (zT w) (txE_mk _) (keyS hk)
  rw [h.at_t k hk] at h2
  rw [h1, txE_inv h2]
theorem Cel.set (h : Cel own bs m S w bt bw Dt Dw bk) (k : ByteArray) (hk : k.size ≤ maxLen) : (Instr.lookup M2 (.map (some bw)) (.string k) false).run Try.prog w = .ok (.map (bk k)) w := by
  obtain ⟨v, ps, h1, h2⟩ := h.mw.lookup keyedS Try.underlying46 (zM w) (rfl : wsE (.map none) = some (wsD none, [])) (keyS hk)
  rw [h.at_w k hk] at h2
  rw [h1, wsE_inv h2]
/-- who watches, looked up -/
theorem Cel.who (h : Cel own bs m S w bt bw Dt Dw bk) (k : ByteArray) (hk : k.size ≤ maxLen) (i : Int) (hi : -9223372036854775808 ≤ i ∧ i ≤ 9223372036854775807) : (Instr.lookup M3 (.map (bk k)) (.int .i64 i) true).run Try.prog w = .ok (.tuple #[.agg #[], .bool (decide (i ∈ S.wh k))]) w := by
  cases hb : bk k with
  | none =>
    rw [Go.Maps.look_nil true keyedI Try.underlying49 (zU w) (keyI hi), h.nil_w k hk hb]
    simp
  | some b =>
    obtain ⟨-, -, -, D, h1, h2, -⟩ := h.sets k b hk hb
    obtain ⟨v, ps, h3, h4⟩ := h1.look_ok keyedI Try.underlying49 (zU w) unitElem_mk (keyI hi)
    obtain ⟨rfl, -⟩ := unitElem_inv h4
    rw [h3, h2]
set_option maxRecDepth 100000 in
set_option maxHeartbeats 400000 in
theorem get_any (h : Cel own bs m S w bt bw Dt Dw bk) (k : ByteArray) (hk : k.size ≤ maxLen) :
    Calls Try.prog 13 #[.pointer (some ⟨bs, 0, none⟩), .string k] w fun e w' => e = .returned (.string (S.tx k)) ∧ w' = w := by
  have q0 := h.fl.cell 0
  have l0 := h.fl.lt
  have hr := h.text k hk
  simp only [List.getElem?_cons_zero] at q0
  have HS := Lib.hid h
  clear h
  go_enter Try.func13, Try.ntmps13
  go_wp2_with fail
  go_ret
  exact ⟨rfl, rfl⟩
set_option maxRecDepth 100000 in
set_option maxHeartbeats 400000 in
theorem watched1_any (h : Cel own bs m S w bt bw Dt Dw bk) (k : ByteArray) (hk : k.size ≤ maxLen) (i : Int) (hi : -9223372036854775808 ≤ i ∧ i ≤ 9223372036854775807) :
    Calls Try.prog 18 #[.pointer (some ⟨bs, 0, none⟩), .string k, .int .i64 i] w fun e w' => e = .returned (.bool (decide (i ∈ S.wh k))) ∧ Below w.heap.size w w' := by
  have q1 := h.fl.cell 1
  have l0 := h.fl.lt
  have hr := h.set k hk
  have hr2 := h.who k hk i hi
  simp only [List.getElem?_cons_zero, List.getElem?_cons_succ] at q1
  have HS := Lib.hid h
  obtain ⟨B, hB⟩ : ∃ B, decide (i ∈ S.wh k) = B := ⟨_, rfl⟩
  rw [hB] at hr2 ⊢
  clear h hB
  go_enter Try.func18, Try.ntmps18
  go_wp2_with fail
  go_ret
  exact ⟨rfl, (Below.refl _ _).alloc (Nat.le_refl _) _⟩
end
end Go.Proofs.Ytfaoeajaahnooaa.cel
