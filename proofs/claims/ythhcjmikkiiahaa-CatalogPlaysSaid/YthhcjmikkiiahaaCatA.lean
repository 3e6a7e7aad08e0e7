/- A catalog in memory: two maps by name; no walk. -/
import Derived.Test.YthhcjmikkiiahaaOnly
import Derived.Test.YthhcjmikkiiahaaOwn
import Derived.Test.YthhcjmikkiiahaaProg
import Derived.Maps.OwnSet
import Derived.Maps.Views
import Derived.Carry
import Derived.WalkKit
import Derived.StringKeys
namespace Go.Proofs.Ythhcjmikkiiahaa.cat
set_option linter.unusedVariables false
open Go.RowKit Go.WideShapes Go.MapKept
abbrev TCa : TypeId := 101
abbrev TTb : TypeId := 47
abbrev TVi : TypeId := 107
abbrev TCo : TypeId := 54
abbrev TK : TypeId := 9
abbrev M1 : TypeId := 98
abbrev M2 : TypeId := 99
abbrev Dat := DataW Unit
def nm (s : ByteArray) : Lit := .string s.data.toList
theorem nm_inj {s t : ByteArray} (h : nm s = nm t) : s = t := by
  unfold nm at h
  simp only [Lit.string.injEq] at h
  exact ByteArray.ext (Array.toList_inj.1 h)
theorem nm_key (s : ByteArray) : WideAt.IsKeyLit (nm s) := trivial
/-- a column, plain -/
structure Cn where
  nm : ByteArray
  k : Int
  key : Bool
def cnCells (l : List Cn) : List Value := l.flatMap fun x => [.string x.nm, .int .i64 x.k, .bool x.key]
theorem cnCells_len (l : List Cn) : (cnCells l).length = l.length * 3 := by
  induction l with
  | nil => rfl
  | cons x l ih => unfold cnCells at ih ⊢; rw [List.flatMap_cons, List.length_append, ih, List.length_cons]; simp; omega
/-- a slice's address, as data -/
def adD : Option Addr → Dat
  | none => .nil
  | some ⟨b, o, _⟩ => .agg [.lit (.int .i64 (b : Int)), .lit (.int .i64 (o : Int))]
def adOk : Option Addr → Bool
  | none => true
  | some ⟨_, _, none⟩ => true
  | _ => false
theorem adD_inj {a b : Option Addr} (ha : adOk a = true) (hb : adOk b = true) (h : adD a = adD b) : a = b := by
  match a, b with
  | none, none => rfl
  | none, some ⟨_, _, _⟩ => cases h
  | some ⟨_, _, _⟩, none => cases h
  | some ⟨x, y, none⟩, some ⟨x', y', none⟩ =>
    unfold adD at h
    simp only [DataW.agg.injEq, List.cons.injEq, DataW.lit.injEq, Lit.int.injEq, and_true, true_and] at h
    obtain ⟨h1, h2⟩ := h
    have e1 : x = x' := by omega
    have e2 : y = y' := by omega
    subst e1 e2; rfl
  | some ⟨_, _, some _⟩, _ => cases ha
  | _, some ⟨_, _, some _⟩ => cases hb
/-- a table and a view as they lie in their map -/
structure TE where
  nm : ByteArray
  a : Option Addr
  n : Nat
  c : Nat
  k : Int
structure VE where
  a : Option Addr
  n : Nat
  c : Nat
def TE.val (x : TE) : Value := .agg #[.string x.nm, .slice x.a x.n x.c, .int .i64 x.k]
def VE.val (x : VE) : Value := .agg #[.slice x.a x.n x.c]
def tbD (x : TE) : Dat := .agg [.lit (.string x.nm.data.toList), adD x.a, .lit (.int .i64 (x.n : Int)), .lit (.int .i64 (x.c : Int)), .lit (.int .i64 x.k)]
def viD (x : VE) : Dat := .agg [adD x.a, .lit (.int .i64 (x.n : Int)), .lit (.int .i64 (x.c : Int))]
def tbE (v : Value) : Option (Dat × List MemPlace) := match v with
  | .agg cs => (match cs.toList with
    | [.string s, .slice a n c, .int .i64 k] => if adOk a then some (tbD ⟨s, a, n, c, k⟩, []) else none
    | _ => none)
  | _ => none
def viE (v : Value) : Option (Dat × List MemPlace) := match v with
  | .agg cs => (match cs.toList with
    | [.slice a n c] => if adOk a then some (viD ⟨a, n, c⟩, []) else none
    | _ => none)
  | _ => none
theorem tbE_mk (x : TE) (h : adOk x.a = true) : tbE x.val = some (tbD x, []) := by
  show (if adOk x.a = true then _ else _) = _
  rw [if_pos h]
theorem viE_mk (x : VE) (h : adOk x.a = true) : viE x.val = some (viD x, []) := by
  show (if adOk x.a = true then _ else _) = _
  rw [if_pos h]
theorem tbD_inj {x y : TE} (hx : adOk x.a = true) (hy : adOk y.a = true) (h : tbD x = tbD y) : x = y := by
  obtain ⟨s, a, n, c, k⟩ := x
  obtain ⟨s', a', n', c', k'⟩ := y
  unfold tbD at h
  simp only [DataW.agg.injEq, List.cons.injEq, DataW.lit.injEq, Lit.int.injEq, Lit.string.injEq, and_true, true_and] at h
  obtain ⟨h1, h2, h3, h4, h5⟩ := h
  have e1 : s = s' := ByteArray.ext (Array.toList_inj.1 h1)
  have e2 := adD_inj hx hy h2
  have e3 : n = n' := by omega
  have e4 : c = c' := by omega
  dsimp only at e2
  subst e1 e2 e3 e4 h5; rfl
theorem viD_inj {x y : VE} (hx : adOk x.a = true) (hy : adOk y.a = true) (h : viD x = viD y) : x = y := by
  obtain ⟨a, n, c⟩ := x
  obtain ⟨a', n', c'⟩ := y
  unfold viD at h
  simp only [DataW.agg.injEq, List.cons.injEq, DataW.lit.injEq, Lit.int.injEq, and_true, true_and] at h
  obtain ⟨h2, h3, h4⟩ := h
  have e2 := adD_inj hx hy h2
  have e3 : n = n' := by omega
  have e4 : c = c' := by omega
  dsimp only at e2
  subst e2 e3 e4; rfl
theorem tbE_inv {v : Value} {x : TE} {ps : List MemPlace} (hx : adOk x.a = true) (h : tbE v = some (tbD x, ps)) : v = x.val := by
  unfold tbE at h
  split at h
  · rename_i cs
    split at h
    · rename_i s a n c k hc
      split at h
      · rename_i ha
        simp only [Option.some.injEq, Prod.mk.injEq] at h
        have := tbD_inj (x := ⟨s, a, n, c, k⟩) ha hx h.1
        subst this
        unfold TE.val
        congr 1
        rw [← Array.toList_inj]; exact hc
      · cases h
    · cases h
  · cases h
theorem viE_inv {v : Value} {x : VE} {ps : List MemPlace} (hx : adOk x.a = true) (h : viE v = some (viD x, ps)) : v = x.val := by
  unfold viE at h
  split at h
  · rename_i cs
    split at h
    · rename_i a n c hc
      split at h
      · rename_i ha
        simp only [Option.some.injEq, Prod.mk.injEq] at h
        have := viD_inj (x := ⟨a, n, c⟩) ha hx h.1
        subst this
        unfold VE.val
        congr 1
        rw [← Array.toList_inj]; exact hc
      · cases h
    · cases h
  · cases h
theorem keyedS : Go.Maps.Keyed Try.prog TK := Go.Maps.string_keyed Try.underlying9
theorem keyS {s : ByteArray} (h : s.size ≤ maxLen) : keyOf Try.prog TK (.string s) = some (nm s) := Go.WideMaps.keyOf_string_mk Try.underlying9 h
theorem zTb (w : World) : (zeroValue TTb).run Try.prog w = .ok (.agg #[.string ByteArray.empty, .slice none 0 0, .int .i64 0]) w := by kernel_rfl
theorem zVi (w : World) : (zeroValue TVi).run Try.prog w = .ok (.agg #[.slice none 0 0]) w := by kernel_rfl
/-- a function turned at one name -/
def upd {α : Type} (f : ByteArray → α) (k : ByteArray) (x : α) : ByteArray → α := fun s => if s = k then x else f s
theorem upd_same {α : Type} (f : ByteArray → α) (k : ByteArray) (x : α) : upd f k x k = x := if_pos rfl
theorem upd_other {α : Type} (f : ByteArray → α) {k s : ByteArray} (x : α) (h : s ≠ k) : upd f k x s = f s := if_neg h
/-- is a name on a list? -/
def isIn (s : ByteArray) (l : List ByteArray) : Bool := l.any (fun t => decide (t = s))
theorem isIn_iff {s : ByteArray} {l : List ByteArray} : isIn s l = true ↔ s ∈ l := by
  unfold isIn
  rw [List.any_eq_true]
  constructor
  · rintro ⟨x, hx, h⟩
    have := of_decide_eq_true h
    exact this ▸ hx
  · exact fun h => ⟨s, h, by simp⟩
theorem isIn_yes {s : ByteArray} {l : List ByteArray} (h : s ∈ l) : isIn s l = true := isIn_iff.2 h
theorem isIn_no {s : ByteArray} {l : List ByteArray} (h : s ∉ l) : isIn s l = false := by
  cases e : isIn s l with
  | false => rfl
  | true => exact absurd (isIn_iff.1 e) h
/-- a name struck off a list -/
def delN (l : List ByteArray) (k : ByteArray) : List ByteArray := l.filter (fun s => decide (s ≠ k))
theorem mem_delN {l : List ByteArray} {k s : ByteArray} : s ∈ delN l k ↔ s ∈ l ∧ s ≠ k := by
  unfold delN
  rw [List.mem_filter]
  simp
theorem delN_self {l : List ByteArray} {k : ByteArray} (h : k ∉ l) : delN l k = l :=
  List.filter_eq_self.2 (fun y hy => by simp; exact fun e => h (e ▸ hy))
/-- a map by name: its names, in the order in which they came, and what stands at each -/
structure NM (R : Value → Option (Dat × List MemPlace)) {E : Type} (dat : E → Dat) (z : E) (w : World) (b n : Nat) (D : Dat) (ks : List ByteArray) (f : ByteArray → E) : Prop where
  own : w.ownsMap Try.prog TK R b n D
  at_ : ∀ s, s.size ≤ maxLen → D.atKey (nm s) (dat z) = dat (f s)
  has : ∀ s, s.size ≤ maxLen → Go.Maps.has D (nm s) = isIn s ks
  size : Go.Maps.size D = ks.length
  nd : ks.Nodup
  le : ∀ s ∈ ks, s.size ≤ maxLen
section
variable {R : Value → Option (Dat × List MemPlace)} {E : Type} {dat : E → Dat} {z : E} {w w' : World} {b n : Nat} {D : Dat} {ks : List ByteArray} {f : ByteArray → E}
theorem NM.made (w : World) : NM R dat z (w.alloc (.map #[] 0)) w.heap.size 0 (.map []) [] (fun _ => z) :=
  ⟨World.ownsMap_made w Try.prog TK R, fun s _ => rfl, fun s _ => rfl, rfl, List.nodup_nil, fun s h => by cases h⟩
theorem NM.kept {row : Option Nat} (h : NM R dat z w b n D ks f) (hg : w.grownBy w' row) (hne : some b ≠ row) : NM R dat z w' b n D ks f :=
  ⟨h.own.kept hg hne, h.at_, h.has, h.size, h.nd, h.le⟩
theorem NM.mono (h : NM R dat z w b n D ks f) {n' : Nat} (hn : n ≤ n') : NM R dat z w b n' D ks f := ⟨h.own.mono hn, h.at_, h.has, h.size, h.nd, h.le⟩
theorem NM.put {M e : TypeId} (h : NM R dat z w b n D ks f) (hM : Try.prog.underlying M = some (.map TK e)) {k : ByteArray} (hk : k.size ≤ maxLen) (hnk : k ∉ ks) (hn : n < maxLen) {x : E} {v : Value} (hv : R v = some (dat x, [])) :
    ∃ w', (Instr.mapUpdate M (.map (some b)) (.string k) v).run Try.prog w = .ok () w' ∧ NM R dat z w' b (n + 1) (D.put (nm k) (dat x)) (ks ++ [k]) (upd f k x) ∧ w.grownBy w' (some b) := by
  obtain ⟨w', h1, h2, h3⟩ := h.own.store keyedS hM hn (keyS hk) hv
  have hm := h.own.isMap
  refine ⟨w', h1, ⟨h2, fun s hs => ?_, fun s hs => ?_, ?_, ?_, ?_⟩, h3.grown⟩
  · by_cases e : s = k
    · subst e
      rw [Go.Maps.atKey_put_same hm (nm_key s), upd_same]
    · rw [Go.Maps.atKey_put_other (fun e' => e (nm_inj e')), h.at_ s hs, upd_other _ _ e]
  · by_cases e : s = k
    · subst e
      rw [Go.Maps.has_put_same hm (nm_key s), isIn_yes (by simp)]
    · rw [Go.Maps.has_put_other (fun e' => e (nm_inj e')), h.has s hs]
      unfold isIn
      rw [List.any_append]
      simp
      exact fun h => absurd h.symm e
  · rw [Go.Maps.size_put (h.own.tidy keyedS), h.has k hk, h.size, isIn_no hnk]
    simp
  · rw [List.nodup_append]
    refine ⟨h.nd, by simp, ?_⟩
    intro a ha c hc
    simp only [List.mem_singleton] at hc
    subst hc
    exact fun e => hnk (e ▸ ha)
  · intro s hs
    rcases List.mem_append.1 hs with hs | hs
    · exact h.le s hs
    · simp only [List.mem_singleton] at hs
      subst hs; exact hk
theorem NM.del {M e : TypeId} (h : NM R dat z w b n D ks f) (hM : Try.prog.underlying M = some (.map TK e)) {k : ByteArray} (hk : k.size ≤ maxLen) (hks : k ∈ ks) (ty : TypeId) :
    ∃ w', (Builtin.delete_ #[M, TK] ty #[.map (some b), .string k]).run Try.prog w = .ok (.tuple #[]) w' ∧ NM R dat z w' b n (D.del (nm k)) (delN ks k) (upd f k z) ∧ w.grownBy w' (some b) := by
  obtain ⟨w', h1, h2, h3⟩ := h.own.drop keyedS hM (keyS hk) ty
  refine ⟨w', h1, ⟨h2, fun s hs => ?_, fun s hs => ?_, ?_, h.nd.filter _, fun s hs => h.le s (mem_delN.1 hs).1⟩, h3.grown⟩
  · by_cases e : s = k
    · subst e
      rw [Go.Maps.atKey_del_same, upd_same]
    · rw [Go.Maps.atKey_del_other (fun e' => e (nm_inj e')), h.at_ s hs, upd_other _ _ e]
  · by_cases e : s = k
    · subst e
      rw [Go.Maps.has_del_same, isIn_no (fun hm => (mem_delN.1 hm).2 rfl)]
    · rw [Go.Maps.has_del_other (fun e' => e (nm_inj e')), h.has s hs]
      cases hi : isIn s ks with
      | true => exact (isIn_yes (mem_delN.2 ⟨isIn_iff.1 hi, e⟩)).symm
      | false => exact (isIn_no (fun hm => by rw [isIn_yes (mem_delN.1 hm).1] at hi; cases hi)).symm
  · have h4 := Go.Maps.size_del (k := nm k) (h.own.tidy keyedS)
    rw [h.has k hk, h.size, isIn_yes hks, if_pos rfl] at h4
    have h5 : (delN ks k).length + 1 = ks.length := by
      unfold delN
      have := h.nd
      clear h h1 h2 h3 h4
      induction ks with
      | nil => cases hks
      | cons a l ih =>
        rw [List.nodup_cons] at this
        rw [List.filter_cons]
        by_cases e : a = k
        · subst e
          have hl : l.filter (fun s => decide (s ≠ a)) = l := List.filter_eq_self.2 (fun y hy => by simp; exact fun e => this.1 (e ▸ hy))
          rw [hl]
          simp
        · have hkl : k ∈ l := by
            rcases List.mem_cons.1 hks with h | h
            · exact absurd h.symm e
            · exact h
          have := ih hkl this.2
          simp [e] at this ⊢
          omega
    omega
theorem NM.len {M e : TypeId} (h : NM R dat z w b n D ks f) (hM : Try.prog.underlying M = some (.map TK e)) (ty : TypeId) : (Builtin.len_ #[M] ty #[.map (some b)]).run Try.prog w = .ok (.int .i64 (ks.length : Int)) w := by
  rw [← h.size]; exact h.own.len hM ty
end
theorem look_long {R : Value → Option (Dat × List MemPlace)} {w : World} {b n : Nat} {D : Dat} {M e : TypeId} (h : w.ownsMap Try.prog TK R b n D) (hM : Try.prog.underlying M = some (.map TK e)) {z : Value} (hz : (zeroValue e).run Try.prog w = .ok z w) (s : ByteArray) (hs : maxLen < s.size) :
    (Instr.lookup M (.map (some b)) (.string s) true).run Try.prog w = .ok (.tuple #[z, .bool false]) w := by
  have hk := Try.underlying9
  obtain ⟨es, clock, hb, F, -, -⟩ := h
  have hks : ∀ x ∈ es.toList, Go.MapKept.IsKey .string x.key := fun x hxm => by
    obtain ⟨l, hl⟩ := F.keys x hxm
    obtain ⟨s', e', _, _⟩ := Go.WideMaps.string_of_keyOf hk hl
    rw [e']
    trivial
  rcases Go.MapKept.findNow_spec (d := .string) (k := .string s) trivial es.toList 0 hks with ⟨h1, h2⟩ | ⟨j, e0, h1, h2, h3⟩
  · have hf := Go.MapKept.run_findKey (w := w) hk h1
    have hc := Go.MapKept.run_checkKey (w := w) hk (d := .string) (k := .string s) trivial es.isEmpty 9999
    simp [Instr.lookup, run_underlying hM, Go.MapKept.run_getObj_map hb, hc, hf, hz, Result.andThen]
  · exfalso
    have hm0 : e0 ∈ es.toList := List.mem_of_getElem? h2
    obtain ⟨l, hl⟩ := F.keys e0 hm0
    rw [h3] at hl
    obtain ⟨s', e', _, hsz⟩ := Go.WideMaps.string_of_keyOf hk hl
    cases e'
    omega
theorem NM.look_t {w : World} {b n : Nat} {D : Dat} {ks : List ByteArray} {f : ByteArray → TE} (h : NM tbE tbD ⟨ByteArray.empty, none, 0, 0, 0⟩ w b n D ks f) (hok : ∀ s, adOk (f s).a = true) (k : ByteArray) (hk : k.size ≤ maxLen) :
    (Instr.lookup M1 (.map (some b)) (.string k) true).run Try.prog w = .ok (.tuple #[(f k).val, .bool (isIn k ks)]) w := by
  obtain ⟨v, ps, h1, h2⟩ := h.own.look_ok keyedS Try.underlying98 (zTb w) (tbE_mk ⟨ByteArray.empty, none, 0, 0, 0⟩ rfl) (keyS hk)
  rw [h.at_ k hk] at h2
  rw [h1, tbE_inv (hok k) h2, h.has k hk]
theorem NM.look_v {w : World} {b n : Nat} {D : Dat} {ks : List ByteArray} {f : ByteArray → VE} (h : NM viE viD ⟨none, 0, 0⟩ w b n D ks f) (hok : ∀ s, adOk (f s).a = true) (k : ByteArray) (hk : k.size ≤ maxLen) :
    (Instr.lookup M2 (.map (some b)) (.string k) true).run Try.prog w = .ok (.tuple #[(f k).val, .bool (isIn k ks)]) w := by
  obtain ⟨v, ps, h1, h2⟩ := h.own.look_ok keyedS Try.underlying99 (zVi w) (viE_mk ⟨none, 0, 0⟩ rfl) (keyS hk)
  rw [h.at_ k hk] at h2
  rw [h1, viE_inv (hok k) h2, h.has k hk]
end Go.Proofs.Ythhcjmikkiiahaa.cat
