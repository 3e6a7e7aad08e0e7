/- The arena at elements of type string: each call, at whatever arena a call has made. -/
import Derived.Test.YtbaepjjanjhliaaRows
import Derived.Test.YtbaepjjanjhliaaOnly
import Derived.Test.YtbaepjjanjhliaaArenaP
import Derived.WalkLawsBesides
import Derived.Deep.QuietTactic
import Derived.Deep.AppendLies
import Derived.BigQuiet
namespace Go.Proofs.Ytbaepjjanjhliaa.arS
set_option linter.unusedVariables false
open Go.RowKit

abbrev TA : TypeId := 103
abbrev TS : TypeId := 105
abbrev TI : TypeId := 3

def enc (p : Bool × ByteArray) : List Value := [.bool p.1, (fun x : ByteArray => .string x) p.2]
def cells (l : List (Bool × ByteArray)) : List Value := l.flatMap enc
theorem cells_length (l : List (Bool × ByteArray)) : (cells l).length = l.length * 2 := by
  induction l with
  | nil => rfl
  | cons p l ih => simp only [cells, List.flatMap_cons, List.length_append, List.length_cons] at ih ⊢; rw [ih]; simp [enc]; omega
theorem cells_at : ∀ (l : List (Bool × ByteArray)) (i : Nat) (p : Bool × ByteArray), l[i]? = some p → (cells l)[i * 2]? = some (.bool p.1) ∧ (cells l)[i * 2 + 1]? = some ((fun x : ByteArray => .string x) p.2)
  | [], i, p, h => by simp at h
  | q :: l, 0, p, h => by simp at h; subst h; exact ⟨rfl, rfl⟩
  | q :: l, i + 1, p, h => by
    have ih := cells_at l i p (by simpa using h)
    have e : cells (q :: l) = enc q ++ cells l := by simp [cells]
    have el : (enc q).length = 2 := rfl
    rw [e, List.getElem?_append_right (by omega), List.getElem?_append_right (by omega), el, show (i + 1) * 2 - 2 = i * 2 by omega, show (i + 1) * 2 + 1 - 2 = i * 2 + 1 by omega]
    exact ih
theorem cells_set : ∀ (l : List (Bool × ByteArray)) (i : Nat) (p : Bool × ByteArray), i < l.length → cells (l.set i p) = ((cells l).set (i * 2) (.bool p.1)).set (i * 2 + 1) ((fun x : ByteArray => .string x) p.2)
  | [], i, p, h => by simp at h
  | q :: l, 0, p, h => rfl
  | q :: l, i + 1, p, h => by
    have ih := cells_set l i p (by simpa using h)
    have e : ∀ (q : Bool × ByteArray) (l : List (Bool × ByteArray)), cells (q :: l) = enc q ++ cells l := by simp [cells]
    have el : (enc q).length = 2 := rfl
    rw [List.set_cons_succ, e, e, ih, List.set_append_right _ _ (by omega), List.set_append_right _ _ (by omega), el, show (i + 1) * 2 - 2 = i * 2 by omega, show (i + 1) * 2 + 1 - 2 = i * 2 + 1 by omega]
theorem cells_snoc (l : List (Bool × ByteArray)) (p : Bool × ByteArray) : cells (l ++ [p]) = cells l ++ enc p := by simp [cells]

/-- Block b is this arena; it and its rows lie in 'own'. -/
def Is (own : Nat → Prop) (b : Nat) (s : Ar ByteArray) (w : World) : Prop :=
  (own b ∧ ∀ k, own k → k < w.heap.size) ∧ s.Ok ∧ ∃ a1 c1 a2 c2, Flds w b TA [.int .i64 s.room, .slice a1 s.sl.length c1, .slice a2 s.fr.length c2] ∧
    w.ownsRow 0 TS 2 (.slice a1 s.sl.length c1) s.sl.length (cells s.sl) ∧ w.ownsRow 0 TI 1 (.slice a2 s.fr.length c2) s.fr.length (s.fr.map fun i : Nat => Value.int .i64 (i : Int)) ∧
    (∀ g, (Value.slice a1 s.sl.length c1).ownBlock = some g → own g) ∧ (∀ g, (Value.slice a2 s.fr.length c2).ownBlock = some g → own g)

theorem Is.ok {own : Nat → Prop} {b : Nat} {s : Ar ByteArray} {w : World} (h : Is own b s w) : s.Ok := h.2.1
theorem Is.own {own : Nat → Prop} {b : Nat} {s : Ar ByteArray} {w : World} (h : Is own b s w) : own b := h.1.1
theorem Is.lt {own : Nat → Prop} {b : Nat} {s : Ar ByteArray} {w : World} (h : Is own b s w) : ∀ k, own k → k < w.heap.size := h.1.2
theorem Is.only {own P : Nat → Prop} {b : Nat} {s : Ar ByteArray} {w w' : World} (h : Is own b s w) (ho : Only P w w') (hn : ∀ k, own k → ¬ P k) : Is own b s w' := by
  obtain ⟨⟨h0, hl⟩, hok, a1, c1, a2, c2, hf, r1, r2, o1, o2⟩ := h
  exact ⟨⟨h0, fun k hk => Nat.lt_of_lt_of_le (hl k hk) ho.size⟩, hok, a1, c1, a2, c2, hf.only ho (hn _ h0), owns_only r1 ho (fun g hg => hn _ (o1 g hg)), owns_only r2 ho (fun g hg => hn _ (o2 g hg)), o1, o2⟩
theorem Is.later {own : Nat → Prop} {b : Nat} {s : Ar ByteArray} {w w' : World} (h : Is own b s w) (hb : Below w.heap.size w w') : Is own b s w' :=
  h.only (P := fun _ => False) (Only.of_below hb) (fun _ _ h => h)
theorem Is.mono {own own' : Nat → Prop} {b : Nat} {s : Ar ByteArray} {w : World} (h : Is own b s w) (hs : ∀ k, own k → own' k) (hl : ∀ k, own' k → k < w.heap.size) : Is own' b s w := by
  obtain ⟨⟨h0, _⟩, hok, a1, c1, a2, c2, hf, r1, r2, o1, o2⟩ := h
  exact ⟨⟨hs _ h0, hl⟩, hok, a1, c1, a2, c2, hf, r1, r2, fun g hg => hs _ (o1 g hg), fun g hg => hs _ (o2 g hg)⟩

theorem news1 {W : World} {n : Nat} (hs : W.heap.size = n) (v : Value) (T : TypeId) : ∀ j u, [v][j]? = some u → (W.alloc (.cells #[v] T)).cell? ((⟨n, 0, none⟩ : Addr).add j) = some u := by
  subst hs; exact cell_one_new _ _ _

/-- The same without what always holds of the plain arena. -/
def Raw (own : Nat → Prop) (b : Nat) (s : Ar ByteArray) (w : World) : Prop :=
  (own b ∧ ∀ k, own k → k < w.heap.size) ∧ ∃ a1 c1 a2 c2, Flds w b TA [.int .i64 s.room, .slice a1 s.sl.length c1, .slice a2 s.fr.length c2] ∧
    w.ownsRow 0 TS 2 (.slice a1 s.sl.length c1) s.sl.length (cells s.sl) ∧ w.ownsRow 0 TI 1 (.slice a2 s.fr.length c2) s.fr.length (s.fr.map fun i : Nat => Value.int .i64 (i : Int)) ∧
    (∀ g, (Value.slice a1 s.sl.length c1).ownBlock = some g → own g) ∧ (∀ g, (Value.slice a2 s.fr.length c2).ownBlock = some g → own g)
theorem Is.raw {own : Nat → Prop} {b : Nat} {s : Ar ByteArray} {w : World} (h : Is own b s w) : Raw own b s w := ⟨h.1, h.2.2⟩
theorem Raw.is {own : Nat → Prop} {b : Nat} {s : Ar ByteArray} {w : World} (h : Raw own b s w) (hok : s.Ok) : Is own b s w := ⟨h.1, hok, h.2⟩
theorem Raw.fr {own : Nat → Prop} {b : Nat} {s : Ar ByteArray} {w : World} (h : Raw own b s w) : ∃ a2 c2, w.cell? ⟨b, 2, none⟩ = some (.slice a2 s.fr.length c2) := by
  obtain ⟨-, a1, c1, a2, c2, hf, -⟩ := h
  exact ⟨a2, c2, hf.cell 2⟩
theorem Raw.sl {own : Nat → Prop} {b : Nat} {s : Ar ByteArray} {w : World} (h : Raw own b s w) : ∃ a1 c1, w.cell? ⟨b, 1, none⟩ = some (.slice a1 s.sl.length c1) := by
  obtain ⟨-, a1, c1, a2, c2, hf, -⟩ := h
  exact ⟨a1, c1, hf.cell 1⟩
theorem Raw.frAt {own : Nat → Prop} {b : Nat} {s : Ar ByteArray} {w : World} (h : Raw own b s w) {v : Value} (g : w.cell? ⟨b, 2, none⟩ = some v) : w.ownsRow 0 TI 1 v s.fr.length (s.fr.map fun i : Nat => Value.int .i64 (i : Int)) := by
  obtain ⟨-, a1, c1, a2, c2, hf, r1, r2, -⟩ := h
  have e := (hf.cell 2).symm.trans g
  simp at e
  rw [← e]; exact r2
theorem Raw.slAt {own : Nat → Prop} {b : Nat} {s : Ar ByteArray} {w : World} (h : Raw own b s w) {v : Value} (g : w.cell? ⟨b, 1, none⟩ = some v) : w.ownsRow 0 TS 2 v s.sl.length (cells s.sl) := by
  obtain ⟨-, a1, c1, a2, c2, hf, r1, r2, -⟩ := h
  have e := (hf.cell 1).symm.trans g
  simp at e
  rw [← e]; exact r1
/-- A slot stored whole. -/
theorem Raw.storeAt {own : Nat → Prop} {b : Nat} {s : Ar ByteArray} {w : World} (h : Raw own b s w) {k g c1 : Nat} (p : Bool × ByteArray) (hk : k < s.sl.length) (g1 : w.cell? ⟨b, 1, none⟩ = some (.slice (some ⟨g, 0, none⟩) s.sl.length c1)) :
    Raw own b { s with sl := s.sl.set k p } ((w.setCell ⟨g, k * 2, none⟩ (.bool p.1)).setCell ⟨g, k * 2 + 1, none⟩ ((fun x : ByteArray => .string x) p.2)) ∧
      ∀ i, ((w.setCell ⟨g, k * 2, none⟩ (.bool p.1)).setCell ⟨g, k * 2 + 1, none⟩ ((fun x : ByteArray => .string x) p.2)).cell? ⟨b, i, none⟩ = w.cell? ⟨b, i, none⟩ := by
  obtain ⟨⟨h0, hlt⟩, a1, c1', a2, c2, hf, r1, r2, o1, o2⟩ := h
  have hgb := owns_ne_obj r1 hf (by decide)
  have hap := owns_ne_owns r2 r1 (by decide)
  obtain ⟨g', rfl, -, -, hc, hz⟩ := owns_cellAt r1 (by omega)
  have e1 := (hf.cell 1).symm.trans g1
  simp at e1
  obtain ⟨hg, hc1⟩ := e1
  subst hg hc1
  have st1 := (r1.stored (k * 2) (.bool p.1)).1
  have st2 := (st1.stored (k * 2 + 1) ((fun x : ByteArray => .string x) p.2)).1
  rw [← cells_set _ _ _ hk] at st2
  have hne : b ≠ g' := fun e => hgb (by rw [e]; rfl)
  have ha2 : (Value.slice a2 s.fr.length c2).ownBlock ≠ some g' := by
    rcases hap with h | h
    · rw [h]; simp
    · exact h
  have hf2 := (hf.other ⟨g', k * 2, none⟩ (.bool p.1) hne).other ⟨g', k * 2 + 1, none⟩ ((fun x : ByteArray => .string x) p.2) hne
  refine ⟨⟨⟨h0, fun k hk => by simpa [World.setCell] using hlt k hk⟩, some ⟨g', 0, none⟩, c1', a2, c2, ?_, ?_, ?_, ?_, o2⟩, fun i => (hf2.cell i).trans (hf.cell i).symm⟩
  · simpa using hf2
  · simpa using st2
  · exact owns_setCell (owns_setCell r2 _ _ ha2) _ _ ha2
  · intro g hg; exact o1 g hg
/-- A place more in 'freed'. -/
theorem Raw.frGrow {own : Nat → Prop} {b : Nat} {s : Ar ByteArray} {w w' : World} (h : Raw own b s w) {a2 : Option Addr} {c2 i g' cap : Nat} (g2 : w.cell? ⟨b, 2, none⟩ = some (.slice a2 s.fr.length c2)) (o : Go.Obj)
    (hown : w'.ownsRow 0 TI 1 (.slice (some ⟨g', 0, none⟩) (s.fr.length + 1) cap) (s.fr.length + 1) ((s.fr.map fun i : Nat => Value.int .i64 (i : Int)) ++ [.int .i64 (i : Int)]))
    (hgr : (w.alloc o).grownBy w' (Value.slice a2 s.fr.length c2).ownBlock) (hat : (Value.slice a2 s.fr.length c2).ownBlock = some g' ∨ g' = w.heap.size + 1) (hlt' : g' < w'.heap.size) :
    w'.cell? ⟨b, 2, none⟩ = some (.slice a2 s.fr.length c2) ∧ w'.frozen? ⟨b, 2, none⟩ = false ∧
      Raw (ownNew own w (w'.setCell ⟨b, 2, none⟩ (.slice (some ⟨g', 0, none⟩) (s.fr.length + 1) cap))) b { s with fr := s.fr ++ [i] } (w'.setCell ⟨b, 2, none⟩ (.slice (some ⟨g', 0, none⟩) (s.fr.length + 1) cap)) ∧
      Only own w (w'.setCell ⟨b, 2, none⟩ (.slice (some ⟨g', 0, none⟩) (s.fr.length + 1) cap)) := by
  obtain ⟨⟨h0, hlt⟩, a1, c1, a2', c2', hf, r1, r2, o1, o2⟩ := h
  have e1 := (hf.cell 2).symm.trans g2
  simp at e1
  obtain ⟨e2, e3⟩ := e1
  subst e2 e3
  have hb1 := owns_ne_obj r1 hf (by decide)
  have hb2 := owns_ne_obj r2 hf (by decide)
  have hap := owns_ne_owns r1 r2 (by decide)
  have hf' : Flds w' b TA _ := (hf.alloc o).grown hgr (fun e => hb2 e.symm)
  have r1' := (r1.alloc o).kept hgr hap
  have hbg : b ≠ g' := by
    rcases hat with h | h
    · intro e; subst e; exact hb2 h
    · have := hlt b h0; omega
  have hsz : w.heap.size + 1 ≤ w'.heap.size := by have := hgr.size; simpa using this
  have hO : Only own w (w'.setCell ⟨b, 2, none⟩ (.slice (some ⟨g', 0, none⟩) (s.fr.length + 1) cap)) :=
    (((Only.refl own w).alloc o).grown hgr (fun k e _ => o2 k e)).setCell _ _ (fun _ => h0)
  refine ⟨hf'.cell 2, hf'.frozen 2, ⟨⟨.inl h0, ?_⟩, a1, c1, some ⟨g', 0, none⟩, cap, ?_, ?_, ?_, ?_, ?_⟩, hO⟩
  · rintro k (hk | hk)
    · exact Nat.lt_of_lt_of_le (hlt k hk) hO.size
    · exact hk.2
  · have := hf'.set 2 (.slice (some ⟨g', 0, none⟩) (s.fr.length + 1) cap)
    simpa using this
  · exact owns_setCell r1' _ _ hb1
  · have := owns_setCell hown ⟨b, 2, none⟩ (.slice (some ⟨g', 0, none⟩) (s.fr.length + 1) cap) (by simp [Value.ownBlock]; exact fun e => hbg e.symm)
    simpa using this
  · intro g hg; exact .inl (o1 g hg)
  · intro g hg
    have : g' = g := by simpa [Value.ownBlock] using hg
    subst this
    rcases hat with h | h
    · exact .inl (o2 g' h)
    · exact .inr ⟨by omega, by simpa [World.setCell] using hlt'⟩

theorem Raw.slotAt {own : Nat → Prop} {b : Nat} {s : Ar ByteArray} {w : World} (h : Raw own b s w) {k : Nat} (hk : k < s.sl.length) : ∃ (g c1 : Nat) (p : Bool × ByteArray), w.cell? ⟨b, 1, none⟩ = some (.slice (some ⟨g, 0, none⟩) s.sl.length c1) ∧ w.cell? ⟨g, k * 2, none⟩ = some (.bool p.1) ∧ w.cell? ⟨g, k * 2 + 1, none⟩ = some ((fun x : ByteArray => .string x) p.2) ∧ (∀ j, w.frozen? ⟨g, j, none⟩ = false) ∧ own g ∧ g ≠ b ∧ s.sl[k]? = some p := by
  obtain ⟨h1, a1, c1, a2, c2, hf, r1, r2, o1, o2⟩ := h
  have hgb := owns_ne_obj r1 hf (by decide)
  obtain ⟨g, rfl, -, -, hc, hz⟩ := owns_cellAt r1 (by omega)
  have hx := List.getElem?_eq_getElem hk
  exact ⟨g, c1, s.sl[k], hf.cell 1, (hc _ (by omega)).trans (cells_at _ _ _ hx).1, (hc _ (by omega)).trans (cells_at _ _ _ hx).2, hz, o1 g rfl, fun e => hgb (by rw [e]; rfl), hx⟩
theorem Raw.flds {own : Nat → Prop} {b : Nat} {s : Ar ByteArray} {w : World} (h : Raw own b s w) : w.cell? ⟨b, 0, none⟩ = some (.int .i64 s.room) ∧ ∀ i, w.frozen? ⟨b, i, none⟩ = false := by
  obtain ⟨-, a1, c1, a2, c2, hf, -⟩ := h
  exact ⟨hf.cell 0, hf.frozen⟩
/-- The last freed place is taken off. -/
theorem Raw.frShrink {own : Nat → Prop} {b : Nat} {s : Ar ByteArray} {w : World} (h : Raw own b s w) {m : Nat} (hm : s.fr.length = m + 1) : ∃ (gf c2 : Nat) (i : Nat), w.cell? ⟨b, 2, none⟩ = some (.slice (some ⟨gf, 0, none⟩) (m + 1) c2) ∧ s.fr.getLast? = some i ∧ w.cell? ⟨gf, m, none⟩ = some (.int .i64 (i : Int)) ∧ m ≤ c2 ∧ m + 1 ≤ c2 ∧
    Raw own b { s with fr := s.fr.dropLast } (w.setCell ⟨b, 2, none⟩ (.slice (some ⟨gf, 0, none⟩) m c2)) ∧ ∀ a : Addr, a.block ≠ b → (w.setCell ⟨b, 2, none⟩ (.slice (some ⟨gf, 0, none⟩) m c2)).cell? a = w.cell? a := by
  obtain ⟨⟨h0, hlt⟩, a1, c1, a2, c2, hf, r1, r2, o1, o2⟩ := h
  have hb1 := owns_ne_obj r1 hf (by decide)
  have hb2 := owns_ne_obj r2 hf (by decide)
  obtain ⟨gf, rfl, -, -, hc, hz⟩ := owns_cellAt r2 (by omega)
  have hlast : s.fr.getLast? = some (s.fr[m]'(by omega)) := by
    rw [List.getLast?_eq_getElem?, show s.fr.length - 1 = m by omega]; exact List.getElem?_eq_getElem _
  have hcap : s.fr.length ≤ c2 := by
    rcases r2.2 with ⟨he, h1⟩ | ⟨g, cap', cur, he, _, hg, hnc, hcm, _⟩
    · omega
    · simp only [Value.slice.injEq] at he
      obtain ⟨-, -, rfl⟩ := he
      exact hnc
  have hp := owns_prefix r2 (m := m) (by omega) (by omega)
  refine ⟨gf, c2, s.fr[m]'(by omega), by rw [← hm]; exact hf.cell 2, hlast, ?_, by omega, by omega, ⟨⟨h0, fun k hk => by simpa [World.setCell] using hlt k hk⟩, a1, c1, some ⟨gf, 0, none⟩, c2, ?_, ?_, ?_, o1, ?_⟩, ?_⟩
  · refine (hc m (by omega)).trans ?_
    rw [List.getElem?_map, List.getElem?_eq_getElem (by omega)]; rfl
  · have := hf.set 2 (.slice (some ⟨gf, 0, none⟩) m c2)
    simpa [hm] using this
  · exact owns_setCell r1 _ _ hb1
  · have := owns_setCell hp ⟨b, 2, none⟩ (.slice (some ⟨gf, 0, none⟩) m c2) (by simpa [Value.ownBlock] using hb2)
    simpa [hm, List.dropLast_eq_take, List.map_take] using this
  · intro g hg; exact o2 g hg
  · intro a ha; exact World.cell?_of_block (Below.heap_setCell _ _ _ _ ha)
/-- A slot more. -/
theorem Raw.slGrow {own : Nat → Prop} {b : Nat} {s : Ar ByteArray} {w w' : World} (h : Raw own b s w) {a1 : Option Addr} {c1 g' cap : Nat} {p : Bool × ByteArray} (g1 : w.cell? ⟨b, 1, none⟩ = some (.slice a1 s.sl.length c1)) (o : Go.Obj)
    (hown : w'.ownsRow 0 TS 2 (.slice (some ⟨g', 0, none⟩) (s.sl.length + 1) cap) (s.sl.length + 1) (cells s.sl ++ enc p))
    (hgr : (w.alloc o).grownBy w' (Value.slice a1 s.sl.length c1).ownBlock) (hat : (Value.slice a1 s.sl.length c1).ownBlock = some g' ∨ g' = w.heap.size + 1) (hlt' : g' < w'.heap.size) :
    w'.cell? ⟨b, 1, none⟩ = some (.slice a1 s.sl.length c1) ∧ w'.frozen? ⟨b, 1, none⟩ = false ∧
      Raw (ownNew own w (w'.setCell ⟨b, 1, none⟩ (.slice (some ⟨g', 0, none⟩) (s.sl.length + 1) cap))) b { s with sl := s.sl ++ [p] } (w'.setCell ⟨b, 1, none⟩ (.slice (some ⟨g', 0, none⟩) (s.sl.length + 1) cap)) ∧
      Only own w (w'.setCell ⟨b, 1, none⟩ (.slice (some ⟨g', 0, none⟩) (s.sl.length + 1) cap)) := by
  obtain ⟨⟨h0, hlt⟩, a1', c1', a2, c2, hf, r1, r2, o1, o2⟩ := h
  have e1 := (hf.cell 1).symm.trans g1
  simp at e1
  obtain ⟨e2, e3⟩ := e1
  subst e2 e3
  have hb1 := owns_ne_obj r1 hf (by decide)
  have hb2 := owns_ne_obj r2 hf (by decide)
  have hap := owns_ne_owns r2 r1 (by decide)
  have hf' : Flds w' b TA _ := (hf.alloc o).grown hgr (fun e => hb1 e.symm)
  have r2' := (r2.alloc o).kept hgr hap
  have hbg : b ≠ g' := by
    rcases hat with h | h
    · intro e; subst e; exact hb1 h
    · have := hlt b h0; omega
  have hsz : w.heap.size + 1 ≤ w'.heap.size := by have := hgr.size; simpa using this
  have hO : Only own w (w'.setCell ⟨b, 1, none⟩ (.slice (some ⟨g', 0, none⟩) (s.sl.length + 1) cap)) :=
    (((Only.refl own w).alloc o).grown hgr (fun k e _ => o1 k e)).setCell _ _ (fun _ => h0)
  refine ⟨hf'.cell 1, hf'.frozen 1, ⟨⟨.inl h0, ?_⟩, some ⟨g', 0, none⟩, cap, a2, c2, ?_, ?_, ?_, ?_, ?_⟩, hO⟩
  · rintro k (hk | hk)
    · exact Nat.lt_of_lt_of_le (hlt k hk) hO.size
    · exact hk.2
  · have := hf'.set 1 (.slice (some ⟨g', 0, none⟩) (s.sl.length + 1) cap)
    simpa using this
  · have := owns_setCell hown ⟨b, 1, none⟩ (.slice (some ⟨g', 0, none⟩) (s.sl.length + 1) cap) (by simp [Value.ownBlock]; exact fun e => hbg e.symm)
    simpa [cells_snoc] using this
  · exact owns_setCell r2' _ _ hb2
  · intro g hg
    have : g' = g := by simpa [Value.ownBlock] using hg
    subst this
    rcases hat with h | h
    · exact .inl (o1 g' h)
    · exact .inr ⟨by omega, by simpa [World.setCell] using hlt'⟩
  · intro g hg; exact .inl (o2 g hg)

set_option maxHeartbeats 400000 in
theorem live_any (own : Nat → Prop) (b : Nat) (s : Ar ByteArray) (w : World) (h : Is own b s w) :
    Calls Try.prog 46 #[.pointer (some ⟨b, 0, none⟩)] w fun e w' => e = .returned (.int .i64 s.live) ∧ ∃ n, w' = w.drewN n := by
  obtain ⟨h1, hok, a1, c1, a2, c2, hf, -⟩ := h
  have g1 : w.cell? ⟨b, 1, none⟩ = some (.slice a1 s.sl.length c1) := hf.cell 1
  have g2 : w.cell? ⟨b, 2, none⟩ = some (.slice a2 s.fr.length c2) := hf.cell 2
  have b1 := hok.many
  have b2 := hok.frle
  have e : s.live = (s.sl.length : Int) - s.fr.length := rfl
  have E := Lib.hid e
  clear e hf hok h1
  go_enter Try.func46, Try.ntmps46
  go_wp2
  go_quiet (fail)
  go_wp2
  go_ret
  exact ⟨by rw [E.out]; rfl, _, rfl⟩

set_option maxHeartbeats 400000 in
theorem has_any (own : Nat → Prop) (b : Nat) (s : Ar ByteArray) (w : World) (h : Is own b s w) (i : Int) :
    Calls Try.prog 62 #[.pointer (some ⟨b, 0, none⟩), .int .i64 i] w fun e w' => e = .returned (.bool (s.has i)) ∧ w = w' := by
  obtain ⟨h1, hok, a1, c1, a2, c2, hf, r1, -⟩ := h
  have g1 : w.cell? ⟨b, 1, none⟩ = some (.slice a1 s.sl.length c1) := hf.cell 1
  have b1 := hok.many
  by_cases h0 : i < 0
  · have e : s.has i = false := by unfold Ar.has; simp; omega
    have E := Lib.hid e
    have hd : decide (0 ≤ i) = false := by simp; omega
    clear e r1 hf hok h1
    go_enter Try.func62, Try.ntmps62
    go_wp2
    go_ret
    exact ⟨by rw [E.out]; rfl, rfl⟩
  · obtain ⟨k, rfl⟩ : ∃ k : Nat, i = k := ⟨i.toNat, by omega⟩
    by_cases hl : s.sl.length ≤ k
    · have e : s.has k = false := by unfold Ar.has; simp; omega
      have E := Lib.hid e
      have hd : decide (k < s.sl.length) = false := by simp; omega
      have hd2 : decide ((0 : Int) ≤ (k : Int)) = true := by simp
      clear e r1 hf hok h1
      go_enter Try.func62, Try.ntmps62
      go_wp2
      go_ret
      exact ⟨by rw [E.out]; rfl, rfl⟩
    · have hk : k < s.sl.length := by omega
      obtain ⟨g, rfl, -, -, hc, -⟩ := owns_cellAt r1 (by omega)
      have hp := List.getElem?_eq_getElem hk
      have e : s.has k = (s.sl[k]).1 := by unfold Ar.has; simp [hk]
      have hcell : w.cell? ⟨g, k * 2, none⟩ = some (.bool (s.sl[k]).1) := (hc _ (by omega)).trans (cells_at _ _ _ hp).1
      have E := Lib.hid e
      have hd : decide (k < s.sl.length) = true := by simp; omega
      have hd2 : decide ((0 : Int) ≤ (k : Int)) = true := by simp
      clear e r1 hf hok hc hp h1
      generalize (s.sl[k]).1 = u at E hcell
      go_enter Try.func62, Try.ntmps62
      go_wp2
      go_ret
      exact ⟨by rw [E.out]; rfl, rfl⟩

/-- what is at a place; the zero value if there is none -/
def getAt (s : Ar ByteArray) (i : Int) : ByteArray := if s.has i then ((s.sl[i.toNat]?.map (·.2)).getD ⟨#[]⟩) else ⟨#[]⟩

theorem Is.slot {own : Nat → Prop} {b : Nat} {s : Ar ByteArray} {w : World} (h : Is own b s w) {i : Int} (hi : s.has i = true) : ∃ (k g c1 : Nat) (x : ByteArray), i = (k : Int) ∧ k < s.sl.length ∧ s.sl[k]? = some (true, x) ∧ w.cell? ⟨b, 1, none⟩ = some (.slice (some ⟨g, 0, none⟩) s.sl.length c1) ∧ w.cell? ⟨g, k * 2, none⟩ = some (.bool true) ∧ w.cell? ⟨g, k * 2 + 1, none⟩ = some ((fun x : ByteArray => .string x) x) ∧ (∀ j, w.frozen? ⟨g, j, none⟩ = false) ∧ own g ∧ g ≠ b := by
  obtain ⟨h1, hok, a1, c1, a2, c2, hf, r1, r2, o1, o2⟩ := h
  obtain ⟨h0, hl, x, hx⟩ := Ar.has_iff.1 hi
  have hgb := owns_ne_obj r1 hf (by decide)
  obtain ⟨g, rfl, -, -, hc, hz⟩ := owns_cellAt r1 (by omega)
  exact ⟨i.toNat, g, c1, x, by omega, hl, hx, hf.cell 1, (hc _ (by omega)).trans (cells_at _ _ _ hx).1, (hc _ (by omega)).trans (cells_at _ _ _ hx).2, hz, o1 g rfl, fun e => hgb (by rw [e]; rfl)⟩

set_option maxHeartbeats 400000 in
theorem get_any (own : Nat → Prop) (b : Nat) (s : Ar ByteArray) (w : World) (h : Is own b s w) (i : Int) :
    Calls Try.prog 45 #[.pointer (some ⟨b, 0, none⟩), .int .i64 i] w fun e w' => e = .returned (.tuple #[(fun x : ByteArray => .string x) (getAt s i), .bool (s.has i)]) ∧ w = w' := by
  have hH := has_any own b s w h i
  have hm := h.ok.many
  cases hb : s.has i
  · have e : getAt s i = ⟨#[]⟩ := by unfold getAt; rw [hb]; rfl
    rw [hb] at hH
    have E := Lib.hid e; have HH := Lib.hid hH
    clear e hH h
    go_enter Try.func45, Try.ntmps45
    go_wp2_with (go_at_call 62; refine HH.out.mono ?_; rintro e w' ⟨rfl, rfl⟩)
    go_ret2
    exact ⟨by rw [E.out]; rfl, rfl⟩
  · obtain ⟨k, g, c1, x, rfl, hk, hx, g1, -, gx, -, -, -⟩ := h.slot hb
    have e : getAt s k = x := by unfold getAt; rw [hb, Int.toNat_natCast, hx]; rfl
    rw [hb] at hH
    have E := Lib.hid e; have HH := Lib.hid hH
    have hd2 : (0 : Int) ≤ (k : Int) := by omega
    clear e hH h hx
    go_enter Try.func45, Try.ntmps45
    go_wp2_with (go_at_call 62; refine HH.out.mono ?_; rintro e w' ⟨rfl, rfl⟩)
    go_ret2
    exact ⟨by rw [E.out]; rfl, rfl⟩

theorem set_same {α : Type} (l : List α) (i : Nat) (a : α) (h : l[i]? = some a) : l.set i a = l := by
  apply List.ext_getElem?
  intro j
  by_cases e : i = j
  · subst e; rw [List.getElem?_set_self (List.getElem?_eq_some_iff.1 h).1, h]
  · rw [List.getElem?_set_ne e]

/-- A slot stored whole. -/
theorem Is.storeAt {own : Nat → Prop} {b : Nat} {s s' : Ar ByteArray} {w : World} (h : Is own b s w) {k g c1 : Nat} (p : Bool × ByteArray) (hk : k < s.sl.length) (g1 : w.cell? ⟨b, 1, none⟩ = some (.slice (some ⟨g, 0, none⟩) s.sl.length c1))
    (hs : s' = { s with sl := s.sl.set k p }) (hok' : s'.Ok) :
    Is own b s' ((w.setCell ⟨g, k * 2, none⟩ (.bool p.1)).setCell ⟨g, k * 2 + 1, none⟩ ((fun x : ByteArray => .string x) p.2)) := by
  subst hs
  obtain ⟨⟨h0, hlt⟩, hok, a1, c1', a2, c2, hf, r1, r2, o1, o2⟩ := h
  have hgb := owns_ne_obj r1 hf (by decide)
  have hap := owns_ne_owns r2 r1 (by decide)
  obtain ⟨g', rfl, -, -, hc, hz⟩ := owns_cellAt r1 (by omega)
  have e1 := (hf.cell 1).symm.trans g1
  simp at e1
  obtain ⟨hg, hc1⟩ := e1
  subst hg hc1
  have st1 := (r1.stored (k * 2) (.bool p.1)).1
  have st2 := (st1.stored (k * 2 + 1) ((fun x : ByteArray => .string x) p.2)).1
  rw [← cells_set _ _ _ hk] at st2
  have hne : b ≠ g' := fun e => hgb (by rw [e]; rfl)
  have ha2 : (Value.slice a2 s.fr.length c2).ownBlock ≠ some g' := by
    rcases hap with h | h
    · rw [h]; simp
    · exact h
  refine ⟨⟨h0, fun k hk => by simpa [World.setCell] using hlt k hk⟩, hok', some ⟨g', 0, none⟩, c1', a2, c2, ?_, ?_, ?_, ?_, o2⟩
  · simpa using (hf.other ⟨g', k * 2, none⟩ _ hne).other ⟨g', k * 2 + 1, none⟩ _ hne
  · simpa using st2
  · exact owns_setCell (owns_setCell r2 _ _ ha2) _ _ ha2
  · intro g hg; exact o1 g hg

/-- A thing put at a place in use. -/
theorem Is.putAt {own : Nat → Prop} {b : Nat} {s : Ar ByteArray} {w : World} (h : Is own b s w) {k g c1 : Nat} {y : ByteArray} (x : ByteArray) (hk : s.sl[k]? = some (true, y)) (g1 : w.cell? ⟨b, 1, none⟩ = some (.slice (some ⟨g, 0, none⟩) s.sl.length c1)) :
    Is own b (s.put k x) (w.setCell ⟨g, k * 2 + 1, none⟩ ((fun x : ByteArray => .string x) x)) := by
  have hhas : s.has k = true := Ar.has_iff.2 ⟨by omega, (List.getElem?_eq_some_iff.1 hk).1, y, hk⟩
  have hok' := h.ok.put x hhas
  obtain ⟨⟨h0, hlt⟩, hok, a1, c1', a2, c2, hf, r1, r2, o1, o2⟩ := h
  have hl := (List.getElem?_eq_some_iff.1 hk).1
  have hgb := owns_ne_obj r1 hf (by decide)
  have hap := owns_ne_owns r2 r1 (by decide)
  obtain ⟨g', rfl, -, -, hc, hz⟩ := owns_cellAt r1 (by omega)
  have e1 := (hf.cell 1).symm.trans g1
  simp at e1
  obtain ⟨hg, hc1⟩ := e1
  subst hg hc1
  have st := (r1.stored (k * 2 + 1) ((fun x : ByteArray => .string x) x)).1
  have ec : (cells s.sl).set (k * 2 + 1) ((fun x : ByteArray => .string x) x) = cells (s.sl.set k (true, x)) := by
    rw [cells_set _ _ _ hl, set_same _ _ _ (cells_at _ _ _ hk).1]
  rw [ec] at st
  have ha2 : (Value.slice a2 s.fr.length c2).ownBlock ≠ some g' := by
    rcases hap with h | h
    · rw [h]; simp
    · exact h
  refine ⟨⟨h0, fun k hk => by simpa [World.setCell] using hlt k hk⟩, hok', some ⟨g', 0, none⟩, c1', a2, c2, ?_, ?_, owns_setCell r2 _ _ ha2, ?_, o2⟩
  · simpa [Ar.put] using hf.other ⟨g', k * 2 + 1, none⟩ _ (fun e => hgb (by rw [e]; rfl))
  · simpa [Ar.put] using st
  · intro g hg; exact o1 g hg

theorem infoInt : (Try.prog.info? 3).map (fun i => (i.zero, i.size, i.bytes)) = some (some (.int .i64 0), 1, 8) := by kernel_rfl
theorem infoSlot : (Try.prog.info? 105).map (fun i => (i.zero, i.size, i.bytes)) = some (some (.agg #[.bool false, .string ⟨#[]⟩]), 2, 24) := by kernel_rfl

set_option maxRecDepth 100000 in
set_option maxHeartbeats 400000 in
theorem free_any (own : Nat → Prop) (b : Nat) (s : Ar ByteArray) (w : World) (h : Is own b s w) (i : Int) :
    Calls Try.prog 44 #[.pointer (some ⟨b, 0, none⟩), .int .i64 i] w fun e w' => e = .returned (.bool (s.has i)) ∧ Is (ownNew own w w') b (if s.has i then s.free ⟨#[]⟩ i else s) w' ∧ Only own w w' := by
  have hH := has_any own b s w h i
  have hm := h.ok.many
  cases hb : s.has i
  · rw [hb] at hH
    have HH := Lib.hid hH; have HI := Lib.hid h
    clear hH h
    go_enter Try.func44, Try.ntmps44
    go_wp2_with (go_at_call 62; refine HH.out.mono ?_; rintro e w' ⟨rfl, rfl⟩)
    go_ret
    exact ⟨rfl, HI.out.mono (fun k hk => .inl hk) (fun k hk => hk.elim (HI.out.lt k) (fun h => h.2)), Only.refl _ _⟩
  · obtain ⟨i0, hi, hz0, hz1, hz2⟩ := info_parts infoInt
    obtain ⟨k, g, c1, y, rfl, hk, hx, g1, gb, gx, gf, hog, hgb⟩ := h.slot hb
    have hk' := hk
    rw [hb] at hH
    have HH := Lib.hid hH; have HI := Lib.hid h
    have hd2 : (0 : Int) ≤ (k : Int) := by omega
    have gf0 := gf (k * 2)
    have gf1 := gf (k * 2 + 1)
    have hy := hb
    have HY := Lib.hid hy
    obtain ⟨hraw, hcl⟩ := h.raw.storeAt (false, ⟨#[]⟩) hk' g1
    obtain ⟨a2, c2, g2⟩ := h.raw.fr
    have hr2 := hraw.frAt ((hcl 2).trans g2)
    have hfl := h.ok.frle
    have HR := Lib.hid hr2; have HW := Lib.hid hraw; have HC := Lib.hid (hcl 2); have HO := Lib.hid hog
    clear hH h hx gf hb hy hraw hr2 hcl hog
    go_enter Try.func44, Try.ntmps44
    go_wp2_with (first | (go_at_call 62; refine HH.out.mono ?_; rintro e w' ⟨rfl, rfl⟩) | (at_builtin; refine wpList_append_lies _ rfl _ _ 26 rfl 0 3 i0 (.int .i64 0) 1 8 Try.underlying26 hi hz0 hz1 hz2 rfl (by decide) _ _ _ rfl (HR.out.alloc _) ⟨w.heap.size, 0, none⟩ 1 1 [.int .i64 (k : Int)] rfl rfl (news1 (by simp [World.setCell]) _ _) ?c2 (by decide) ?c3 ?c4 (Nat.zero_le _) (w.heap.size + 1) (by simp [World.setCell]) ?_))
    case c2 => intro u hu; simp at hu; subst hu; rfl
    case c3 => unfold maxLen; omega
    case c4 => omega
    intro g' cap w' hown' hgr hat hlt
    obtain ⟨q1, q2, q3, q4⟩ := HW.out.frGrow (HC.out.trans g2) _ hown' hgr (hat.imp id (fun e => by rw [e]; simp [World.setCell])) hlt
    have Q3 := Lib.hid q3; have Q4 := Lib.hid q4
    clear q3 q4 hown' hgr hat
    go_wp2
    go_ret
    have eo : ∀ W : World, ownNew own ((w.setCell ⟨g, k * 2, none⟩ (.bool false)).setCell ⟨g, k * 2 + 1, none⟩ (.string ⟨#[]⟩)) W = ownNew own w W := fun W => by unfold ownNew; simp [World.setCell]
    have h3 := Q3.out
    rw [eo] at h3
    exact ⟨rfl, h3.is (HI.out.ok.free ⟨#[]⟩ HY.out), (((Only.refl own w).setCell _ _ (fun _ => HO.out)).setCell _ _ (fun _ => HO.out)).trans Q4.out (fun k _ h => h)⟩

theorem Is.made (w : World) (r : Int) (h0 : 0 ≤ r) (h1 : r ≤ 1048576) : Is (fun k => k = w.heap.size) w.heap.size { room := r, sl := [], fr := [] } (w.alloc (.cells #[.int .i64 r, .slice none 0 0, .slice none 0 0] TA)) :=
  ⟨⟨rfl, fun k hk => by subst hk; simp⟩, .new r h0 h1, none, 0, none, 0, Flds.new w TA _, ⟨rfl, .inl ⟨rfl, rfl⟩⟩, ⟨rfl, .inl ⟨rfl, rfl⟩⟩, fun g hg => by simp [Value.ownBlock] at hg, fun g hg => by simp [Value.ownBlock] at hg⟩

/-- A new arena. -/
theorem new_any (n : Int) (w : World) :
    Calls Try.prog 42 #[.int .i64 n] w fun e w' => e = .returned (.pointer (some ⟨w.heap.size, 0, none⟩)) ∧ Is (fun k => k = w.heap.size) w.heap.size { room := min (max n 0) 1048576, sl := [], fr := [] } w' ∧ Below w.heap.size w w' ∧ w'.heap.size = w.heap.size + 1 := by
  go_enter Try.func42, Try.ntmps42
  go_wp2
  all_goals go_ret
  · exact ⟨rfl, by rw [show min (max n 0) 1048576 = 0 by omega]; exact Is.made w 0 (by omega) (by omega), (Below.refl _ w).alloc (Nat.le_refl _) _, by simp⟩
  · exact ⟨rfl, by rw [show min (max n 0) 1048576 = 1048576 by omega]; exact Is.made w 1048576 (by omega) (by omega), (Below.refl _ w).alloc (Nat.le_refl _) _, by simp⟩
  · exact ⟨rfl, by rw [show min (max n 0) 1048576 = n by omega]; exact Is.made w n (by omega) (by omega), (Below.refl _ w).alloc (Nat.le_refl _) _, by simp⟩

theorem Is.drewN {own : Nat → Prop} {b : Nat} {s : Ar ByteArray} {w : World} (h : Is own b s w) (n : Nat) : Is own b s (w.drewN n) := h

set_option maxRecDepth 100000 in
set_option maxHeartbeats 400000 in
theorem alloc_any (own : Nat → Prop) (b : Nat) (s : Ar ByteArray) (w : World) (h : Is own b s w) (x : ByteArray) :
    Calls Try.prog 43 #[.pointer (some ⟨b, 0, none⟩), (fun x : ByteArray => .string x) x] w fun e w' => e = .returned (.tuple #[.int .i64 (s.alloc x).2.1, .bool (s.alloc x).2.2]) ∧ Is (ownNew own w w') b (s.alloc x).1 w' ∧ Only own w w' := by
  have hal := h.ok.alloc x
  have hfl := h.raw.flds
  have g0 := hfl.1
  have hLV := fun n => live_any own b s _ (h.drewN n)
  by_cases hlv : s.room ≤ s.live
  · have e : s.alloc x = (s, 0, false) := by unfold Ar.alloc; rw [if_pos hlv]
    have E := Lib.hid e; have HI := Lib.hid h; have HL := Lib.hid hLV
    have hd : decide (s.room ≤ s.live) = true := by simpa using hlv
    clear e h hal hfl hLV hlv
    go_enter Try.func43, Try.ntmps43
    go_wp2
    go_quiet ((go_at_call 46; exact Calls.quiet_of (HL.out _)))
    go_wp2
    go_ret2
    exact ⟨by rw [E.out]; rfl, by rw [E.out]; exact (HI.out.drewN nq).mono (fun k hk => .inl hk) (fun k hk => hk.elim (HI.out.lt k) (fun h => h.2)), (Only.refl _ _).drewN _⟩
  · have hd : decide (s.room ≤ s.live) = false := by simpa using hlv
    have hroom : s.live < s.room := by omega
    have hr1 := h.ok.room1
    have hm := h.ok.many
    cases hfr : s.fr.getLast? with
    | some i =>
      obtain ⟨m, hm1⟩ : ∃ m, s.fr.length = m + 1 := ⟨s.fr.length - 1, by have : s.fr ≠ [] := (by rintro e; rw [e] at hfr; cases hfr); have := List.length_pos_iff.2 this; omega⟩
      have e : s.alloc x = ({ s with sl := s.sl.set i (true, x), fr := s.fr.dropLast }, (i : Int), true) := by unfold Ar.alloc; rw [if_neg hlv, hfr]
      have hil : i < s.sl.length := h.ok.lt (List.mem_of_getLast? hfr)
      obtain ⟨gf, c2, i', g2, hl', gi, hc0, hc1, hraw, hce⟩ := h.raw.frShrink hm1
      rw [hfr] at hl'
      simp at hl'
      subst hl'
      obtain ⟨g, c1, p, g1, gb, gx, gf', hog, hgb, -⟩ := h.raw.slotAt hil
      obtain ⟨hraw2, -⟩ := hraw.storeAt (k := i) (g := g) (c1 := c1) (true, x) hil ((World.cell?_setCell_other _ _ _ _ (by simp)).trans g1)
      have hal' := hal
      rw [e] at hal'
      have E := Lib.hid e; have HI := Lib.hid h; have HL := Lib.hid hLV; have HR := Lib.hid hraw2; have HK := Lib.hid hal'; have HO := Lib.hid hog
      have hb : (m : Int) ≤ 1048576 := by have := h.ok.frle; omega
      have hb0 : (0 : Int) < (m : Int) + 1 := by omega
      have hb1 : m < m + 1 := by omega
      have hb2 : (0 : Int) ≤ (m : Int) := by omega
      have hb3 : (0 : Int) ≤ (i : Int) := by omega
      have hi1 : (i : Int) < (s.sl.length : Int) := by omega
      have hmi : (s.sl.length : Int) ≤ 1048576 := by omega
      have f2 := hfl.2 2
      have gf0 := gf' (i * 2)
      have gf1 := gf' (i * 2 + 1)
      clear e h hal hfl hLV hlv hroom hraw hce hraw2 hal' hog gf' hfr
      go_enter Try.func43, Try.ntmps43
      go_wp2
      go_quiet ((go_at_call 46; exact Calls.quiet_of (HL.out _)))
      go_wp2
      go_ret2
      refine ⟨by rw [E.out]; rfl, ?_, ?_⟩
      · rw [E.out]
        refine (HR.out.is HK.out : Is own b _ _).mono (fun k hk => .inl hk) (fun k hk => hk.elim (fun h => ?_) (fun h => h.2))
        simpa [World.setCell] using HI.out.lt k h
      · exact ((((Only.refl own w).drewN nq).setCell _ _ (fun _ => HI.out.own)).setCell _ _ (fun _ => HO.out)).setCell _ _ (fun _ => HO.out)
    | none =>
      have hfr0 : s.fr = [] := List.getLast?_eq_none_iff.1 hfr
      have e : s.alloc x = ({ s with sl := s.sl ++ [(true, x)] }, (s.sl.length : Int), true) := by unfold Ar.alloc; rw [if_neg hlv, hfr]
      have hsl : (s.sl.length : Int) < 1048576 := by have := h.ok.room1; have e : s.live = (s.sl.length : Int) - s.fr.length := rfl; rw [hfr0] at e; simp at e; omega
      obtain ⟨a2, c2, g2⟩ := h.raw.fr
      rw [hfr0] at g2
      simp only [List.length_nil] at g2
      obtain ⟨a1, c1, g1⟩ := h.raw.sl
      have hnews : ∀ n : Nat, ∀ j u, (enc (true, x))[j]? = some u → ((w.drewN n).alloc (.cells #[.bool true, (fun x : ByteArray => .string x) x] TS)).cell? ((⟨w.heap.size, 0, none⟩ : Addr).add j) = some u := fun n =>
        World.news_of_block (w := (w.drewN n).alloc (.cells (enc (true, x)).toArray TS)) (B := w.heap.size) (cs := (enc (true, x)).toArray) (t := TS) (fr := (0, 0)) (by show (w.heap.push _)[w.heap.size]? = _; simp)
      have hR : ∀ n, (w.drewN n).ownsRow 0 TS 2 (.slice a1 s.sl.length c1) s.sl.length (cells s.sl) := fun n => (h.drewN n).raw.slAt g1
      obtain ⟨i0, hi, hz0, hz1, hz2⟩ := info_parts infoSlot
      have hal' := hal
      rw [e] at hal'
      have E := Lib.hid e; have HI := Lib.hid h; have HL := Lib.hid hLV; have HR := Lib.hid hR; have HK := Lib.hid hal'
      have f1 := hfl.2 1
      clear e h hal hfl hLV hlv hroom hal' hfr hfr0 hR
      go_enter Try.func43, Try.ntmps43
      go_wp2
      go_quiet ((go_at_call 46; exact Calls.quiet_of (HL.out _)))
      go_wp2_with (at_builtin; refine wpList_append_lies _ rfl _ _ 101 rfl 0 105 i0 (.agg #[.bool false, .string ⟨#[]⟩]) 2 24 Try.underlying101 hi hz0 hz1 hz2 rfl (by decide) _ _ _ rfl ((HR.out nq).alloc _) ⟨w.heap.size, 0, none⟩ 1 1 (enc (true, x)) rfl rfl (hnews nq) ?c2 (by decide) ?c3 ?c4 (Nat.zero_le _) (w.heap.size + 1) (by simp) ?_)
      case c2 => intro u hu; simp [enc] at hu; rcases hu with rfl | rfl <;> rfl
      case c3 => unfold maxLen; omega
      case c4 => omega
      intro g' cap w' hown' hgr hat hlt
      obtain ⟨q1, q2, q3, q4⟩ := (HI.out.drewN nq).raw.slGrow (p := (true, x)) g1 _ hown' hgr hat hlt
      have Q3 := Lib.hid q3; have Q4 := Lib.hid q4
      clear q3 q4 hown' hgr hat
      go_wp2
      go_ret2
      refine ⟨by rw [E.out]; rfl, ?_, ?_⟩
      · rw [E.out]; exact Q3.out.is HK.out
      · exact ((Only.refl own w).drewN nq).trans Q4.out (fun k _ h => h)

/-- The arena at block b, made since the world w0, of which nothing has turned. -/
def Held (w0 : World) (b : Nat) (s : Ar ByteArray) (w : World) : Prop := ∃ own, Is own b s w ∧ (∀ k, own k → w0.heap.size ≤ k) ∧ Below w0.heap.size w0 w
theorem Held.ok {w0 : World} {b : Nat} {s : Ar ByteArray} {w : World} (h : Held w0 b s w) : s.Ok := by obtain ⟨own, h, -⟩ := h; exact h.ok
theorem Held.below {w0 : World} {b : Nat} {s : Ar ByteArray} {w : World} (h : Held w0 b s w) : Below w0.heap.size w0 w := by obtain ⟨own, -, -, h⟩ := h; exact h
theorem Held.later {w0 : World} {b : Nat} {s : Ar ByteArray} {w w' : World} (h : Held w0 b s w) (hb : Below w.heap.size w w') : Held w0 b s w' := by
  obtain ⟨own, h1, h2, h3⟩ := h
  exact ⟨own, h1.later hb, h2, h3.trans (hb.mono h3.size)⟩
theorem Held.made {w0 w : World} (h : Below w0.heap.size w0 w) (n : Int) :
    Calls Try.prog 42 #[.int .i64 n] w fun e w' => e = .returned (.pointer (some ⟨w.heap.size, 0, none⟩)) ∧ Held w0 w.heap.size { room := min (max n 0) 1048576, sl := [], fr := [] } w' ∧ Below w.heap.size w w' := by
  refine (new_any n w).mono ?_
  rintro e w' ⟨rfl, h1, h2, -⟩
  exact ⟨rfl, ⟨_, h1, fun k hk => by have := h.size; omega, h.trans (h2.mono h.size)⟩, h2⟩
theorem Held.step {w0 : World} {b : Nat} {s s' : Ar ByteArray} {w w' : World} {own : Nat → Prop} (h1 : Is own b s w) (h2 : ∀ k, own k → w0.heap.size ≤ k) (h3 : Below w0.heap.size w0 w) (q1 : Is (ownNew own w w') b s' w') (q2 : Only own w w') : Held w0 b s' w' :=
  ⟨_, q1, fun k hk => hk.elim (h2 k) (fun h => Nat.le_trans h3.size h.1), h3.trans (q2.below h3.size h2)⟩
theorem Held.alloc {w0 : World} {b : Nat} {s s' : Ar ByteArray} {w : World} (h : Held w0 b s w) {x : ByteArray} {i : Int} {ok : Bool} (e : s.alloc x = (s', i, ok)) :
    Calls Try.prog 43 #[.pointer (some ⟨b, 0, none⟩), (fun x : ByteArray => .string x) x] w fun e w' => e = .returned (.tuple #[.int .i64 i, .bool ok]) ∧ Held w0 b s' w' := by
  obtain ⟨own, h1, h2, h3⟩ := h
  refine (alloc_any own b s w h1 x).mono ?_
  rintro e' w' ⟨rfl, q1, q2⟩
  rw [e] at q1
  exact ⟨by rw [e], .step h1 h2 h3 q1 q2⟩
theorem Held.free {w0 : World} {b : Nat} {s : Ar ByteArray} {w : World} (h : Held w0 b s w) (i : Int) :
    Calls Try.prog 44 #[.pointer (some ⟨b, 0, none⟩), .int .i64 i] w fun e w' => e = .returned (.bool (s.has i)) ∧ Held w0 b (if s.has i then s.free ⟨#[]⟩ i else s) w' := by
  obtain ⟨own, h1, h2, h3⟩ := h
  refine (free_any own b s w h1 i).mono ?_
  rintro e' w' ⟨rfl, q1, q2⟩
  exact ⟨rfl, .step h1 h2 h3 q1 q2⟩
theorem Held.get {w0 : World} {b : Nat} {s : Ar ByteArray} {w : World} (h : Held w0 b s w) (i : Int) :
    Calls Try.prog 45 #[.pointer (some ⟨b, 0, none⟩), .int .i64 i] w fun e w' => e = .returned (.tuple #[(fun x : ByteArray => .string x) (getAt s i), .bool (s.has i)]) ∧ w = w' := by
  obtain ⟨own, h1, h2, h3⟩ := h
  exact get_any own b s w h1 i
theorem Held.live {w0 : World} {b : Nat} {s : Ar ByteArray} {w : World} (h : Held w0 b s w) :
    Calls Try.prog 46 #[.pointer (some ⟨b, 0, none⟩)] w fun e w' => e = .returned (.int .i64 s.live) ∧ ∃ n, w' = w.drewN n := by
  obtain ⟨own, h1, h2, h3⟩ := h
  exact live_any own b s w h1

end Go.Proofs.Ytbaepjjanjhliaa.arS
