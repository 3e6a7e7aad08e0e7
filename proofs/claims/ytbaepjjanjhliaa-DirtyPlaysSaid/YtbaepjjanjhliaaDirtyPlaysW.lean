/- The law DirtyPlays, walked. -/
import Derived.Test.YtbaepjjanjhliaaDirtyV
import Derived.Test.YtbaepjjanjhliaaDirtyLP
import Derived.Test.YtbaepjjanjhliaaOpenDirty
import Derived.Test.YtbaepjjanjhliaaRef02A
import Derived.Outline
import Derived.Deep.RegionLaw
import Derived.BigQuiet
namespace Go.Proofs.Ytbaepjjanjhliaa.drt
set_option linter.unusedVariables false
open Go.RowKit

/-- what is left of a loop's rounds; no 'match' in the open -/
def upTo (n : Nat) : Value → Nat
  | .int _ j => n - j.toNat
  | _ => 0
abbrev fvP (bt : Nat) : Value := .func (.func 35) #[] #[.pointer (some ⟨bt, 0, none⟩)]
/-- the law's own things: the queue with the numbers a; a row m of the law's own; the order's box -/
def LS2 (w0 : World) (bt : Nat) (turned : Bool) (bq bm : Nat) (m a : List Int) (N : Nat) (vm : Value) (W : World) : Prop :=
  ∃ own am cm, P.QS own bq bm (fvP bt) (P.kyT turned) a N W ∧ (vm = .slice am m.length cm ∧ W.ownsRow w0.heap.size TI 1 (.slice am m.length cm) m.length (ints m) ∧ (∀ x, am = some x → ¬ own x.block ∧ x.block ≠ bt)) ∧ (W.cell? ⟨bt, 0, none⟩ = some (.bool turned) ∧ ¬ own bt) ∧ (∀ k, own k → w0.heap.size ≤ k) ∧ Below w0.heap.size w0 W ∧ w0.heap.size ≤ bt
/-- both hold the same numbers -/
def LS (w0 : World) (bt : Nat) (turned : Bool) (bq bm : Nat) (m : List Int) (N : Nat) (vm : Value) (W : World) : Prop := ∃ a, LS2 w0 bt turned bq bm m a N vm W ∧ a.Perm m
/-- where a number lies -/
def At (m : List Int) (v : Int) (k : Nat) (i : Int) : Prop := (i = -1 ∧ ∀ j, j < k → m[j]? ≠ some v) ∨ (∃ j, j < k ∧ i = (j : Int) ∧ m[j]? = some v)
theorem At.end {m : List Int} {v i : Int} (h : At m v m.length i) : (i = -1 ∧ v ∉ m) ∨ (∃ j : Nat, i = (j : Int) ∧ m[j]? = some v) := by
  rcases h with ⟨h1, h2⟩ | ⟨j, h1, h2, h3⟩
  · refine .inl ⟨h1, fun hm => ?_⟩
    obtain ⟨j, hj⟩ := List.getElem?_of_mem hm
    exact h2 j (List.getElem?_eq_some_iff.1 hj).1 hj
  · exact .inr ⟨j, h2, h3⟩
theorem At.hit {m : List Int} {v : Int} {k : Nat} (hk : m[k]? = some v) : At m v (k + 1) (k : Int) := .inr ⟨k, by omega, rfl, hk⟩
theorem At.miss {m : List Int} {v u i : Int} {k : Nat} (h : At m v k i) (hk : m[k]? = some u) (hne : u ≠ v) : At m v (k + 1) i := by
  rcases h with ⟨h1, h2⟩ | ⟨j, h1, h2, h3⟩
  · refine .inl ⟨h1, fun j hj q => ?_⟩
    by_cases e : j = k
    · subst e; rw [hk] at q; exact hne (Option.some.inj q)
    · exact h2 j (by omega) q
  · exact .inr ⟨j, by omega, h2, h3⟩
/-- the law's own row: where it lies -/
theorem LS.row {w0 W : World} {bt bq bm N : Nat} {turned : Bool} {m : List Int} {vm : Value} (h : LS w0 bt turned bq bm m N vm W) : ∃ am cm, vm = .slice am m.length cm ∧ (0 < m.length → ∃ q, am = some ⟨q, 0, none⟩ ∧ (∀ j, j < m.length → W.cell? ⟨q, j, none⟩ = (ints m)[j]?) ∧ q < W.heap.size) := by
  obtain ⟨a, ⟨own, am, cm, -, ⟨h1, h2, -⟩, -⟩, -⟩ := h
  refine ⟨am, cm, h1, fun hm => ?_⟩
  obtain ⟨q, e, -, hq, hc, -⟩ := owns_cellAt h2 hm
  exact ⟨q, e, fun j hj => hc j (by omega), hq⟩
theorem LS.below {w0 W : World} {bt bq bm N : Nat} {turned : Bool} {m : List Int} {vm : Value} (h : LS w0 bt turned bq bm m N vm W) : Below w0.heap.size w0 W := by
  obtain ⟨a, ⟨own, am, cm, -, -, -, -, h, -⟩, -⟩ := h
  exact h
theorem LS.cells {w0 W : World} {bt bq bm N : Nat} {turned : Bool} {m : List Int} {am : Option Addr} {cm : Nat} (h : LS w0 bt turned bq bm m N (.slice am m.length cm) W) (hm : 0 < m.length) : ∃ q, am = some ⟨q, 0, none⟩ ∧ (∀ j, j < m.length → W.cell? ⟨q, j, none⟩ = (ints m)[j]?) ∧ q < W.heap.size := by
  obtain ⟨am', cm', e, h1⟩ := h.row
  simp only [Value.slice.injEq] at e
  obtain ⟨rfl, -, rfl⟩ := e
  exact h1 hm
section
variable {w0 W W' : World} {bt bq bm N N' : Nat} {turned : Bool} {m a a' : List Int} {vm : Value}
theorem LS2.later (h : LS2 w0 bt turned bq bm m a N vm W) (hb : Below W.heap.size W W') : LS2 w0 bt turned bq bm m a N vm W' := by
  obtain ⟨own, am, cm, h1, ⟨h2, h3, h4⟩, ⟨h5, h5'⟩, h6, h7, h8⟩ := h
  exact ⟨own, am, cm, h1.later hb, ⟨h2, owns_below h3 hb, h4⟩, ⟨cell_later hb h5, h5'⟩, h6, after h7 hb h7.size, h8⟩
theorem LS.later (h : LS w0 bt turned bq bm m N vm W) (hb : Below W.heap.size W W') : LS w0 bt turned bq bm m N vm W' := by
  obtain ⟨a, h1, h2⟩ := h
  exact ⟨a, h1.later hb, h2⟩
/-- .. and block g is none of the queue's -/
def LSx (g : Nat) (w0 : World) (bt : Nat) (turned : Bool) (bq bm : Nat) (m : List Int) (N : Nat) (vm : Value) (W : World) : Prop := ∃ a, (∃ own am cm, P.QS own bq bm (fvP bt) (P.kyT turned) a N W ∧ (vm = .slice am m.length cm ∧ W.ownsRow w0.heap.size TI 1 (.slice am m.length cm) m.length (ints m) ∧ (∀ x, am = some x → ¬ own x.block ∧ x.block ≠ bt)) ∧ (W.cell? ⟨bt, 0, none⟩ = some (.bool turned) ∧ ¬ own bt) ∧ (∀ k, own k → w0.heap.size ≤ k) ∧ Below w0.heap.size w0 W ∧ w0.heap.size ≤ bt ∧ ¬ own g) ∧ a.Perm m
theorem LSx.ls {g : Nat} (h : LSx g w0 bt turned bq bm m N vm W) : LS w0 bt turned bq bm m N vm W := by
  obtain ⟨a, ⟨own, am, cm, h1, h2, h5, h6, h7, h8, -⟩, hp⟩ := h
  exact ⟨a, ⟨own, am, cm, h1, h2, h5, h6, h7, h8⟩, hp⟩
theorem LSx.later {g : Nat} (h : LSx g w0 bt turned bq bm m N vm W) (hb : Below W.heap.size W W') : LSx g w0 bt turned bq bm m N vm W' := by
  obtain ⟨a, ⟨own, am, cm, h1, ⟨h2, h3, h4⟩, ⟨h5, h5'⟩, h6, h7, h8, h9⟩, hp⟩ := h
  exact ⟨a, ⟨own, am, cm, h1.later hb, ⟨h2, owns_below h3 hb, h4⟩, ⟨cell_later hb h5, h5'⟩, h6, after h7 hb h7.size, h8, h9⟩, hp⟩
theorem LS.laterx {g : Nat} (h : LS w0 bt turned bq bm m N vm W) (hb : Below W.heap.size W W') (hg : W.heap.size ≤ g) : LSx g w0 bt turned bq bm m N vm W' := by
  obtain ⟨a, ⟨own, am, cm, h1, ⟨h2, h3, h4⟩, ⟨h5, h5'⟩, h6, h7, h8⟩, hp⟩ := h
  exact ⟨a, ⟨own, am, cm, h1.later hb, ⟨h2, owns_below h3 hb, h4⟩, ⟨cell_later hb h5, h5'⟩, h6, after h7 hb h7.size, h8, fun q => by have := h1.lt g q; omega⟩, hp⟩
/-- the queue turned -/
theorem LS2.queue {own own' : Nat → Prop} {am : Option Addr} {cm : Nat} (h3 : W.ownsRow w0.heap.size TI 1 (.slice am m.length cm) m.length (ints m)) (h4 : ∀ x, am = some x → ¬ own x.block ∧ x.block ≠ bt) (h5 : W.cell? ⟨bt, 0, none⟩ = some (.bool turned)) (h5' : ¬ own bt) (h6 : ∀ k, own k → w0.heap.size ≤ k) (h7 : Below w0.heap.size w0 W) (h8 : w0.heap.size ≤ bt)
    (ho : Only own W W') (hq : P.QS own' bq bm (fvP bt) (P.kyT turned) a' N' W') (hs : ∀ k, own' k → own k ∨ W.heap.size ≤ k) : LS2 w0 bt turned bq bm m a' N' (.slice am m.length cm) W' := by
  have hbt : bt < W.heap.size := World.block_lt_of_cell? W ⟨bt, 0, none⟩ h5
  have hob : ∀ g, (Value.slice am m.length cm).ownBlock = some g → ¬ own g ∧ g < W.heap.size := fun g hg => by
    have hl := (h3.lt g hg).2
    cases am with
    | none => simp [Value.ownBlock] at hg
    | some x =>
      have : x.block = g := by simpa [Value.ownBlock] using hg
      subst this
      exact ⟨(h4 x rfl).1, hl⟩
  refine ⟨own', am, cm, hq, ⟨rfl, owns_only h3 ho (fun g hg => (hob g hg).1), fun x hx => ⟨fun q => ?_, (h4 x hx).2⟩⟩, ⟨cell_only h5 ho h5', fun q => (hs _ q).elim h5' (fun q => by omega)⟩, fun k hk => (hs k hk).elim (h6 k) (fun q => Nat.le_trans h7.size q), h7.trans (ho.below h7.size h6), h8⟩
  subst hx
  rcases hs _ q with q | q
  · exact (h4 x rfl).1 q
  · have := (hob x.block rfl).2; omega
/-- another row -/
theorem LS2.newRow {B : Nat} {m' : List Int} {n' : Nat} {am' : Option Addr} {cm' : Nat} (h : LS2 w0 bt turned bq bm m a N vm W) (hB : W.heap.size ≤ B) (hb : Below W.heap.size W W') (hr : W'.ownsRow B TI 1 (.slice am' n' cm') n' (ints m')) (hn : n' = m'.length) : LS2 w0 bt turned bq bm m' a N (.slice am' n' cm') W' := by
  subst hn
  obtain ⟨own, am, cm, h1, -, ⟨h5, h5'⟩, h6, h7, h8⟩ := h
  have hbt : bt < W.heap.size := World.block_lt_of_cell? W ⟨bt, 0, none⟩ h5
  refine ⟨own, am', cm', h1.later hb, ⟨rfl, owns_base hr (fun g hg => by have := (hr.lt g hg).1; have := h7.size; omega), fun x hx => ?_⟩, ⟨cell_later hb h5, h5'⟩, h6, after h7 hb h7.size, h8⟩
  subst hx
  have hl := (hr.lt x.block rfl).1
  exact ⟨fun q => by have := h1.lt _ q; omega, by omega⟩
end
/-- a number put to the law's own row -/
theorem LS2.snoc {w0 w5 w6 w7 : World} {bt bq bm N : Nat} {turned : Bool} {m a : List Int} {am a' : Option Addr} {cm c' : Nat} {x : Int} (h : LS2 w0 bt turned bq bm m a N (.slice am m.length cm) w5) (hb : Below w5.heap.size w5 w6) (hap : Appended w0.heap.size TI 1 (.slice am m.length cm) m.length 1 (ints m) [.int .i64 x] w6 (.slice a' (m.length + 1) c') w7) :
    LS2 w0 bt turned bq bm (m ++ [x]) a N (.slice a' (m.length + 1) c') w7 := by
  have h0 := h.later hb
  obtain ⟨own, am1, cm1, h1, ⟨e, h3, h4⟩, ⟨h5, h5'⟩, h6, h7, h8⟩ := h0
  simp only [Value.slice.injEq] at e
  obtain ⟨rfl, -, rfl⟩ := e
  have hbt : bt < w6.heap.size := World.block_lt_of_cell? w6 ⟨bt, 0, none⟩ h5
  have hln : (m ++ [x]).length = m.length + 1 := by simp
  have hob : ∀ g, (Value.slice am m.length cm).ownBlock = some g → ¬ own g ∧ g ≠ bt := fun g hg => by
    cases am with
    | none => simp [Value.ownBlock] at hg
    | some y =>
      have : y.block = g := by simpa [Value.ownBlock] using hg
      subst this
      exact h4 y rfl
  have ho : Only (fun k => (Value.slice am m.length cm).ownBlock = some k) w6 w7 := (Only.refl _ w6).grown hap.grown (fun k e _ => e)
  have hr := hap.own
  have e1 : ints m ++ [.int .i64 x] = ints (m ++ [x]) := by simp
  rw [e1] at hr
  refine ⟨own, a', c', h1.only ho (fun k hk e => (hob k e).1 hk), ⟨by rw [hln], by rw [hln]; exact hr, fun y hy => ?_⟩, ⟨cell_only h5 ho (fun e => (hob _ e).2 rfl), h5'⟩, h6, h7.trans (ho.below h7.size (fun k e => (h3.lt k e).1)), h8⟩
  have hy2 : (Value.slice a' (m.length + 1) c').ownBlock = some y.block := by rw [hy]; rfl
  rcases hap.lies with q | q | q
  · rw [hy2] at q; cases q
  · rw [hy2] at q; exact hob _ q.symm
  · rw [hy2] at q
    have := Option.some.inj q
    exact ⟨fun q => by have := h1.lt _ q; omega, by omega⟩
theorem ints_er (L : List Int) (p : Nat) : (ints L).take p ++ (ints L).drop (p + 1) = ints (L.eraseIdx p) := by
  rw [List.eraseIdx_eq_take_drop_succ]
  simp
theorem erase_perm {m : List Int} {p : Nat} {x : Int} (h : m[p]? = some x) : (x :: m.eraseIdx p).Perm m := by
  obtain ⟨hl, e⟩ := List.getElem?_eq_some_iff.1 h
  rw [List.eraseIdx_eq_take_drop_succ]
  have e2 : m.take p ++ x :: m.drop (p + 1) = m := by rw [← e, ← List.drop_eq_getElem_cons hl, List.take_append_drop]
  refine (List.perm_middle (a := x) (l₁ := m.take p) (l₂ := m.drop (p + 1))).symm.trans ?_
  rw [e2]
theorem row_le' {w : World} {B : Nat} {e : TypeId} {k : Nat} {x : Option Addr} {m c : Nat} {xs : List Value} (h : w.ownsRow B e k (.slice x m c) m xs) : m ≤ c := by
  rcases h.2 with ⟨e, _⟩ | ⟨g, cap, cur, e, _, _, hnc, _⟩
  · cases e; omega
  · cases e; exact hnc
theorem LS2.row3 {w0 W : World} {bt bq bm N : Nat} {turned : Bool} {m a : List Int} {am : Option Addr} {cm : Nat} (h : LS2 w0 bt turned bq bm m a N (.slice am m.length cm) W) : W.ownsRow w0.heap.size TI 1 (.slice am m.length cm) m.length (ints m) := by
  obtain ⟨own, am1, cm1, h1, ⟨e, h3, h4⟩, -⟩ := h
  simp only [Value.slice.injEq] at e
  obtain ⟨rfl, -, rfl⟩ := e
  exact h3
/-- the least one's place -/
def Least (ky : Int → Int) (m : List Int) (k : Nat) (li : Int) : Prop := (k = 0 ∧ li = -1) ∨ (∃ j u, j < k ∧ li = (j : Int) ∧ m[j]? = some u ∧ ∀ (i : Nat) (x : Int), i < k → m[i]? = some x → ky u ≤ ky x)
theorem Least.first {ky : Int → Int} {m : List Int} {u : Int} (h : m[0]? = some u) : Least ky m 1 ((0 : Nat) : Int) := .inr ⟨0, u, by omega, rfl, h, fun i x hi hx => by
  obtain rfl : i = 0 := by omega
  rw [h] at hx; cases hx; exact Int.le_refl _⟩
theorem Least.new {ky : Int → Int} {m : List Int} {k j : Nat} {u v : Int} (hv : m[k]? = some v) (hle : ∀ (i : Nat) (x : Int), i < k → m[i]? = some x → ky u ≤ ky x) (hlt : ky v < ky u) : Least ky m (k + 1) ((k : Nat) : Int) := .inr ⟨k, v, by omega, rfl, hv, fun i x hi hx => by
  by_cases e : i = k
  · subst e; rw [hv] at hx; cases hx; exact Int.le_refl _
  · have := hle i x (by omega) hx; omega⟩
theorem Least.old {ky : Int → Int} {m : List Int} {k j : Nat} {u v : Int} (hj : j < k) (hu : m[j]? = some u) (hv : m[k]? = some v) (hle : ∀ (i : Nat) (x : Int), i < k → m[i]? = some x → ky u ≤ ky x) (hlt : ¬ ky v < ky u) : Least ky m (k + 1) ((j : Nat) : Int) := .inr ⟨j, u, by omega, rfl, hu, fun i x hi hx => by
  by_cases e : i = k
  · subst e; rw [hv] at hx; cases hx; omega
  · exact hle i x (by omega) hx⟩
set_option maxRecDepth 100000 in
set_option maxHeartbeats 4000000 in
theorem plays_walk (turned : Bool) (acts : List (Int × Int)) (v : Value) (w : World) (hrow : Row w v 2 acts.length (dCells acts)) (hmax : acts.length ≤ 9223372036854775807) (hwf : ∀ q ∈ acts, (Lit.int .i64 q.2).wf = true) :
    Calls Try.prog 7 #[.bool turned, v] w fun e w' => e = .returned (.bool true) ∧ Below w.heap.size w w' := by
  have HR := Lib.hid hrow
  obtain ⟨a, cap, rfl, -⟩ := hrow
  go_enter Try.func7, Try.ntmps7
  go_wp2_with fail
  (with_reducible refine (speaks_any _).mono ?_); rintro e w1 ⟨rfl, hb1⟩
  have hc1 : w1.cell? ⟨w.heap.size, 0, none⟩ = some (.bool turned) := cell_later hb1 (cells_new w [.bool turned] 4 0)
  have hz1 := hb1.size
  rw [World.size_alloc] at hz1
  have hB1 : Below w.heap.size w w1 := ((Below.refl _ w).alloc (Nat.le_refl _) _).trans (hb1.mono (by simp))
  go_wp2_with fail
  (with_reducible refine (P.q_new (bt := w.heap.size) (ky := P.kyT turned) _).mono ?_); rintro e w2 ⟨rfl, h2, hb2, hs2⟩
  have hLS : LS w w.heap.size turned (w1.heap.size + 1) w1.heap.size [] 0 (.slice none 0 0) w2 :=
    ⟨[], ⟨_, none, 0, h2, ⟨rfl, owns_nil _ _ TI 1, fun x e => by cases e⟩, ⟨cell_later hb2 hc1, fun q => by omega⟩, fun k hk => by omega, after hB1 hb2 hB1.size, Nat.le_refl _⟩, List.Perm.refl _⟩
  have HLS := Lib.hid hLS
  clear hLS h2 hb1 hc1 hb2
  go_upto_block 0 with fail
  have hlo : (0 : Int) ≤ (acts.length : Int) := by omega
  have hhi : (acts.length : Int) ≤ 9223372036854775807 := by omega
  obtain ⟨bq, hbq⟩ : ∃ bq, w1.heap.size + 1 = bq := ⟨_, rfl⟩
  obtain ⟨bm, hbm⟩ : ∃ bm, w1.heap.size = bm := ⟨_, rfl⟩
  rw [hbq, hbm] at HLS
  rw [hbq]
  clear hbq hbm hB1 hz1 hs2
  go_cut [7, 8] from 9 to 168 (fun vm i wx => ∃ m N, LS w w.heap.size turned bq bm m N vm wx)
  case first =>
    go_wp2_with fail
    go_loopw [7, 8] (fun vm i wr => ∃ (j : Nat) (m : List Int) (N : Nat), i = .int .i64 (j : Int) ∧ j ≤ 80 ∧ j ≤ acts.length ∧ m.length ≤ j ∧ N ≤ j * 1000 ∧ LS w w.heap.size turned bq bm m N vm wr) (fun _ i _ => upTo 80 i)
    case atStart => exact ⟨0, [], 0, rfl, by omega, by omega, by simp, by omega, HLS.out⟩
    case round =>
      obtain ⟨j, m, N, rfl, hj, hjn, hmj, hN, hP⟩ := hrel
      have hd0 : (0 : Int) ≤ (j : Int) := by omega
      have HP := Lib.hid hP
      obtain ⟨am, cm, rfl, -⟩ := hP.row
      have hbel : Below w.heap.size w wr := hP.below
      have HBE := Lib.hid hbel
      clear hP hbel
      by_cases c1 : j < acts.length
      · by_cases c2 : j < 80
        · have hrw := HR.out.later HBE.out
          obtain ⟨ba, off, cap', ea, hcell⟩ := hrw.pos (by omega)
          simp only [Value.slice.injEq] at ea
          obtain ⟨rfl, -, rfl⟩ := ea
          have hact := List.getElem?_eq_getElem c1
          have hx64 : In64 (acts[j]).2 := hwf _ (List.getElem_mem c1)
          obtain ⟨ca, cb⟩ := dCells_at acts j _ hact
          have ga := (hcell (j * 2) (by omega)).trans ca
          have gb := (hcell (j * 2 + 1) (by omega)).trans cb
          generalize acts[j] = A at *
          obtain ⟨x0, x1⟩ := A
          dsimp only at ga gb hx64
          rw [← Nat.add_assoc] at gb
          have d1 : (j : Int) < (acts.length : Int) := by omega
          have d2 : (j : Int) < 80 := by omega
          clear hcell ca cb hact hrw
          have HB0 := Lib.hid ((Below.refl wr.heap.size wr).alloc (Nat.le_refl _) (.cells #[.int .i64 x0, .int .i64 x1] 70))
          have f9 := Flds.new wr 70 [.int .i64 x0, .int .i64 x1]
          have HF9 := Lib.hid f9
          have l9 := f9.lt
          clear f9
          have HPY := Lib.hid (HP.out.laterx HB0.out (g := wr.heap.size) (Nat.le_refl _))
          clear HP
          go_upto_block 2 with fail
          generalize wr.alloc (.cells #[.int .i64 x0, .int .i64 x1] 70) = Y at *
          generalize hg9 : wr.heap.size = g9 at *
          go_cut [10, 11] from 40 to 53 (fun at0 _ wx => ∃ i : Int, at0 = .int .i64 i ∧ Hid (At m x1 m.length i) ∧ Hid (Below Y.heap.size Y wx))
          case first =>
            go_wp2_with fail
            go_loopw [10, 11] (fun at0 kk wq => ∃ (k : Nat) (i : Int), kk = .int .i64 (k : Int) ∧ at0 = .int .i64 i ∧ k ≤ m.length ∧ Hid (At m x1 k i) ∧ Hid (Below Y.heap.size Y wq)) (fun _ kk _ => upTo m.length kk)
            case atStart => exact ⟨0, -1, rfl, rfl, by omega, Lib.hid (.inl ⟨rfl, fun j hj => by omega⟩), Lib.hid (Below.refl _ _)⟩
            case round =>
              obtain ⟨k, i, rfl, rfl, hk, HAT, HBK⟩ := hrel
              have k0 : (0 : Int) ≤ (k : Int) := by omega
              by_cases hkl : k < m.length
              · have k1 : (k : Int) < (m.length : Int) := by omega
                obtain ⟨q, rfl, hc, hql⟩ := HPY.out.ls.cells (by omega)
                obtain ⟨u, hu⟩ : ∃ u, m[k]? = some u := ⟨_, List.getElem?_eq_getElem hkl⟩
                have gk := hc k hkl
                rw [List.getElem?_map, hu] at gk
                have gk : Y.cell? ⟨q, k, none⟩ = some (.int .i64 u) := gk
                have gq := cell_later HBK.out gk
                have f9 := HF9.out.later HBK.out
                have e1 := f9.cell 1
                simp only [List.getElem?_cons_zero, List.getElem?_cons_succ] at e1
                have l1 := f9.lt
                have HU := Lib.hid hu
                clear f9 hc gk hu
                by_cases huv : u = x1
                · have hq : (u == x1) = true := by simpa using huv
                  go_wp2_with fail
                  go_quiet (fail)
                  go_wp2_with fail
                  go_roundw
                  case rel => exact ⟨k + 1, k, by go_num, rfl, by omega, Lib.hid (At.hit (huv ▸ HU.out)), Lib.hid (below_drewN HBK.out _)⟩
                  case measure => simp [upTo]; omega
                · have hq : (u == x1) = false := by simpa using huv
                  go_wp2_with fail
                  go_quiet (fail)
                  go_wp2_with fail
                  go_roundw
                  case rel => exact ⟨k + 1, i, by go_num, rfl, by omega, Lib.hid (HAT.out.miss HU.out huv), Lib.hid (below_drewN HBK.out _)⟩
                  case measure => simp [upTo]; omega
              · obtain rfl : k = m.length := by omega
                have k1 : ¬ (m.length : Int) < (m.length : Int) := by omega
                go_wp2_with fail
                go_meet
                exact ⟨i, rfl, HAT, HBK⟩
          case rest =>
            obtain ⟨i, rfl, HAT, HBX⟩ := hcut
            have HPX := Lib.hid (HPY.out.later HBX.out)
            have f9 := HF9.out.later HBX.out
            have e0 := f9.cell 0; have e1 := f9.cell 1
            simp only [List.getElem?_cons_zero, List.getElem?_cons_succ] at e0 e1
            have l1 := f9.lt
            obtain ⟨b, hb⟩ : ∃ b : Bool, decide (x1 ∈ m) = b := ⟨_, rfl⟩
            have hib : decide (0 ≤ i) = b := by
              rw [← hb, decide_eq_decide]
              rcases HAT.out.end with ⟨q1, q2⟩ | ⟨jj, q1, q2⟩
              · exact ⟨fun q => by omega, fun q => absurd q q2⟩
              · exact ⟨fun _ => List.mem_of_getElem? q2, fun _ => by omega⟩
            have hbb : (b != b) = false := by cases b <;> rfl
            obtain ⟨K, hK⟩ : ∃ K, (wrap64 (x0.tmod 6 + 6)).tmod 6 = K := ⟨_, rfl⟩
            clear f9 HPY HF9 HBX
            go_upto_block 4 with fail
            go_cut [7, 12, 13, 14, 15, 16, 17] from 26 to 158 (fun vm g1 g2 _ _ _ _ wx => ∃ (m' : List Int) (N' : Nat) (b : Bool), g1 = .bool b ∧ g2 = .bool b ∧ m'.length ≤ m.length + 1 ∧ N' ≤ N + 1000 ∧ LS w w.heap.size turned bq bm m' N' vm wx)
            case first =>
              by_cases t3 : K = 3
              · have t3' : (K == 3) = true := by simpa using t3
                clear t3
                go_upto_block 5 with fail
                go_cut [14, 15] from 76 to 96 (fun l _ wx => ∃ li : Int, l = .int .i64 li ∧ Hid (Least (P.kyT turned) m m.length li) ∧ Hid (Below wc.heap.size wc wx))
                case first =>
                  have HPZ := Lib.hid HPX.out.ls
                  obtain ⟨W, hW⟩ : ∃ W, wc = W := ⟨_, rfl⟩
                  rw [hW] at HPZ e1 ⊢
                  clear HPX HAT hib hb e0 e1 l1 HBE HB0
                  have HBT : Hid (W.cell? ⟨w.heap.size, 0, none⟩ = some (.bool turned)) := Lib.hid (by obtain ⟨a, ⟨own, am1, cm1, -, -, ⟨q, -⟩, -⟩, -⟩ := HPZ.out; exact q)
                  have HW := Lib.hid hW
                  clear hW
                  go_wp2_with fail
                  go_loopw [14, 15] (fun l kk wq => ∃ (k : Nat) (li : Int), kk = .int .i64 (k : Int) ∧ l = .int .i64 li ∧ k ≤ m.length ∧ Hid (Least (P.kyT turned) m k li) ∧ Hid (Below W.heap.size W wq)) (fun _ kk _ => upTo m.length kk)
                  case atStart => exact ⟨0, -1, rfl, rfl, by omega, Lib.hid (.inl ⟨rfl, rfl⟩), Lib.hid (Below.refl _ _)⟩
                  case round =>
                    obtain ⟨k, li, rfl, rfl, hk, HLE, HBK⟩ := hrel
                    have k0 : (0 : Int) ≤ (k : Int) := by omega
                    by_cases hkl : k < m.length
                    · have k1 : (k : Int) < (m.length : Int) := by omega
                      obtain ⟨q, rfl, hc, hql⟩ := HPZ.out.cells (by omega)
                      obtain ⟨u, hu⟩ : ∃ u, m[k]? = some u := ⟨_, List.getElem?_eq_getElem hkl⟩
                      have gk := hc k hkl
                      rw [List.getElem?_map, hu] at gk
                      have gk : W.cell? ⟨q, k, none⟩ = some (.int .i64 u) := gk
                      have gq := cell_later HBK.out gk
                      have HU := Lib.hid hu
                      clear hu gk
                      rcases HLE.out with ⟨hk0, rfl⟩ | ⟨jj, uj, hjk, rfl, huj, hle⟩
                      · have hneg : decide ((-1 : Int) < 0) = true := rfl
                        clear hc
                        go_wp2_with fail
                        go_quiet (fail)
                        go_wp2_with fail
                        go_roundw
                        case rel => exact ⟨k + 1, k, by go_num, rfl, by omega, Lib.hid (by subst hk0; exact Least.first HU.out), Lib.hid (below_drewN HBK.out _)⟩
                        case measure => simp [upTo]; omega
                      · have gj := hc jj (by omega)
                        rw [List.getElem?_map, huj] at gj
                        have gj : W.cell? ⟨q, jj, none⟩ = some (.int .i64 uj) := gj
                        have gj2 := cell_later HBK.out gj
                        have j0 : ¬ (jj : Int) < 0 := by omega
                        have j00 : (0 : Int) ≤ (jj : Int) := by omega
                        have j01 : decide ((jj : Int) < 0) = false := by simp
                        have j1 : (jj : Int) < (m.length : Int) := by omega
                        have hbt := cell_later HBK.out HBT.out
                        obtain ⟨lt, hlt⟩ : ∃ lt : Bool, decide (P.kyT turned u < P.kyT turned uj) = lt := ⟨_, rfl⟩
                        have HL := Lib.hid (fun n => P.law_less u uj (wr.drewN n) (bt := w.heap.size) (turned := turned) (show (wr.drewN n).cell? _ = _ from hbt))
                        rw [hlt] at HL
                        have HLE2 := Lib.hid hle; have HUJ := Lib.hid huj
                        clear hc gj hbt hle huj
                        go_wp2_with fail
                        go_quiet ((go_at_call 35; refine Calls.quiet_of_same (HL.out _)))
                        cases lt
                        · have hlt2 := of_decide_eq_false hlt
                          go_wp2_with fail
                          go_roundw
                          case rel => first | exact ⟨k + 1, by go_num, by omega, Lib.hid (Least.old hjk HUJ.out HU.out HLE2.out (by omega)), Lib.hid (below_drewN HBK.out _)⟩ | exact ⟨k + 1, jj, by go_num, rfl, by omega, Lib.hid (Least.old hjk HUJ.out HU.out HLE2.out (by omega)), Lib.hid (below_drewN HBK.out _)⟩
                          case measure => simp [upTo]; omega
                        · have hlt2 := of_decide_eq_true hlt
                          go_wp2_with fail
                          go_roundw
                          case rel => first | exact ⟨k + 1, k, by go_num, rfl, by omega, Lib.hid (Least.new (j := jj) HU.out HLE2.out hlt2), Lib.hid (below_drewN HBK.out _)⟩ | exact ⟨k + 1, by go_num, by omega, Lib.hid (Least.new (j := jj) HU.out HLE2.out hlt2), Lib.hid (below_drewN HBK.out _)⟩
                          case measure => simp [upTo]; omega
                    · obtain rfl : k = m.length := by omega
                      have k1 : ¬ (m.length : Int) < (m.length : Int) := by omega
                      go_wp2_with fail
                      go_meet
                      exact ⟨li, rfl, HLE, Lib.hid (by rw [HW.out]; exact HBK.out)⟩
                case rest =>
                  obtain ⟨li, rfl, HLE, HBL⟩ := hcut
                  have HPW := Lib.hid (HPX.out.later HBL.out)
                  obtain ⟨a, ⟨own, am', cm', h1, ⟨h2, h3, h4⟩, ⟨h5, h5'⟩, h6, h7, h8, hno⟩, hpm⟩ := HPW.out
                  simp only [Value.slice.injEq] at h2
                  obtain ⟨rfl, -, rfl⟩ := h2
                  have hal := hpm.length_eq
                  have HQ := Lib.hid (P.q_pop h1 (P.less_all h5 h5') (by omega) (by unfold maxLen; omega))
                  have HST : Hid (∀ (a' : List Int) w5, P.QS own bq bm (fvP w.heap.size) (P.kyT turned) a' (N + 2 * a.length + 3) w5 → Only own wc w5 → LS2 w w.heap.size turned bq bm m a' (N + 2 * a.length + 3) (.slice am m.length cm) w5) := Lib.hid (fun a' w5 q1 q2 => LS2.queue h3 h4 h5 h5' h6 h7 h8 q2 q1 (fun k hk => .inl hk))
                  have HPM := Lib.hid hpm
                  obtain ⟨N5, hN5e⟩ : ∃ N5, N + 2 * a.length + 3 = N5 := ⟨_, rfl⟩
                  have hN5 : N5 ≤ N + 1000 := by omega
                  rw [hN5e] at HST HQ
                  clear h1 h3 h4 h5 h5' h6 h7 h8 hpm HPW HPX HAT hib hb e0 e1 l1 HBL HB0 hno
                  rcases HLE.out with ⟨hm0, rfl⟩ | ⟨p, u, hpl, rfl, hp, hle⟩
                  · have ha : a = [] := List.eq_nil_of_length_eq_zero (by omega)
                    subst ha
                    have e2 : decide (0 < ([] : List Int).length) = false := rfl
                    have e3 : ([] : List Int).headD 0 = 0 := rfl
                    rw [e2, e3] at HQ
                    have hneg : decide ((-1 : Int) ≥ 0) = false := rfl
                    have hneg2 : decide ((-1 : Int) < 0) = true := rfl
                    have hneg3 : ¬ (0 : Int) ≤ -1 := by omega
                    clear hm0 hal
                    go_wp2_with fail
                    refine HQ.out.mono ?_
                    rintro e w5 ⟨a', rfl, q1, q2, -, q4⟩
                    have HL5 := Lib.hid (HST.out a' w5 q1 q2)
                    obtain rfl := (q4 rfl).symm
                    clear q1 q2 q4
                    go_wp2_with fail
                    go_meet
                    exact ⟨m, N5, false, rfl, rfl, by omega, hN5, _, HL5.out, HPM.out⟩
                  · have ha0 : 0 < a.length := by omega
                    rw [decide_eq_true ha0] at HQ
                    have hp0 : (0 : Int) ≤ (p : Int) := by omega
                    have hp1 : (p : Int) < (m.length : Int) := by omega
                    have hp2 : decide ((p : Int) ≥ 0) = true := by simp
                    have hp3 : ¬ (p : Int) < 0 := by omega
                    have hp4 : decide ((p : Int) < 0) = false := by simp
                    have HLE2 := Lib.hid hle; have HP1 := Lib.hid hp
                    generalize hx : a.headD 0 = x at *
                    clear hle hp HLE
                    go_wp2_with fail
                    refine HQ.out.mono ?_
                    rintro e w5 ⟨a', rfl, q1, q2, q3, -⟩
                    obtain ⟨q3, q5⟩ := q3 ha0
                    have hxu : x = u := by
                      have h1 := q5 u (HPM.out.mem_iff.2 (List.mem_of_getElem? HP1.out))
                      obtain ⟨k, hk⟩ := List.getElem?_of_mem (HPM.out.mem_iff.1 (q3.mem_iff.1 List.mem_cons_self))
                      have h2 := HLE2.out k x (List.getElem?_eq_some_iff.1 hk).1 hk
                      unfold P.kyT at h1 h2
                      cases turned
                      · simp only [Bool.false_eq_true, if_false] at h1 h2; omega
                      · simp only [if_true] at h1 h2; omega
                    have HL5 := Lib.hid (HST.out a' w5 q1 q2)
                    have HPE : Hid (a'.Perm (m.eraseIdx p)) := Lib.hid (List.Perm.cons_inv (q3.trans (HPM.out.trans (by rw [hxu]; exact (erase_perm HP1.out).symm))))
                    obtain ⟨q, rfl, -, -, gc, -⟩ := owns_cellAt HL5.out.row3 (by omega)
                    have gp := gc p (by omega)
                    rw [List.getElem?_map, HP1.out] at gp
                    have gp : w5.cell? ⟨q, p, none⟩ = some (.int .i64 u) := gp
                    have huu : (u != u) = false := by simp
                    rw [hxu]
                    clear q1 q2 q3 q5 gc HQ HST HPM HLE2 HP1 hx
                    obtain ⟨i0, hi, hz0, hz1', hz2'⟩ := info_parts infoInt
                    have hcm := row_le' HL5.out.row3
                    have HRO := Lib.hid (Row.of_owns HL5.out.row3)
                    have hw1 : IntKind.i64.wrap ((p : Int) + 1) = (p : Int) + 1 := IntWalk.i64_in _ (by omega)
                    have hn1 : (p : Int).toNat = p := by omega
                    have hn2 : ((p : Int) + 1).toNat = p + 1 := by omega
                    have hc0 : (0 : Int) ≤ (p : Int) + 1 := by omega
                    have hc00 : (0 : Int) ≤ (p : Int) := by omega
                    have hc1 : (p : Int) ≤ (cm : Int) := by omega
                    have hc2 : (p : Int) + 1 ≤ (m.length : Int) := by omega
                    have h63 : 0 + p ≤ maxLen := by unfold maxLen; omega
                    have h64 : (0 + p) * 8 ≤ 140737488355328 := by omega
                    have h67 : p + (m.length - (p + 1)) ≤ maxLen := by unfold maxLen; omega
                    have h68 : (p + (m.length - (p + 1))) * 8 ≤ 140737488355328 := by omega
                    have HONE1 := Lib.hid (ref02.one_list m (fun l => l.take p) (fun u => List.mem_of_mem_take))
                    have HONE3 := Lib.hid (ref02.one_list m (fun l => l.drop (p + 1)) (fun u => List.mem_of_mem_drop))
                    obtain ⟨A, hA, HRD⟩ : ∃ A : Option Addr, (if cm = p + 1 then some (⟨q, 0, none⟩ : Addr) else some ⟨q, p + 1, none⟩) = A ∧ Hid (∀ W, Below w5.heap.size w5 W → Row W (.slice A (m.length - (p + 1)) (cm - (p + 1))) 1 (m.length - (p + 1)) ((ints m).drop (p + 1))) :=
                      ⟨_, rfl, Lib.hid (fun W hb => ref02.row_drop (HRO.out.later hb) (by omega) _ _ (fun h => by rw [if_neg (by omega), Nat.zero_add]))⟩
                    have hbe := ((Below.refl w5.heap.size w5).drew).alloc (Nat.le_refl _) (.cells #[] 3)
                    have HBE5 := Lib.hid hbe
                    have HRT := Lib.hid (ref02.row_take (HRO.out.later hbe) (show p ≤ m.length by omega) cm)
                    have E1 : Hid (Flds (w5.drew.alloc (.cells #[] 3)) w5.heap.size 3 []) := Lib.hid (Flds.new w5.drew 3 [])
                    have KEEP1 : Hid (∀ a4 c4 w4, Appended w5.heap.size 3 1 (.slice (some ⟨w5.heap.size, 0, none⟩) 0 0) 0 p [] ((ints m).take p) (w5.drew.alloc (.cells #[] 3)) (.slice a4 (0 + p) c4) w4 →
                        Below w5.heap.size w5 w4 ∧ w4.ownsRow w5.heap.size 3 1 (.slice a4 p c4) p ((ints m).take p)) := Lib.hid (fun a4 c4 w4 hap => by
                      refine ⟨HBE5.out.trans (ref02.app_below hap HBE5.out.size), ?_⟩
                      have h := hap.own
                      rwa [Nat.zero_add, List.nil_append] at h)
                    have KEEP2 : Hid (∀ w4 a4 c4 a7 c7 w7, Below w5.heap.size w5 w4 → Appended w5.heap.size 3 1 (.slice a4 p c4) p (m.length - (p + 1)) ((ints m).take p) ((ints m).drop (p + 1)) w4 (.slice a7 (p + (m.length - (p + 1))) c7) w7 →
                        Below w5.heap.size w5 w7 ∧ w7.ownsRow w5.heap.size 3 1 (.slice a7 (p + (m.length - (p + 1))) c7) (p + (m.length - (p + 1))) (ints (m.eraseIdx p))) := Lib.hid (fun w4 a4 c4 a7 c7 w7 hb hap => by
                      refine ⟨hb.trans (ref02.app_below hap hb.size), ?_⟩
                      have h := hap.own
                      have e := ints_er m p
                      rwa [e] at h)
                    clear hbe
                    go_upto_region 33 with fail
                    go_region_law (first
                      | (refine ref02.step_append_row _ rfl (.tmp 125) (.tmp 128) 26 (by rfl) w5.heap.size 3 i0 (.int .i64 0) 1 8 Try.underlying26 hi hz0 hz1' hz2' rfl (by decide) (.slice (some ⟨w5.heap.size, 0, none⟩) 0 0) 0 [] (by rfl) (owns_of_flds (m := 0) E1.out rfl (Nat.le_refl _) (by decide)) (.slice (some ⟨q, 0, none⟩) p cm) p ((ints m).take p) (by rfl) HRT.out HONE1.out h63 h64 HBE5.out.size ?_; intro a4 c4 w4 hap4; rw [Nat.zero_add]; obtain ⟨hb4, ho4⟩ := KEEP1.out _ _ _ (by first | exact hap4 | (rw [Nat.zero_add] at hap4 ⊢; exact hap4)); have hb4 := Lib.hid hb4; have ho4 := Lib.hid ho4; clear hap4 KEEP1 HRT E1 HBE5 HONE1)
                      | (refine ref02.step_append_row _ rfl (.tmp 129) (.tmp 133) 26 (by rfl) w5.heap.size 3 i0 (.int .i64 0) 1 8 Try.underlying26 hi hz0 hz1' hz2' rfl (by decide) (.slice a4 p c4) p _ (by rfl) ho4.out (.slice A (m.length - (p + 1)) (cm - (p + 1))) (m.length - (p + 1)) ((ints m).drop (p + 1)) (by rfl) (HRD.out _ hb4.out) HONE3.out h67 h68 hb4.out.size ?_; intro a7 c7 w7 hap7; obtain ⟨hb7, ho7⟩ := KEEP2.out _ _ _ _ _ _ hb4.out hap7; have hb7 := Lib.hid hb7; have ho7 := Lib.hid ho7; clear hap7 KEEP2 ho4 hb4))
                    all_goals (go_wp2_with fail)
                    all_goals (go_meet; exact ⟨m.eraseIdx p, N5, _, rfl, rfl, by have := List.length_eraseIdx_le m p; omega, hN5, ⟨_, LS2.newRow HL5.out (Nat.le_refl _) hb7.out ho7.out (by rw [List.length_eraseIdx, if_pos hpl]; omega), HPE.out⟩⟩)
              · have t3' : (K == 3) = false := by simpa using t3
                clear t3
                by_cases t4 : K = 4
                · have t4' : (K == 4) = true := by simpa using t4
                  clear t4
                  obtain ⟨a, ⟨own, am', cm', h1, ⟨h2, h3, h4⟩, ⟨h5, h5'⟩, h6, h7, h8, hno⟩, hpm⟩ := HPX.out
                  simp only [Value.slice.injEq] at h2
                  obtain ⟨rfl, -, rfl⟩ := h2
                  have hal := hpm.length_eq
                  have HQ := Lib.hid (P.q_remove h1 (P.less_all h5 h5') (by omega) (by unfold maxLen; omega) hx64)
                  have hmem : decide (x1 ∈ a) = b := by rw [← hb, decide_eq_decide]; exact hpm.mem_iff
                  rw [hmem] at HQ
                  have HST : Hid (∀ (a' : List Int) w5, P.QS own bq bm (fvP w.heap.size) (P.kyT turned) a' (N + 2 * a.length + 3) w5 → Only own wc w5 → LS2 w w.heap.size turned bq bm m a' (N + 2 * a.length + 3) (.slice am m.length cm) w5) := Lib.hid (fun a' w5 q1 q2 => LS2.queue h3 h4 h5 h5' h6 h7 h8 q2 q1 (fun k hk => .inl hk))
                  have HPM := Lib.hid hpm
                  clear h1 h3 h4 h5 h5' h6 h7 h8 hpm
                  go_wp2_with fail
                  refine HQ.out.mono ?_
                  rintro e w5 ⟨a', rfl, q1, q2, q3, q4⟩
                  have HL5 := Lib.hid (HST.out a' w5 q1 q2)
                  have f9 : Flds wc g9 70 [.int .i64 x0, .int .i64 x1] → True := fun _ => trivial
                  clear HQ HST q1 q2 f9
                  obtain ⟨N5, hN5e⟩ : ∃ N5, N + 2 * a.length + 3 = N5 := ⟨_, rfl⟩
                  rw [hN5e] at HL5
                  have hN5 : N5 ≤ N + 1000 := by omega
                  cases hb2 : b
                  · rw [hb2] at hib hb hmem
                    have hna : x1 ∉ a := of_decide_eq_false hmem
                    have q4 := q4 hna
                    subst q4
                    go_wp2_with fail
                    go_meet
                    exact ⟨m, N5, false, rfl, rfl, by omega, hN5, _, HL5.out, HPM.out⟩
                  · rw [hb2] at hib hb hmem
                    have hxm : x1 ∈ m := of_decide_eq_true hb
                    obtain ⟨p, hip, hp⟩ : ∃ p : Nat, i = (p : Int) ∧ m[p]? = some x1 := by
                      rcases HAT.out.end with ⟨-, q⟩ | q
                      · exact absurd hxm q
                      · exact q
                    subst hip
                    have hpl := (List.getElem?_eq_some_iff.1 hp).1
                    have HPE : Hid (a'.Perm (m.eraseIdx p)) := Lib.hid (List.Perm.cons_inv ((q3 (of_decide_eq_true hmem)).trans (HPM.out.trans (erase_perm hp).symm)))
                    obtain ⟨q, rfl, -, -⟩ : ∃ q, am = some ⟨q, 0, none⟩ ∧ True ∧ True := by obtain ⟨q, e, -⟩ := owns_cellAt HL5.out.row3 (by omega); exact ⟨q, e, trivial, trivial⟩
                    clear q3 q4 HPM HAT HPX hp
                    obtain ⟨i0, hi, hz0, hz1', hz2'⟩ := info_parts infoInt
                    have hcm := row_le' HL5.out.row3
                    have HRO := Lib.hid (Row.of_owns HL5.out.row3)
                    have hw1 : IntKind.i64.wrap ((p : Int) + 1) = (p : Int) + 1 := IntWalk.i64_in _ (by omega)
                    have hn1 : (p : Int).toNat = p := by omega
                    have hn2 : ((p : Int) + 1).toNat = p + 1 := by omega
                    have hc0 : (0 : Int) ≤ (p : Int) + 1 := by omega
                    have hc00 : (0 : Int) ≤ (p : Int) := by omega
                    have hc1 : (p : Int) ≤ (cm : Int) := by omega
                    have hc2 : (p : Int) + 1 ≤ (m.length : Int) := by omega
                    have h63 : 0 + p ≤ maxLen := by unfold maxLen; omega
                    have h64 : (0 + p) * 8 ≤ 140737488355328 := by omega
                    have h67 : p + (m.length - (p + 1)) ≤ maxLen := by unfold maxLen; omega
                    have h68 : (p + (m.length - (p + 1))) * 8 ≤ 140737488355328 := by omega
                    have HONE1 := Lib.hid (ref02.one_list m (fun l => l.take p) (fun u => List.mem_of_mem_take))
                    have HONE3 := Lib.hid (ref02.one_list m (fun l => l.drop (p + 1)) (fun u => List.mem_of_mem_drop))
                    obtain ⟨A, hA, HRD⟩ : ∃ A : Option Addr, (if cm = p + 1 then some (⟨q, 0, none⟩ : Addr) else some ⟨q, p + 1, none⟩) = A ∧ Hid (∀ W, Below w5.heap.size w5 W → Row W (.slice A (m.length - (p + 1)) (cm - (p + 1))) 1 (m.length - (p + 1)) ((ints m).drop (p + 1))) :=
                      ⟨_, rfl, Lib.hid (fun W hb => ref02.row_drop (HRO.out.later hb) (by omega) _ _ (fun h => by rw [if_neg (by omega), Nat.zero_add]))⟩
                    have hbe := ((Below.refl w5.heap.size w5).drew).alloc (Nat.le_refl _) (.cells #[] 3)
                    have HBE5 := Lib.hid hbe
                    have HRT := Lib.hid (ref02.row_take (HRO.out.later hbe) (show p ≤ m.length by omega) cm)
                    have E1 : Hid (Flds (w5.drew.alloc (.cells #[] 3)) w5.heap.size 3 []) := Lib.hid (Flds.new w5.drew 3 [])
                    have KEEP1 : Hid (∀ a4 c4 w4, Appended w5.heap.size 3 1 (.slice (some ⟨w5.heap.size, 0, none⟩) 0 0) 0 p [] ((ints m).take p) (w5.drew.alloc (.cells #[] 3)) (.slice a4 (0 + p) c4) w4 →
                        Below w5.heap.size w5 w4 ∧ w4.ownsRow w5.heap.size 3 1 (.slice a4 p c4) p ((ints m).take p)) := Lib.hid (fun a4 c4 w4 hap => by
                      refine ⟨HBE5.out.trans (ref02.app_below hap HBE5.out.size), ?_⟩
                      have h := hap.own
                      rwa [Nat.zero_add, List.nil_append] at h)
                    have KEEP2 : Hid (∀ w4 a4 c4 a7 c7 w7, Below w5.heap.size w5 w4 → Appended w5.heap.size 3 1 (.slice a4 p c4) p (m.length - (p + 1)) ((ints m).take p) ((ints m).drop (p + 1)) w4 (.slice a7 (p + (m.length - (p + 1))) c7) w7 →
                        Below w5.heap.size w5 w7 ∧ w7.ownsRow w5.heap.size 3 1 (.slice a7 (p + (m.length - (p + 1))) c7) (p + (m.length - (p + 1))) (ints (m.eraseIdx p))) := Lib.hid (fun w4 a4 c4 a7 c7 w7 hb hap => by
                      refine ⟨hb.trans (ref02.app_below hap hb.size), ?_⟩
                      have h := hap.own
                      have e := ints_er m p
                      rwa [e] at h)
                    clear hbe
                    go_upto_region 37 with fail
                    go_region_law (first
                      | (refine ref02.step_append_row _ rfl (.tmp 143) (.tmp 146) 26 (by rfl) w5.heap.size 3 i0 (.int .i64 0) 1 8 Try.underlying26 hi hz0 hz1' hz2' rfl (by decide) (.slice (some ⟨w5.heap.size, 0, none⟩) 0 0) 0 [] (by rfl) (owns_of_flds (m := 0) E1.out rfl (Nat.le_refl _) (by decide)) (.slice (some ⟨q, 0, none⟩) p cm) p ((ints m).take p) (by rfl) HRT.out HONE1.out h63 h64 HBE5.out.size ?_; intro a4 c4 w4 hap4; rw [Nat.zero_add]; obtain ⟨hb4, ho4⟩ := KEEP1.out _ _ _ (by first | exact hap4 | (rw [Nat.zero_add] at hap4 ⊢; exact hap4)); have hb4 := Lib.hid hb4; have ho4 := Lib.hid ho4; clear hap4 KEEP1 HRT E1 HBE5 HONE1)
                      | (refine ref02.step_append_row _ rfl (.tmp 147) (.tmp 151) 26 (by rfl) w5.heap.size 3 i0 (.int .i64 0) 1 8 Try.underlying26 hi hz0 hz1' hz2' rfl (by decide) (.slice a4 p c4) p _ (by rfl) ho4.out (.slice A (m.length - (p + 1)) (cm - (p + 1))) (m.length - (p + 1)) ((ints m).drop (p + 1)) (by rfl) (HRD.out _ hb4.out) HONE3.out h67 h68 hb4.out.size ?_; intro a7 c7 w7 hap7; obtain ⟨hb7, ho7⟩ := KEEP2.out _ _ _ _ _ _ hb4.out hap7; have hb7 := Lib.hid hb7; have ho7 := Lib.hid ho7; clear hap7 KEEP2 ho4 hb4))
                    all_goals (go_wp2_with fail)
                    all_goals (go_meet; exact ⟨m.eraseIdx p, N5, _, rfl, rfl, by have := List.length_eraseIdx_le m p; omega, hN5, ⟨_, LS2.newRow HL5.out (Nat.le_refl _) hb7.out ho7.out (by rw [List.length_eraseIdx, if_pos hpl]; omega), HPE.out⟩⟩)
                · have t4' : (K == 4) = false := by simpa using t4
                  clear t4
                  by_cases t5 : K = 5
                  · have t5' : (K == 5) = true := by simpa using t5
                    clear t5
                    obtain ⟨a, ⟨own, am', cm', h1, ⟨h2, h3, h4⟩, h5⟩, hpm⟩ := HPX.out
                    have HQ := Lib.hid (P.q_has h1 hx64)
                    have hmem : decide (x1 ∈ a) = b := by rw [← hb, decide_eq_decide]; exact hpm.mem_iff
                    rw [hmem] at HQ
                    clear h1 h2 h3 h4 h5 hpm HAT
                    go_wp2_with fail
                    refine HQ.out.mono ?_
                    rintro e w5 ⟨rfl, hw5⟩
                    obtain rfl := hw5.symm
                    go_wp2_with fail
                    go_meet
                    exact ⟨m, N, b, rfl, rfl, by omega, by omega, HPX.out.ls⟩
                  · have t5' : (K == 5) = false := by simpa using t5
                    clear t5
                    obtain ⟨a, ⟨own, am', cm', h1, ⟨h2, h3, h4⟩, ⟨h5, h5'⟩, h6, h7, h8, hno⟩, hpm⟩ := HPX.out
                    simp only [Value.slice.injEq] at h2
                    obtain ⟨rfl, -, rfl⟩ := h2
                    have hal := hpm.length_eq
                    have HQ := Lib.hid (P.q_push h1 (P.less_all h5 h5') (by omega) (by unfold maxLen; omega) hx64)
                    have hmem : decide (x1 ∉ a) = !b := by
                      rw [← hb]
                      by_cases q : x1 ∈ m
                      · rw [decide_eq_true q, decide_eq_false (fun z : x1 ∉ a => z (hpm.mem_iff.2 q))]; rfl
                      · rw [decide_eq_false q]; exact decide_eq_true (fun z : x1 ∈ a => q (hpm.mem_iff.1 z))
                    rw [hmem] at HQ
                    have hilt : decide (i < 0) = !b := by rw [← hib]; by_cases q : 0 ≤ i <;> simp [q] <;> omega
                    have HST : Hid (∀ (a' : List Int) w5, P.QS (ownNew own wc w5) bq bm (fvP w.heap.size) (P.kyT turned) a' (N + 2 * a.length + 3) w5 → Only own wc w5 → LS2 w w.heap.size turned bq bm m a' (N + 2 * a.length + 3) (.slice am m.length cm) w5) := Lib.hid (fun a' w5 q1 q2 => LS2.queue h3 h4 h5 h5' h6 h7 h8 q2 q1 (fun k hk => hk.elim .inl (fun z => .inr z.1)))
                    have HPM := Lib.hid hpm
                    have HF9' : Hid (∀ w5, Only own wc w5 → w5.cell? ⟨g9, 1, none⟩ = some (.int .i64 x1)) := Lib.hid (fun w5 ho => cell_only e1 ho hno)
                    clear h1 h3 h4 h5 h5' h6 h7 h8 hpm
                    go_wp2_with fail
                    refine HQ.out.mono ?_
                    rintro e w5 ⟨a', rfl, q1, q2, q3, q4⟩
                    have HL5 := Lib.hid (HST.out a' w5 q1 q2)
                    have e5 := HF9'.out w5 q2
                    have l5 : g9 < w5.heap.size := World.block_lt_of_cell? w5 ⟨g9, 1, none⟩ e5
                    clear HQ HST q1 q2 HF9'
                    obtain ⟨N5, hN5e⟩ : ∃ N5, N + 2 * a.length + 3 = N5 := ⟨_, rfl⟩
                    rw [hN5e] at HL5
                    have hN5 : N5 ≤ N + 1000 := by omega
                    cases hb2 : b
                    · rw [hb2] at hib hb hmem hilt
                      have hna : x1 ∉ a := of_decide_eq_true hmem
                      have HPE : Hid (a'.Perm (m ++ [x1])) := Lib.hid ((q3 hna).trans (((List.perm_cons x1).2 HPM.out).trans (List.perm_append_comm (l₁ := [x1]))))
                      obtain ⟨i0, hi, hz0, hz1', hz2'⟩ := info_parts infoInt
                      have HRW := Lib.hid (HL5.out.row3.alloc (.cells #[.int .i64 x1] TI))
                      have HNW := Lib.hid (Row.of_flds (m := 1) (size := 1) (Flds.new w5 TI [.int .i64 x1]) rfl 1)
                      have h63 : m.length + 1 ≤ maxLen := by unfold maxLen; omega
                      have h64 : (m.length + 1) * 8 ≤ 140737488355328 := by omega
                      have HONE : Hid (∀ u ∈ [Value.int .i64 x1], u.oneCell' = true) := Lib.hid (by simp [Value.oneCell'])
                      have hbw : w.heap.size ≤ (w5.alloc (.cells #[.int .i64 x1] TI)).heap.size := by have := HBE.out.size; simp; omega
                      clear q3 q4 HPM HAT HPX
                      go_wp2_with (at_builtin; refine wpList_append_row _ rfl (.tmp 69) (.tmp 72) 26 (by rfl) w.heap.size TI i0 (.int .i64 0) 1 8 Try.underlying26 hi hz0 hz1' hz2' rfl (by decide) (.slice am m.length cm) m.length (ints m) (by rfl) HRW.out (.slice (some ⟨w5.heap.size, 0, none⟩) 1 1) 1 [.int .i64 x1] (by rfl) HNW.out HONE.out h63 h64 hbw ?_)
                      intro a7 c7 w7 hap
                      have HL7 := Lib.hid (LS2.snoc HL5.out ((Below.refl _ _).alloc (Nat.le_refl _) _) hap)
                      clear hap HRW HNW
                      go_wp2_with fail
                      go_meet
                      exact ⟨m ++ [x1], N5, _, rfl, rfl, by simp, hN5, _, HL7.out, HPE.out⟩
                    · rw [hb2] at hib hb hmem hilt
                      have hna : ¬ x1 ∉ a := of_decide_eq_false hmem
                      have q4 := q4 (Decidable.of_not_not hna)
                      subst q4
                      clear q3
                      go_wp2_with fail
                      go_meet
                      exact ⟨m, N5, _, rfl, rfl, by omega, hN5, _, HL5.out, HPM.out⟩
            case rest =>
              obtain ⟨m', N', b', rfl, rfl, hm', hN', h6⟩ := hcut
              have HP6 := Lib.hid h6
              obtain ⟨am6, cm6, rfl, -⟩ := h6.row
              obtain ⟨a6, ⟨own6, -, -, k1, -⟩, kp⟩ := h6
              have HLN := Lib.hid (P.q_len k1)
              rw [kp.length_eq] at HLN
              have hbb' : (b' != b') = false := by cases b' <;> rfl
              have hnn : ((m'.length : Int) != (m'.length : Int)) = false := by simp
              clear k1 kp HAT HPX
              go_wp2_with fail
              refine HLN.out.mono ?_
              rintro e w5 ⟨rfl, hw5⟩
              obtain rfl := hw5.symm
              go_wp2_with fail
              go_roundw
              case rel => exact ⟨j + 1, m', N', by go_num, by omega, by omega, by omega, by omega, HP6.out⟩
              case measure => simp [upTo]; omega
        · have e1 : (j : Int) < (acts.length : Int) := by omega
          have e2 : ¬ (j : Int) < 80 := by omega
          go_wp2_with fail
          go_meet
          exact ⟨_, _, HP.out⟩
      · have e1 : ¬ (j : Int) < (acts.length : Int) := by omega
        go_wp2_with fail
        go_meet
        exact ⟨_, _, HP.out⟩
  case rest =>
    obtain ⟨m, N, hP⟩ := hcut
    have HBE : Hid (Below w.heap.size w wc) := Lib.hid hP.below
    clear hP HLS
    go_wp2_with fail
    refine (P.pop_nil _).mono ?_
    rintro e w4 ⟨rfl, hw4⟩
    obtain rfl := hw4.symm
    go_wp2_with fail
    refine (P.push_nil 1 _).mono ?_
    rintro e w5 ⟨rfl, hw5⟩
    obtain rfl := hw5.symm
    go_wp2_with fail
    refine (P.remove_nil 1 _).mono ?_
    rintro e w6 ⟨rfl, hw6⟩
    obtain rfl := hw6.symm
    go_wp2_with fail
    refine (has_nil 1 _).mono ?_
    rintro e w7 ⟨rfl, hw7⟩
    obtain rfl := hw7.symm
    go_wp2_with fail
    refine (len_nil _).mono ?_
    rintro e w8 ⟨rfl, hw8⟩
    obtain rfl := hw8.symm
    go_wp2
    go_ret
    exact ⟨rfl, HBE.out⟩
end Go.Proofs.Ytbaepjjanjhliaa.drt
