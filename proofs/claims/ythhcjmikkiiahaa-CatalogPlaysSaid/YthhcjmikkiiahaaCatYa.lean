/- What is written in the box of the document's catalog turns nothing else. No program. -/
import Derived.Test.YthhcjmikkiiahaaCatY
namespace Go.Proofs.Ythhcjmikkiiahaa.cat
set_option linter.unusedVariables false
open Go.RowKit Go.WideShapes Go.MapKept
section
variable {W W' : World} {g n c n' c' : Nat} {a a' : Option Addr}
/-- a row that begins with a text lies elsewhere -/
theorem row_skip {v : Value} {size m : Nat} {xs : List Value} (h : Row W v size m xs) (hx : ∀ u, xs[0]? = some u → ∃ s, u = .string s) (hf : Flds W g TRc [.slice a n c, .slice a' n' c']) (hg : W.grownBy W' (some g)) : Row W' v size m xs := by
  obtain ⟨q, cap, rfl, hl, h⟩ := h
  refine ⟨q, cap, rfl, hl, h.imp id ?_⟩
  rintro ⟨b, off, rfl, hc⟩
  refine ⟨b, off, rfl, fun j hj => ?_⟩
  have hne : b ≠ g := by
    rintro rfl
    have h0 := hc 0 (by omega)
    obtain ⟨u, hu⟩ : ∃ u, xs[0]? = some u := ⟨_, List.getElem?_eq_getElem (by omega)⟩
    obtain ⟨s, rfl⟩ := hx _ hu
    rw [hu, hf.cell] at h0
    rcases off with _ | _ | off <;> simp at h0
  have h1 := hc j hj
  obtain ⟨u, hu⟩ : ∃ u, xs[j]? = some u := ⟨_, List.getElem?_eq_getElem (by omega)⟩
  rw [hu] at h1 ⊢
  have hlt := World.block_lt_of_cell? W _ h1
  rw [World.cell?_of_block (w := W) (hg.block b hlt (by simpa using hne))]
  exact h1
theorem cn_first (l : List Cn) : ∀ u, (cnCells l)[0]? = some u → ∃ s, u = .string s := by
  intro u hu
  cases l with
  | nil => simp [cnCells] at hu
  | cons x l => rw [cnCells_cons] at hu; simp at hu; exact ⟨_, hu.symm⟩
theorem cnCells_app (l r : List Cn) : cnCells (l ++ r) = cnCells l ++ cnCells r := by unfold cnCells; rw [List.flatMap_append]
theorem t_first (l : List TE) : ∀ u, (tCells l)[0]? = some u → ∃ s, u = .string s := by
  intro u hu
  cases l with
  | nil => simp [tCells] at hu
  | cons x l => unfold tCells at hu; rw [List.flatMap_cons] at hu; simp at hu; exact ⟨_, hu.symm⟩
theorem v_first (l : List RV) : ∀ u, (vCells l)[0]? = some u → ∃ s, u = .string s := by
  intro u hu
  cases l with
  | nil => simp [vCells] at hu
  | cons x l => unfold vCells at hu; rw [List.flatMap_cons] at hu; simp at hu; exact ⟨_, hu.symm⟩
theorem s_first (l : List ByteArray) : ∀ u, (l.map Value.string)[0]? = some u → ∃ s, u = .string s := by
  intro u hu
  cases l with
  | nil => simp at hu
  | cons x l => simp at hu; exact ⟨_, hu.symm⟩
theorem map_ne {R : Value → Option (Dat × List MemPlace)} {b m : Nat} {D : Dat} (h : W.ownsMap Try.prog TK R b m D) (hf : Flds W g TRc [.slice a n c, .slice a' n' c']) : b ≠ g := by
  rintro rfl
  obtain ⟨es, cl, h1, -⟩ := h
  have h2 : W.heap[b]? = some (.cells (List.toArray [.slice a n c, .slice a' n' c']) TRc (0, 0)) := hf
  rw [h2] at h1; cases h1
theorem Cat.skip {bs bt bv m : Nat} {S : CatS} {Dt Dv : Dat} {ft : ByteArray → TE} {fv : ByteArray → VE} (h : Cat bs bt bv m S W Dt Dv ft fv) (hf : Flds W g TRc [.slice a n c, .slice a' n' c']) (hg : W.grownBy W' (some g)) : Cat bs bt bv m S W' Dt Dv ft fv := by
  have hbs : bs ≠ g := by
    rintro rfl
    have h2 : W.heap[bs]? = some (.cells (List.toArray [.slice a n c, .slice a' n' c']) TRc (0, 0)) := hf
    have h1 : W.heap[bs]? = some (.cells (List.toArray [.map (some bt), .map (some bv)]) TCa (0, 0)) := h.fl
    rw [h1] at h2
    simp at h2
  refine ⟨h.fl.grown hg (by simpa using hbs), h.ne, h.mt.kept hg (by simpa using map_ne h.mt.own hf), h.mv.kept hg (by simpa using map_ne h.mv.own hf), h.okt, h.nlt, h.mis, h.okv, h.misv, fun s hs => ?_, fun s hs => ?_⟩
  · obtain ⟨h1, h2, h3, h4, h5⟩ := h.rt s hs
    exact ⟨h1, h2, h3, row_skip h4 (cn_first _) hf hg, h5⟩
  · obtain ⟨h1, h2, h3⟩ := h.rv s hs
    exact ⟨h1, row_skip h2 (s_first _) hf hg, h3⟩
theorem CatAt.skip {B bs bt bv m : Nat} {S : CatS} (h : CatAt B bs bt bv m S W) (hf : Flds W g TRc [.slice a n c, .slice a' n' c']) (hg : W.grownBy W' (some g)) : CatAt B bs bt bv m S W' := by
  obtain ⟨h1, Dt, Dv, ft, fv, h2⟩ := h
  exact ⟨h1, Dt, Dv, ft, fv, h2.skip hf hg⟩
theorem RAt.skip {x : Value} {S : CatS} (h : RAt W x S) (hf : Flds W g TRc [.slice a n c, .slice a' n' c']) (hg : W.grownBy W' (some g)) : RAt W' x S := by
  obtain ⟨b, m, d, b', m', d', ts, vs, h1, h2, h3, h4, h5, h6, h7⟩ := h
  refine ⟨b, m, d, b', m', d', ts, vs, h1, h2, h3, ⟨h4.1, h4.2.1, row_skip h4.2.2.1 (t_first _) hf hg, fun x hx => ?_⟩, ⟨h5.1, h5.2.1, row_skip h5.2.2.1 (v_first _) hf hg, fun x hx => ?_⟩, h6.kept hg (.inr (owns_ne_obj h6 hf (by decide))), h7.kept hg (.inr (owns_ne_obj h7 hf (by decide)))⟩
  · obtain ⟨q1, q2, q3, q4⟩ := h4.2.2.2 x hx
    exact ⟨q1, q2, q3, row_skip q4 (cn_first _) hf hg⟩
  · obtain ⟨q1, q2, q3⟩ := h5.2.2.2 x hx
    exact ⟨q1, q2, row_skip q3 (s_first _) hf hg⟩
theorem RAt.form {x : Value} {S : CatS} (h : RAt W x S) : ∃ (a : Option Addr) (n c : Nat) (a' : Option Addr) (n' c' : Nat), x = .agg #[.slice a n c, .slice a' n' c'] := by
  obtain ⟨b, m, d, b', m', d', ts, vs, h1, -⟩ := h
  exact ⟨_, _, _, _, _, _, h1⟩
end
/-! ### An act of the program's catalog turns nothing of the document's -/
section
variable {bs bt bv m : Nat} {S : CatS} {W W' : World} {Dt Dv : Dat} {ft : ByteArray → TE} {fv : ByteArray → VE}
theorem own_no_text (h : Cat bs bt bv m S W Dt Dv ft fv) {b off : Nat} {s : ByteArray} (hc : W.cell? ⟨b, off, none⟩ = some (.string s)) : ¬ Own3 bs bt bv b := by
  rintro (rfl | rfl | rfl)
  · rw [h.fl.cell] at hc
    rcases off with _ | _ | off <;> simp at hc
  · obtain ⟨es, cl, h1, -⟩ := h.mt.own
    simp [World.cell?, h1] at hc
  · obtain ⟨es, cl, h1, -⟩ := h.mv.own
    simp [World.cell?, h1] at hc
theorem own_no_flds (h : Cat bs bt bv m S W Dt Dv ft fv) {b : Nat} {T : TypeId} {fs : List Value} (hf : Flds W b T fs) (hT : T ≠ TCa) : ¬ Own3 bs bt bv b := by
  have h2 : W.heap[b]? = some (.cells fs.toArray T (0, 0)) := hf
  rintro (rfl | rfl | rfl)
  · have h1 : W.heap[b]? = some (.cells (List.toArray [.map (some bt), .map (some bv)]) TCa (0, 0)) := h.fl
    rw [h1] at h2
    simp only [Option.some.injEq, Obj.cells.injEq] at h2
    exact hT h2.2.1.symm
  · obtain ⟨es, cl, h1, -⟩ := h.mt.own
    rw [h1] at h2; cases h2
  · obtain ⟨es, cl, h1, -⟩ := h.mv.own
    rw [h1] at h2; cases h2
theorem own_no_row (h : Cat bs bt bv m S W Dt Dv ft fv) {B : Nat} {e : TypeId} {k n : Nat} {v : Value} {xs : List Value} (ho : W.ownsRow B e k v n xs) (hT : e ≠ TCa) : ∀ g, v.ownBlock = some g → ¬ Own3 bs bt bv g := by
  intro g hg
  rcases ho.2 with ⟨rfl, _⟩ | ⟨g', cap, cur, rfl, _, h2, _⟩
  · cases hg
  · simp only [Value.ownBlock, Option.some.injEq] at hg
    subst hg
    rintro (rfl | rfl | rfl)
    · have h1 : W.heap[g']? = some (.cells (List.toArray [.map (some bt), .map (some bv)]) TCa (0, 0)) := h.fl
      rw [h1] at h2
      simp only [Option.some.injEq, Obj.cells.injEq] at h2
      exact hT h2.2.1.symm
    · obtain ⟨es, cl, h1, -⟩ := h.mt.own
      rw [h1] at h2; cases h2
    · obtain ⟨es, cl, h1, -⟩ := h.mv.own
      rw [h1] at h2; cases h2
theorem row_over (h : Cat bs bt bv m S W Dt Dv ft fv) {v : Value} {size n : Nat} {xs : List Value} (hr : Row W v size n xs) (hx : ∀ u, xs[0]? = some u → ∃ s, u = .string s) (ho : Only (Own3 bs bt bv) W W') : Row W' v size n xs := by
  obtain ⟨q, cap, rfl, hl, hr⟩ := hr
  refine ⟨q, cap, rfl, hl, hr.imp id ?_⟩
  rintro ⟨b, off, rfl, hc⟩
  refine ⟨b, off, rfl, fun j hj => ?_⟩
  have hne : ¬ Own3 bs bt bv b := by
    have h0 := hc 0 (by omega)
    obtain ⟨u, hu⟩ : ∃ u, xs[0]? = some u := ⟨_, List.getElem?_eq_getElem (by omega)⟩
    obtain ⟨s, rfl⟩ := hx _ hu
    rw [hu] at h0
    exact own_no_text h h0
  have h1 := hc j hj
  obtain ⟨u, hu⟩ : ∃ u, xs[j]? = some u := ⟨_, List.getElem?_eq_getElem (by omega)⟩
  rw [hu] at h1 ⊢
  exact cell_only h1 ho hne
theorem RAt.over (h : Cat bs bt bv m S W Dt Dv ft fv) {x : Value} {S' : CatS} (hr : RAt W x S') (ho : Only (Own3 bs bt bv) W W') : RAt W' x S' := by
  obtain ⟨b, m, d, b', m', d', ts, vs, h1, h2, h3, h4, h5, h6, h7⟩ := hr
  refine ⟨b, m, d, b', m', d', ts, vs, h1, h2, h3, ⟨h4.1, h4.2.1, row_over h h4.2.2.1 (t_first _) ho, fun x hx => ?_⟩, ⟨h5.1, h5.2.1, row_over h h5.2.2.1 (v_first _) ho, fun x hx => ?_⟩, owns_only h6 ho (own_no_row h h6 (by decide)), owns_only h7 ho (own_no_row h h7 (by decide))⟩
  · obtain ⟨q1, q2, q3, q4⟩ := h4.2.2.2 x hx
    exact ⟨q1, q2, q3, row_over h q4 (cn_first _) ho⟩
  · obtain ⟨q1, q2, q3⟩ := h5.2.2.2 x hx
    exact ⟨q1, q2, row_over h q3 (s_first _) ho⟩
end
/-- an act's answer, and what it turns -/
def ActP (B bs bt bv m : Nat) (S' : CatS) (err : Int) (w : World) (e : Ending) (w' : World) : Prop := e = .returned (.int .i64 err) ∧ CatAt B bs bt bv m S' w' ∧ Only (Own3 bs bt bv) w w'
section
variable {B bs bt bv m : Nat} {S : CatS} {w w' : World}
theorem actp_of {S' : CatS} {err : Int} {m' : Nat} (h1 : B ≤ bs ∧ B ≤ bt ∧ B ≤ bv) {e : Ending} (h : CatPost bs bt bv m' S' w err e w') : ActP B bs bt bv m' S' err w e w' := by
  obtain ⟨he, ho, Dt, Dv, ft, fv, h2⟩ := h
  exact ⟨he, ⟨h1, Dt, Dv, ft, fv, h2⟩, ho⟩
theorem make_ap (h : CatAt B bs bt bv m S w) (hm : m ≤ 1000000) (k : ByteArray) (hk : k.size ≤ maxLen) (a : Option Addr) (n c : Nat) (l : List Cn) (hn : l.length = n) (hn1 : n ≤ 1000000) (hr : Row w (.slice a n c) 3 n (cnCells l)) (hnil : a = none → n = 0 ∧ c = 0) :
    Calls Try.prog 16 #[.pointer (some ⟨bs, 0, none⟩), .string k, .slice a n c] w (ActP B bs bt bv (m + 1) (S.make k l) (makeErr S k l) w) := by
  obtain ⟨h1, Dt, Dv, ft, fv, h2⟩ := h
  exact (make_any h2 hm k hk a n c l hn hn1 hr hnil).mono (fun e w' hp => actp_of h1 hp)
theorem view_ap (h : CatAt B bs bt bv m S w) (hm : m ≤ 1000000) (k : ByteArray) (a : Option Addr) (n c : Nat) (us : List ByteArray) (hk : k.size ≤ maxLen ∨ ∃ u ∈ us, u ∉ S.tn) (hn : us.length = n) (hn1 : n ≤ 1000000) (hr : Row w (.slice a n c) 1 n (us.map Value.string)) (hnil : a = none → n = 0 ∧ c = 0) :
    Calls Try.prog 10 #[.pointer (some ⟨bs, 0, none⟩), .string k, .slice a n c] w (ActP B bs bt bv (m + 1) (S.view k us) (viewErr S k us) w) := by
  obtain ⟨h1, Dt, Dv, ft, fv, h2⟩ := h
  exact (view_any h2 hm k a n c us hk hn hn1 hr hnil).mono (fun e w' hp => actp_of h1 hp)
theorem drop_ap (h : CatAt B bs bt bv m S w) (hm : m ≤ 1000000) (hus : ∀ s ∈ S.vn, (S.vu s).length ≤ 1000000) (k : ByteArray) (hk : k.size ≤ maxLen) :
    Calls Try.prog 8 #[.pointer (some ⟨bs, 0, none⟩), .string k] w (ActP B bs bt bv (m + 1) (S.drop k) (dropErr S k) w) := by
  obtain ⟨h1, Dt, Dv, ft, fv, h2⟩ := h
  refine (drop_any sortC h2 hm hus k hk).mono (fun e w' hp => ?_)
  obtain ⟨q1, q2, q3⟩ := actp_of h1 hp
  exact ⟨q1, q2.mono (by omega), q3⟩
theorem dropView_ap (h : CatAt B bs bt bv m S w) (k : ByteArray) (hk : k.size ≤ maxLen) :
    Calls Try.prog 12 #[.pointer (some ⟨bs, 0, none⟩), .string k] w (ActP B bs bt bv (m + 1) { S with vn := delN S.vn k } (if isIn k S.vn then 0 else 6) w) := by
  obtain ⟨h1, Dt, Dv, ft, fv, h2⟩ := h
  refine (dropView_any h2 k hk).mono ?_
  rintro e w' ⟨he, ho, Dv', fv', hc⟩
  exact ⟨he, CatAt.mono ⟨h1, _, _, _, _, hc⟩ (by omega), ho⟩
end
abbrev TAc : TypeId := 33
/-- the state of the law within a round: the program's catalog, the document's in the box g4, the act in the box g8 -/
structure St (B bs bt bv g4 g8 m : Nat) (S S' : CatS) (x y : Value) (fs : List Value) (W0 W : World) : Prop where
  hB : B ≤ W0.heap.size
  h4 : B ≤ g4
  cat : CatAt B bs bt bv m S W
  ref : RAt W (.agg #[x, y]) S'
  box : Flds W g4 TRc [x, y]
  xs : ∃ (a : Option Addr) (n c : Nat) (a' : Option Addr) (n' c' : Nat), x = .slice a n c ∧ y = .slice a' n' c'
  act : Flds W g8 TAc fs
  bel : Below B W0 W
section
variable {B bs bt bv g4 g8 m : Nat} {S S' : CatS} {x y : Value} {fs : List Value} {W0 W W' : World}
theorem St.later (h : St B bs bt bv g4 g8 m S S' x y fs W0 W) (hb : Below W.heap.size W W') : St B bs bt bv g4 g8 m S S' x y fs W0 W' :=
  ⟨h.hB, h.h4, h.cat.later hb, h.ref.later hb, h.box.later hb, h.xs, h.act.later hb, h.bel.trans (hb.mono (Nat.le_trans h.hB h.bel.size))⟩
theorem St.mono (h : St B bs bt bv g4 g8 m S S' x y fs W0 W) {m' : Nat} (hm : m ≤ m') : St B bs bt bv g4 g8 m' S S' x y fs W0 W := ⟨h.hB, h.h4, h.cat.mono hm, h.ref, h.box, h.xs, h.act, h.bel⟩
theorem St.tabs {at_ : Option Addr} {nt ct : Nat} (h : St B bs bt bv g4 g8 m S S' (.slice at_ nt ct) y fs W0 W) : ∃ ts, List.map (fun x : TE => x.nm) ts = S'.tn ∧ TsAt W at_ nt ct ts S'.tb := by
  obtain ⟨a, n, c, a', n', c', ts, vs, hx, h2, h3, h4, h5, -, -⟩ := h.ref
  simp only [Value.agg.injEq, Array.mk.injEq, List.cons.injEq, Value.slice.injEq] at hx
  obtain ⟨⟨rfl, rfl, rfl⟩, -⟩ := hx
  exact ⟨ts, h2, h4⟩
theorem St.acted (h : St B bs bt bv g4 g8 m S S' x y fs W0 W) {m2 : Nat} {S2 : CatS} (hc : CatAt B bs bt bv m2 S2 W') (ho : Only (Own3 bs bt bv) W W') : St B bs bt bv g4 g8 m2 S2 S' x y fs W0 W' := by
  obtain ⟨h1, Dt, Dv, ft, fv, h2⟩ := h.cat
  refine ⟨h.hB, h.h4, hc, h.ref.over h2 ho, h.box.only ho (own_no_flds h2 h.box (by decide)), h.xs, h.act.only ho (own_no_flds h2 h.act (by decide)), ?_⟩
  exact h.bel.trans (ho.below (Nat.le_trans h.hB h.bel.size) (fun k hk => by rcases hk with rfl | rfl | rfl <;> omega))
theorem St.row_over (h : St B bs bt bv g4 g8 m S S' x y fs W0 W) {v : Value} {size n : Nat} {xs : List Value} (hr : Row W v size n xs) (hx : ∀ u, xs[0]? = some u → ∃ s, u = .string s) (ho : Only (Own3 bs bt bv) W W') : Row W' v size n xs := by
  obtain ⟨h1, Dt, Dv, ft, fv, h2⟩ := h.cat
  exact cat.row_over h2 hr hx ho
theorem owns_none {B' : Nat} {e : TypeId} {k n c : Nat} {zs : List Value} {a : Option Addr} (h : W.ownsRow B' e k (.slice a n c) n zs) (ha : a = none) : n = 0 ∧ c = 0 := by
  subst ha
  rcases h.2 with ⟨e1, h0⟩ | ⟨g, cap, cur, e1, _⟩
  · simp only [Value.slice.injEq] at e1
    exact ⟨h0, e1.2.2⟩
  · cases e1
theorem St.boxed (h : St B bs bt bv g4 g8 m S S' x y fs W0 W) (hb : Below W.heap.size W W') {S2 : CatS} {a a' : Option Addr} {n c n' c' : Nat} (hr : RAt W' (.agg #[.slice a n c, .slice a' n' c']) S2) :
    St B bs bt bv g4 g8 m S S2 (.slice a n c) (.slice a' n' c') fs W0 ((W'.setCell ⟨g4, 0, none⟩ (.slice a n c)).setCell ⟨g4, 1, none⟩ (.slice a' n' c')) := by
  obtain ⟨b, p, d, b', p', d', rfl, rfl⟩ := h.xs
  have h' := h.later hb
  obtain ⟨h1, h2⟩ := ret_box (x := .slice a n c) (y := .slice a' n' c') h'.box
  have hne : g8 ≠ g4 := by
    rintro rfl
    have e1 : W'.heap[g8]? = some (.cells fs.toArray TAc (0, 0)) := h'.act
    have e2 : W'.heap[g8]? = some (.cells (List.toArray [.slice b p d, .slice b' p' d']) TRc (0, 0)) := h'.box
    rw [e1] at e2
    simp only [Option.some.injEq, Obj.cells.injEq] at e2
    exact absurd e2.2.1 (by decide)
  exact ⟨h.hB, h.h4, h'.cat.skip h'.box h2, hr.skip h'.box h2, h1, ⟨_, _, _, _, _, _, rfl, rfl⟩, h'.act.grown h2 (by simpa using hne), h'.bel.grown h2 (Nat.le_trans h.hB h'.bel.size) (fun j e => by cases e; exact h.h4)⟩
theorem St.act4 {v0 v1 v2 v3 : Value} (h : St B bs bt bv g4 g8 m S S' x y [v0, v1, v2, v3] W0 W) : W.cell? ⟨g8, 0, none⟩ = some v0 ∧ W.cell? ⟨g8, 1, none⟩ = some v1 ∧ W.cell? ⟨g8, 2, none⟩ = some v2 ∧ W.cell? ⟨g8, 3, none⟩ = some v3 ∧ g8 < W.heap.size := ⟨h.act.cell 0, h.act.cell 1, h.act.cell 2, h.act.cell 3, h.act.lt⟩
theorem St.box2 (h : St B bs bt bv g4 g8 m S S' x y fs W0 W) : W.cell? ⟨g4, 0, none⟩ = some x ∧ W.cell? ⟨g4, 1, none⟩ = some y ∧ g4 < W.heap.size ∧ W.frozen? ⟨g4, 0, none⟩ = false ∧ W.frozen? ⟨g4, 1, none⟩ = false := ⟨h.box.cell 0, h.box.cell 1, h.box.lt, h.box.frozen 0, h.box.frozen 1⟩
theorem St.is (h : St B bs bt bv g4 g8 m S S x y fs W0 W) (hok : Ok S) (hm : m ≤ 1000000) (k : ByteArray) (hk : k.size ≤ maxLen) :
    Calls Try.prog 18 #[.pointer (some ⟨bs, 0, none⟩), .agg #[x, y], .string k] W fun e w' => e = .returned (.bool true) ∧ Below W.heap.size W w' :=
  is_any h.cat (Nat.le_trans h.hB h.bel.size) hm hok.us hok.cs h.ref k hk
/-- the state of the law between rounds -/
def Plays (B bs bt bv g4 m : Nat) (W0 W : World) : Prop := ∃ (S : CatS) (x y : Value), B ≤ W0.heap.size ∧ B ≤ g4 ∧ CatAt B bs bt bv m S W ∧ RAt W (.agg #[x, y]) S ∧ Ok S ∧ Flds W g4 TRc [x, y] ∧ (∃ (a : Option Addr) (n c : Nat) (a' : Option Addr) (n' c' : Nat), x = .slice a n c ∧ y = .slice a' n' c') ∧ Below B W0 W
theorem Plays.later (h : Plays B bs bt bv g4 m W0 W) (hb : Below W.heap.size W W') : Plays B bs bt bv g4 m W0 W' := by
  obtain ⟨S, x, y, h1, h2, h3, h4, h5, h6, h7, h8⟩ := h
  exact ⟨S, x, y, h1, h2, h3.later hb, h4.later hb, h5, h6.later hb, h7, h8.trans (hb.mono (Nat.le_trans h1 h8.size))⟩
theorem St.plays (h : St B bs bt bv g4 g8 m S S x y fs W0 W) (hok : Ok S) : Plays B bs bt bv g4 m W0 W := ⟨S, x, y, h.hB, h.h4, h.cat, h.ref, hok, h.box, h.xs, h.bel⟩
end
end Go.Proofs.Ythhcjmikkiiahaa.cat
