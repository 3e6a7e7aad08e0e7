/- The law CellPlays: what is at hand in it. -/
import Derived.Test.YtfaoeajaahnooaaCellR
import Derived.Test.YtfaoeajaahnooaaAgC
namespace Go.Proofs.Ytfaoeajaahnooaa.cel
set_option linter.unusedVariables false
open Go.RowKit Go.WideShapes Go.MapKept

abbrev TOs : TypeId := 26
abbrev TAc : TypeId := 28
/-- the store, and the document's cells in memory -/
structure Mp (w : World) (g4 bs bt bw mm : Nat) (S : CS) (Dt : Dat) (pr : Nat → Prop) (es : List En) (a : Option Addr) (c : Nat) (W : World) : Prop where
  cx : Cx bs bt bw mm S Dt pr W
  f2 : Flds W w.heap.size TB [.bool false]
  f4 : Flds W g4 TOs [.slice a es.length c]
  low : ∀ j, (j ≤ w.heap.size ∨ j = g4) → pr j
  row : W.ownsRow (g4 + 1) TO 3 (.slice a es.length c) es.length (eCells es)
  rpr : ∀ b, (Value.slice a es.length c).ownBlock = some b → pr b
  ws : ∀ e ∈ es, W.ownsRow 0 TI 1 e.v e.l.length (e.l.map encZ) ∧ ∀ b, e.v.ownBlock = some b → pr b
  bel : Below w.heap.size w W
  lt4 : w.heap.size < g4
section
variable {w W W' : World} {g4 bs bt bw mm : Nat} {S : CS} {Dt : Dat} {pr : Nat → Prop} {es : List En} {a : Option Addr} {c : Nat}
theorem Cx.prlt (h : Cx bs bt bw mm S Dt pr W) : ∀ j, pr j → j < W.heap.size := by
  obtain ⟨own, m, Dw, bk, hC, hm, ho, hp⟩ := h
  exact hp
theorem Cx.mono {mm' : Nat} (h : Cx bs bt bw mm S Dt pr W) (hm : mm ≤ mm') : Cx bs bt bw mm' S Dt pr W := by
  obtain ⟨own, m, Dw, bk, hC, hm1, ho, hp⟩ := h
  exact ⟨own, m, Dw, bk, hC, by omega, ho, hp⟩
theorem Mp.later (h : Mp w g4 bs bt bw mm S Dt pr es a c W) (hb : Below W.heap.size W W') : Mp w g4 bs bt bw mm S Dt pr es a c W' :=
  ⟨h.cx.later hb, h.f2.later hb, h.f4.later hb, h.low, owns_below h.row hb, h.rpr, fun e he => ⟨owns_below (h.ws e he).1 hb, (h.ws e he).2⟩, h.bel.trans (hb.mono h.bel.size), h.lt4⟩
/-- what is new is not the store's -/
theorem Mp.more (h : Mp w g4 bs bt bw mm S Dt pr es a c W) (hb : Below W.heap.size W W') : Mp w g4 bs bt bw mm S Dt (fun j => pr j ∨ (W.heap.size ≤ j ∧ j < W'.heap.size)) es a c W' := by
  have h1 := h.later hb
  refine ⟨h.cx.more hb _ (fun j hj => hj.imp id And.left) (fun j hj => hj.elim (fun hp => Nat.lt_of_lt_of_le (h.cx.prlt j hp) hb.size) And.right), h1.f2, h1.f4, fun j hj => .inl (h.low j hj), h1.row, fun b hb => .inl (h.rpr b hb), fun e he => ⟨(h1.ws e he).1, fun b hb => .inl ((h.ws e he).2 b hb)⟩, h1.bel, h1.lt4⟩
theorem Only.not_pr_below {B : Nat} (ho : Only (fun j => ¬ pr j) W W') (hB : B ≤ W.heap.size) (hp : ∀ j, j < B → pr j) : Below B W W' :=
  ho.below hB (fun j hj => Nat.le_of_not_lt fun h => hj (hp j h))
/-- the store is turned by one of its acts -/
theorem Mp.acted {mm' : Nat} {S' : CS} {Dt' : Dat} (h : Mp w g4 bs bt bw mm S Dt pr es a c W) (hx : Cx bs bt bw mm' S' Dt' pr W') (ho : Only (fun j => ¬ pr j) W W') :
    Mp w g4 bs bt bw mm' S' Dt' pr es a c W' :=
  ⟨hx, h.f2.only ho (fun hn => hn (h.low _ (.inl (Nat.le_refl _)))), h.f4.only ho (fun hn => hn (h.low _ (.inr rfl))), h.low, owns_only h.row ho (fun g hg hn => hn (h.rpr g hg)), h.rpr,
    fun e he => ⟨owns_only (h.ws e he).1 ho (fun g hg hn => hn ((h.ws e he).2 g hg)), (h.ws e he).2⟩, h.bel.trans (Only.not_pr_below ho h.bel.size (fun j hj => h.low j (.inl (by omega)))), h.lt4⟩
/-- a block aside turns that is none of these -/
theorem Mp.aside {r : Nat} (h : Mp w g4 bs bt bw mm S Dt pr es a c W) (hg : W.grownBy W' (some r)) (hr : pr r) (h2 : r > w.heap.size) (h4 : r ≠ g4) (hm : (Value.slice a es.length c).ownBlock ≠ some r) (hw : ∀ e ∈ es, e.v.ownBlock ≠ some r) : Mp w g4 bs bt bw mm S Dt pr es a c W' := by
  refine ⟨h.cx.kept hg hr, h.f2.grown hg (fun e => by simp only [Option.some.injEq] at e; omega), h.f4.grown hg (fun e => h4 (by simpa using e.symm)), h.low, h.row.kept hg (.inr hm), h.rpr, fun e he => ⟨(h.ws e he).1.kept hg (.inr (hw e he)), (h.ws e he).2⟩, h.bel.grown hg h.bel.size (fun j e => by simp only [Option.some.injEq] at e; omega), h.lt4⟩
/-- another list of cells -/
theorem Mp.list {es' : List En} {a' : Option Addr} {c' : Nat} (h : Mp w g4 bs bt bw mm S Dt pr es a c W) (hr : W.ownsRow (g4 + 1) TO 3 (.slice a' es'.length c') es'.length (eCells es')) (hp : ∀ b, (Value.slice a' es'.length c').ownBlock = some b → pr b)
    (hw : ∀ e ∈ es', W.ownsRow 0 TI 1 e.v e.l.length (e.l.map encZ) ∧ ∀ b, e.v.ownBlock = some b → pr b) : Mp w g4 bs bt bw mm S Dt pr es' a' c' (W.setCell ⟨g4, 0, none⟩ (.slice a' es'.length c')) := by
  have hg : W.grownBy (W.setCell ⟨g4, 0, none⟩ (.slice a' es'.length c')) (some g4) := grown_setCell W ⟨g4, 0, none⟩ _
  refine ⟨h.cx.kept hg (h.low _ (.inr rfl)), h.f2.grown hg (fun e => by simp only [Option.some.injEq] at e; have := h.lt4; omega), h.f4.set 0 _, h.low, owns_setCell hr _ _ (owns_ne_obj hr h.f4 (by decide)), hp, fun e he => ⟨owns_setCell (hw e he).1 _ _ (owns_ne_obj (hw e he).1 h.f4 (by decide)), (hw e he).2⟩, h.bel.grown hg h.bel.size (fun j e => by simp only [Option.some.injEq] at e; have := h.lt4; omega), h.lt4⟩
/-- one cell of the list -/
theorem Mp.turn (h : Mp w g4 bs bt bw mm S Dt pr es a c W) {p : Nat} (hp : p < es.length) (e : En) (he : W.ownsRow 0 TI 1 e.v e.l.length (e.l.map encZ) ∧ ∀ b, e.v.ownBlock = some b → pr b) :
    ∃ g, a = some ⟨g, 0, none⟩ ∧ (∀ i, W.frozen? ⟨g, i, none⟩ = false) ∧ Mp w g4 bs bt bw mm S Dt pr (es.set p e) a c (((W.setCell ⟨g, p * 3, none⟩ (.string e.name)).setCell ⟨g, p * 3 + 1, none⟩ (.string e.text)).setCell ⟨g, p * 3 + 2, none⟩ e.v) := by
  obtain ⟨g, rfl, hg1, hg2, hc, hf⟩ := owns_cellAt h.row (by omega)
  have hgp : pr g := h.rpr g rfl
  have g1 : W.grownBy (((W.setCell ⟨g, p * 3, none⟩ (.string e.name)).setCell ⟨g, p * 3 + 1, none⟩ (.string e.text)).setCell ⟨g, p * 3 + 2, none⟩ e.v) (some g) :=
    grown_two (grown_two (grown_setCell W ⟨g, p * 3, none⟩ _) (grown_setCell _ ⟨g, p * 3 + 1, none⟩ _)) (grown_setCell _ ⟨g, p * 3 + 2, none⟩ _)
  have hne : ∀ x, (x ∈ es ∨ x = e) → x.v.ownBlock ≠ some g := by
    intro x hx
    have hrow : W.ownsRow 0 TI 1 x.v x.l.length (x.l.map encZ) := by
      rcases hx with hx | rfl
      · exact (h.ws x hx).1
      · exact he.1
    rcases owns_ne_owns hrow h.row (by decide) with h0 | h0
    · rw [h0]; simp
    · exact h0
  refine ⟨g, rfl, hf, h.cx.kept g1 hgp, h.f2.grown g1 (fun e => by simp only [Option.some.injEq] at e; have := h.lt4; omega), ?_, h.low, ?_, ?_, fun x hx => ?_, h.bel.grown g1 h.bel.size (fun j e => by simp only [Option.some.injEq] at e; have := h.lt4; omega), h.lt4⟩
  · rw [List.length_set]; exact h.f4.grown g1 (fun e => by simp only [Option.some.injEq] at e; omega)
  · rw [List.length_set, ← eCells_set es p e hp]
    have hz : (eCells es).length = es.length * 3 := eCells_len es
    exact owns_put (owns_put (owns_put h.row (i := p * 3) (by omega) (.string e.name)) (i := p * 3 + 1) (by omega) (.string e.text)) (i := p * 3 + 2) (by omega) e.v
  · rw [List.length_set]; exact h.rpr
  · have hx' : x ∈ es ∨ x = e := by
      rcases List.mem_or_eq_of_mem_set hx with h | h
      · exact .inl h
      · exact .inr h
    have hw : W.ownsRow 0 TI 1 x.v x.l.length (x.l.map encZ) ∧ ∀ b, x.v.ownBlock = some b → pr b := by
      rcases hx' with hx | rfl
      · exact h.ws x hx
      · exact he
    exact ⟨hw.1.kept g1 (.inr (hne x hx')), hw.2⟩
theorem Cx.set (h : Cx bs bt bw mm S Dt pr W) (hm1 : mm < 1000000) (s t : ByteArray) (hs : s.size ≤ maxLen) (l : List Int) (hl : l = @ite _ (S.tx s = t) (Classical.propDecidable _) [] (S.wh s)) :
    Calls Try.prog 11 #[.pointer (some ⟨bs, 0, none⟩), .string s, .string t] W fun e w' => ∃ v, e = .returned v ∧ (∃ Dt', Cx bs bt bw (mm + 1) { S with tx := upd S.tx s t } Dt' pr w') ∧ Only (fun j => ¬ pr j) W w' ∧ w'.ownsRow W.heap.size TI 1 v l.length (l.map encZ) := by
  obtain ⟨own, m, Dw, bk, hC, hm, ho, hp⟩ := h
  refine (set_any hC (by omega) s t hs l hl).mono ?_
  rintro e w' ⟨v, Dt', rfl, h1, h2, h3⟩
  exact ⟨v, rfl, ⟨Dt', own, m + 1, Dw, bk, h1, by omega, ho, fun j hj => Nat.lt_of_lt_of_le (hp j hj) h2.size⟩, h2.mono (fun j _ hj => ho j hj), h3⟩
theorem Cx.get (h : Cx bs bt bw mm S Dt pr W) (s : ByteArray) (hs : s.size ≤ maxLen) :
    Calls Try.prog 13 #[.pointer (some ⟨bs, 0, none⟩), .string s] W fun e w' => e = .returned (.string (S.tx s)) ∧ w' = W := by
  obtain ⟨own, m, Dw, bk, hC, hm, ho, hp⟩ := h
  exact get_any hC s hs
theorem lasts_own (l : List Int) : ag.Lasts (fun v W => W.ownsRow 0 TI 1 v l.length (l.map encZ)) := fun v w w' h hb => owns_below h hb
/-- what is at hand behind the three kinds of acts -/
structure Dn (w : World) (g4 bs bt bw mm k : Nat) (es : List En) (a : Option Addr) (c p g6 g8 : Nat) (nm tx : ByteArray) (xk xi : Int) (wx : World) : Prop where
  go : ∃ (S' : CS) (Dt' : Dat) (pr : Nat → Prop) (e' : En), Mp w g4 bs bt bw mm S' Dt' pr es a c wx ∧ EsOk S' (es.set p e') ∧ e'.name = nm ∧ Flds wx g8 TO [.string nm, .string e'.text, e'.v] ∧ (wx.ownsRow 0 TI 1 e'.v e'.l.length (e'.l.map encZ) ∧ ∀ b, e'.v.ownBlock = some b → pr b) ∧ pr g6 ∧ pr g8 ∧ (0 ≤ S'.n ∧ S'.n ≤ k)
  f6 : Flds wx g6 28 [.int .u8 xk, .string nm, .string tx, .int .i64 xi]
theorem Dn.of_who {k p g6 g8 gm : Nat} {e : En} {tx : ByteArray} {xk xi : Int} {x v7 : Value} {l7 : List Int} (hM : Mp w g4 bs bt bw mm S Dt pr es (some ⟨gm, 0, none⟩) c W) (h8 : Flds W g8 TO [.string e.name, .string e.text, x]) (h6 : Flds W g6 28 [.int .u8 xk, .string e.name, .string tx, .int .i64 xi])
    (hv : W.ownsRow 0 TI 1 v7 l7.length (l7.map encZ)) (hvp : ∀ b, v7.ownBlock = some b → pr b) (p6 : pr g6) (p8 : pr g8) (hgm : gm < g8) (h46 : g4 < g6) (h68 : g6 < g8) (hE : EsOk S (es.set p ⟨e.name, e.text, l7, v7⟩)) (hn : 0 ≤ S.n ∧ S.n ≤ k) : Dn w g4 bs bt bw mm k es (some ⟨gm, 0, none⟩) c p g6 g8 e.name tx xk xi (W.setCell ⟨g8, 2, none⟩ v7) := by
  have hg : W.grownBy (W.setCell ⟨g8, 2, none⟩ v7) (some g8) := grown_setCell W ⟨g8, 2, none⟩ _
  have h4 := hM.lt4
  refine ⟨⟨S, Dt, pr, ⟨e.name, e.text, l7, v7⟩, hM.aside hg p8 (by omega) (by omega) (fun h => ?_) (fun e' he' => owns_ne_obj (hM.ws e' he').1 h8 (by decide)), hE, rfl, h8.set 2 v7, ⟨owns_setCell hv _ _ (owns_ne_obj hv h8 (by decide)), hvp⟩, p6, p8, hn⟩, h6.other _ _ (by show g6 ≠ g8; omega)⟩
  simp only [Value.ownBlock, Option.some.injEq] at h
  omega
theorem Dn.of_text {k p g6 g8 gm : Nat} {e : En} {tx : ByteArray} {xk xi : Int} {x : ByteArray} (hM : Mp w g4 bs bt bw mm S Dt pr es (some ⟨gm, 0, none⟩) c W) (h8 : Flds W g8 TO [.string e.name, .string x, e.v]) (h6 : Flds W g6 28 [.int .u8 xk, .string e.name, .string tx, .int .i64 xi])
    (hv : W.ownsRow 0 TI 1 e.v e.l.length (e.l.map encZ)) (hvp : ∀ b, e.v.ownBlock = some b → pr b) (p6 : pr g6) (p8 : pr g8) (hgm : gm < g8) (h46 : g4 < g6) (h68 : g6 < g8) (hE : EsOk S (es.set p ⟨e.name, tx, e.l, e.v⟩)) (hn : 0 ≤ S.n ∧ S.n ≤ k) : Dn w g4 bs bt bw mm k es (some ⟨gm, 0, none⟩) c p g6 g8 e.name tx xk xi (W.setCell ⟨g8, 1, none⟩ (.string tx)) := by
  have hg : W.grownBy (W.setCell ⟨g8, 1, none⟩ (.string tx)) (some g8) := grown_setCell W ⟨g8, 1, none⟩ _
  have h4 := hM.lt4
  refine ⟨⟨S, Dt, pr, ⟨e.name, tx, e.l, e.v⟩, hM.aside hg p8 (by omega) (by omega) (fun h => ?_) (fun e' he' => owns_ne_obj (hM.ws e' he').1 h8 (by decide)), hE, rfl, h8.set 1 (.string tx), ⟨owns_setCell hv _ _ (owns_ne_obj hv h8 (by decide)), hvp⟩, p6, p8, hn⟩, h6.other _ _ (by show g6 ≠ g8; omega)⟩
  simp only [Value.ownBlock, Option.some.injEq] at h
  omega
theorem Mp.mono {mm' : Nat} (h : Mp w g4 bs bt bw mm S Dt pr es a c W) (hm : mm ≤ mm') : Mp w g4 bs bt bw mm' S Dt pr es a c W := ⟨h.cx.mono hm, h.f2, h.f4, h.low, h.row, h.rpr, h.ws, h.bel, h.lt4⟩
end
/-- how many of the cells have a text -/
noncomputable def hasT (e : En) : Bool := @decide (e.text ≠ ByteArray.empty) (Classical.propDecidable _)
theorem hasT_yes {e : En} (h : e.text ≠ ByteArray.empty) : hasT e = true := by unfold hasT; simp [h]
theorem hasT_no {e : En} (h : e.text = ByteArray.empty) : hasT e = false := by unfold hasT; simp [h]
noncomputable def nz (es : List En) : Nat := (es.filter hasT).length
theorem nz_le (es : List En) : nz es ≤ es.length := List.length_filter_le _ _
theorem nz_step {es : List En} {j : Nat} {e : En} (h : es[j]? = some e) : nz (es.take (j + 1)) = nz (es.take j) + (if hasT e = true then 1 else 0) := by
  unfold nz
  rw [List.take_add_one, h, List.filter_append, List.length_append]
  cases hn : hasT e <;> simp [hn]
theorem tot_app (f : ByteArray → List Int) (a b : List ByteArray) : tot f (a ++ b) = tot f a + tot f b := by
  unfold tot; rw [List.map_append, List.sum_append]
theorem tot_take_le (f : ByteArray → List Int) (ns : List ByteArray) (j : Nat) : tot f (ns.take j) ≤ tot f ns := by
  have h := tot_app f (ns.take j) (ns.drop j)
  rw [List.take_append_drop] at h
  have := tot_nonneg f (ns.drop j)
  omega
theorem tot_step (f : ByteArray → List Int) {es : List En} {j : Nat} {e : En} (h : es[j]? = some e) : tot f ((es.take (j + 1)).map (·.name)) = tot f ((es.take j).map (·.name)) + ((f e.name).length : Int) := by
  rw [List.take_add_one, h, List.map_append]
  exact tot_snoc f _ _
theorem leB_pair {l : List (List UInt8)} (h : l.Pairwise (· ≤ ·)) : l.mergeSort leB = l := List.mergeSort_of_pairwise (h.imp fun h => by simpa [leB] using h)
/-- what is told, in the names' order -/
theorem Cel.told_es {own : Nat → Prop} {bs m : Nat} {S : CS} {w : World} {bt bw : Nat} {Dt Dw : Dat} {bk : ByteArray → Option Nat} (h : Cel own bs m S w bt bw Dt Dw bk) {es : List En} (he : EsOk S es) : (strKeys Dt).mergeSort leB = (es.filter hasT).map (fun e => e.name.data.toList) := by
  have hp := h.names ((es.filter hasT).map (·.name)) ((he.inv.nd.sublist (List.Sublist.map _ List.filter_sublist))) (fun s hs => by
      obtain ⟨e, hm, rfl⟩ := List.mem_map.1 hs
      have := (he.ok e (List.mem_filter.1 hm).1).1
      unfold maxLen; omega) (fun s hs => by
      constructor
      · intro hm
        obtain ⟨e, hm2, rfl⟩ := List.mem_map.1 hm
        obtain ⟨h1, h2⟩ := List.mem_filter.1 hm2
        rw [← (he.ok e h1).2.1]
        by_cases h0 : e.text = ByteArray.empty
        · rw [hasT_no h0] at h2; cases h2
        · exact h0
      · intro hne
        have hm : s ∈ es.map (·.name) := by
          false_or_by_contra
          rename_i h0
          exact hne (he.tx0 s h0)
        obtain ⟨e, hm2, rfl⟩ := List.mem_map.1 hm
        exact List.mem_map.2 ⟨e, List.mem_filter.2 ⟨hm2, hasT_yes (by rw [(he.ok e hm2).2.1]; exact hne)⟩, rfl⟩)
  rw [List.map_map] at hp
  have hs : ((es.filter hasT).map (fun e => e.name.data.toList)).Pairwise (· ≤ ·) := List.pairwise_map.2 ((he.srt.sublist List.filter_sublist).imp fun h => List.le_of_lt h)
  rw [← leB_pair hs]
  exact (mergeSort_of_perm hp).symm
/-- the next cell that has a text -/
theorem nz_at {es : List En} {q : Nat} {e : En} (hq : es[q]? = some e) (hn : hasT e = true) : (es.filter hasT)[nz (es.take q)]? = some e := by
  have hsp : es = es.take q ++ e :: es.drop (q + 1) := by
    obtain ⟨hl, he⟩ := List.getElem?_eq_some_iff.1 hq
    rw [← he, ← List.drop_eq_getElem_cons hl, List.take_append_drop]
  have hf : es.filter hasT = (es.take q).filter hasT ++ e :: (es.drop (q + 1)).filter hasT := by
    conv => lhs; rw [hsp]
    rw [List.filter_append, List.filter_cons, if_pos hn]
  rw [hf]
  unfold nz
  rw [List.getElem?_append_right (Nat.le_refl _)]
  simp
end Go.Proofs.Ytfaoeajaahnooaa.cel
