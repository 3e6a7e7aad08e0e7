/- append onto a slice that a call owns, of whatever slice that reads as cells (nil too): what it leaves. A law of no program. -/
import Derived.Test.YtmbafcfoboknkaaOnly
import Derived.Test.YtmbafcfoboknkaaAg
namespace Go.Proofs.Ytmbafcfoboknkaa
set_option linter.unusedVariables false
open Go.RowKit
/-- What an append leaves: the new slice and the old one own their cells; of what was there only the old slice's block has turned; the new one lies there or in a new block. -/
structure Appended (base : Nat) (e : TypeId) (size : Nat) (v : Value) (n m : Nat) (xs news : List Value) (w : World) (v' : Value) (w' : World) : Prop where
  form : ∃ a cap, v' = .slice a (n + m) cap
  own : w'.ownsRow base e size v' (n + m) (xs ++ news)
  old : w'.ownsRow base e size v n xs
  grown : w.grownBy w' v.ownBlock
  lies : v'.ownBlock = none ∨ v'.ownBlock = v.ownBlock ∨ v'.ownBlock = some w.heap.size
  full : (∀ a c, v = .slice a n c → c ≤ n) → Below w.heap.size w w'
  empty : ∀ g t, Flds w g t [] → Flds w' g t []
  keep : ∀ u m' zs, m' ≤ n → w.ownsRow base e size u m' zs → w'.ownsRow base e size u m' zs
  same : m = 0 → v' = v ∧ w' = w
theorem run_append_row {P : Program} (w : World) (base : Nat) (t ty e : TypeId) (i : TypeInfo) (z : Value) (size bytes : Nat) (ht : P.underlying t = some (.slice e)) (hi : P.info? e = some i) (hz : i.zero = some z)
    (hsize : i.size = size) (hby : i.bytes = bytes) (hzs : z.cells.size = size) (hsz : 0 < size)
    (v : Value) (n : Nat) (xs : List Value) (hown : w.ownsRow base e size v n xs)
    (x : Value) (m : Nat) (news : List Value) (hx : Row w x size m news) (h1 : ∀ u ∈ news, u.oneCell' = true)
    (h63 : n + m ≤ maxLen) (hbytes : (n + m) * bytes ≤ 140737488355328) (hbase : base ≤ w.heap.size) :
    ∃ v' w', (Builtin.append_ #[t, t] ty #[v, x]).run P w = .ok v' w' ∧ Appended base e size v n m xs news w v' w' := by
  subst hsize
  subst hby
  have hsmall : n + m ≤ 9223372036854775807 := by simp only [maxLen] at h63; omega
  obtain ⟨ax, cx, rfl, hl, hcells⟩ := hx
  have hlen : (xs ++ news).length = (n + m) * i.size := by rw [List.length_append, hown.1, hl, Nat.add_mul]
  have refl : ∀ row, w.grownBy w row := fun row => ⟨rfl, rfl, rfl, Nat.le_refl _, fun _ _ _ => rfl⟩
  by_cases hm : m = 0
  · subst hm
    have hn : news = [] := List.eq_nil_of_length_eq_zero (by simpa using hl)
    subst hn
    have hfc : ∀ a : Option Addr, (Builtin.firstCells i.size 0 (.slice a 0 cx)).run P w = .ok #[] w := by
      intro a
      cases a <;> simp [Builtin.firstCells, loadCells, loadCellsFrom]
    refine ⟨v, w, ?_, ?_⟩
    · rcases hown.2 with ⟨rfl, rfl⟩ | ⟨g, cap, cur, rfl, hbg, hg, hnc, hcm, hcs, htake⟩
      · simp [Builtin.append_, run_underlying ht, sizeOf, typeInfo, hi, Builtin.lenOf, hfc]
      · simp [Builtin.append_, run_underlying ht, sizeOf, typeInfo, hi, Builtin.lenOf, hfc, hnc, storeCells]
    · have hxs : xs ++ [] = xs := List.append_nil _
      refine ⟨?_, by rw [hxs]; exact hown, hown, refl _, .inr (.inl rfl), fun _ => Below.refl _ _, fun _ _ h => h, fun _ _ _ _ h => h, fun _ => ⟨rfl, rfl⟩⟩
      obtain ⟨a, c, h⟩ := owns_shape hown
      exact ⟨a, c, by simpa using h⟩
  · obtain ⟨bx, ox, rfl, hc⟩ := hcells.resolve_left hm
    have hnews : ∀ j u, news[j]? = some u → w.cell? ((⟨bx, ox, none⟩ : Addr).add j) = some u := by
      intro j u hu
      have hj : j < news.length := (List.getElem?_eq_some_iff.1 hu).1
      have hadd : (⟨bx, ox, none⟩ : Addr).add j = ⟨bx, ox + j, none⟩ := by unfold Addr.add; split <;> simp_all
      rw [hadd, hc j (by omega)]; exact hu
    have grown : ∀ (old : Nat), old < n + m → w.ownsRow base e i.size v n xs → ∀ (row : Option Nat), 
        Appended base e i.size v n m xs news w (.slice (some ⟨w.heap.size, 0, none⟩) (n + m) (grownCap w (n + m) old e)) (w.drew.alloc (.cells (xs.toArray ++ news.toArray ++ Builtin.zeroCells z.cells (grownCap w (n + m) old e - (n + m))) e)) := by
      intro old ho hown row
      have hge := grownCap_ge w (n + m) old e
      have hcm : grownCap w (n + m) old e ≤ maxLen := grownCap_le_maxLen w (n + m) old e h63
      refine ⟨⟨_, _, rfl⟩, ⟨hlen, .inr ⟨w.heap.size, _, _, rfl, hbase, heap_alloc_new w.drew _, hge, hcm, ?_, ?_⟩⟩, ?_, ⟨rfl, rfl, rfl, by simp, fun k hk _ => (World.grownBy_alloc w.drew _ none).block k hk (by simp)⟩, .inr (.inr rfl), fun _ => ((Below.refl _ _).drew).alloc (Nat.le_refl _) _, fun g t h => Flds.later h (((Below.refl _ w).drew).alloc (Nat.le_refl _) _), fun u m' zs _ h => World.ownsRow.alloc (w := w.drew) h _, fun h => absurd h hm⟩
      · simp only [Array.size_append, List.size_toArray, size_zeroCells, hzs, hown.1, hl, ← Nat.add_mul]
        congr 1
        omega
      · simp only [Array.toList_append, List.append_assoc]
        rw [← List.append_assoc, ← hlen]
        exact List.take_left
      · exact World.ownsRow.alloc (w := w.drew) hown _
    rcases hown.2 with ⟨rfl, rfl⟩ | ⟨g, cap, cur, rfl, hbg, hg, hnc, hcm, hcs, htake⟩
    · have hx : xs = [] := List.eq_nil_of_length_eq_zero (by simpa using hown.1)
      subst hx
      have hr := run_append_nil (P := P) w t ty e i z ht hi hz ⟨bx, ox, none⟩ m cx news hl hnews (by omega) (by omega) (by have hb := hbytes; simp only [Nat.zero_add] at hb; omega)
      have hgr := grown 0 (by omega) hown none
      simp only [Nat.zero_add, Array.empty_append] at hgr ⊢
      exact ⟨_, _, hr, hgr⟩
    · by_cases hroom : n + m ≤ cap
      · have hfit : n * i.size + news.length ≤ cur.size := by rw [hl, hcs, ← Nat.add_mul]; exact Nat.mul_le_mul_right _ hroom
        have hr := run_append_room (P := P) w t ty e i ht hi g n cap cur hg ⟨bx, ox, none⟩ m cx news hl hnews h1 hroom hfit
        have hsz' : (cur.toList.take (n * i.size) ++ news ++ cur.toList.drop (n * i.size + news.length)).length = cap * i.size := by
          simp only [List.length_append, List.length_take, List.length_drop, Array.length_toList]; omega
        refine ⟨_, _, hr, ⟨_, _, rfl⟩, ⟨hlen, .inr ⟨g, cap, _, rfl, hbg, setRow_heap w g cur _ e _ hg, hroom, hcm, by rw [List.size_toArray]; exact hsz', ?_⟩⟩, ⟨hown.1, .inr ⟨g, cap, _, rfl, hbg, setRow_heap w g cur _ e _ hg, hnc, hcm, by rw [List.size_toArray]; exact hsz', ?_⟩⟩, ⟨rfl, rfl, rfl, by simp, fun k _ hk => setRow_other w g k _ (fun e => hk (by simp [Value.ownBlock, e]))⟩, .inr (.inl rfl), fun h => by have := h _ _ rfl; omega, fun g' t h => ?_, fun u m' zs hm' h => ?_, fun h => absurd h hm⟩
        · rw [htake, ← hlen]
          exact List.take_left
        · rw [htake, ← hown.1, List.append_assoc]
          exact List.take_left
        · by_cases hgg : g' = g
          · exfalso
            subst hgg
            have h' : w.heap[g']? = some (.cells #[] t (0, 0)) := h
            rw [hg] at h'
            simp only [Option.some.injEq, Obj.cells.injEq] at h'
            have : cur.size = 0 := by rw [h'.1]; rfl
            rw [hcs] at this
            have := Nat.mul_eq_zero.1 this
            omega
          · show (w.setRow g _).heap[g']? = _
            rw [setRow_other w g g' _ hgg]; exact h
        · obtain ⟨hl', h0 | ⟨g', cap', cur', rfl, hb', hg', hn', hcm', hcs', ht'⟩⟩ := h
          · exact ⟨hl', .inl h0⟩
          · by_cases hgg : g' = g
            · subst hgg
              rw [hg] at hg'
              simp only [Option.some.injEq, Obj.cells.injEq] at hg'
              obtain ⟨rfl, -, -⟩ := hg'
              refine ⟨hl', .inr ⟨g', cap', _, rfl, hb', setRow_heap w g' cur _ e _ hg, hn', hcm', by rw [List.size_toArray, hsz', ← hcs, hcs'], ?_⟩⟩
              have hcl : n * i.size ≤ cur.toList.length := by rw [Array.length_toList]; omega
              show List.take (m' * i.size) (cur.toList.take (n * i.size) ++ news ++ cur.toList.drop (n * i.size + news.length)) = zs
              rw [List.append_assoc, List.take_append_of_le_length (by rw [List.length_take]; have := Nat.mul_le_mul_right i.size hm'; omega), List.take_take, Nat.min_eq_left (Nat.mul_le_mul_right _ hm')]
              exact ht'
            · exact ⟨hl', .inr ⟨g', cap', cur', rfl, hb', (setRow_other w g g' _ hgg).trans hg', hn', hcm', hcs', ht'⟩⟩
      · have holds : ∀ j u, xs[j]? = some u → w.cell? ((⟨g, 0, none⟩ : Addr).add j) = some u := hown.cells (g := g) rfl
        have hr := run_append_grow (P := P) w t ty e i z ht hi hz ⟨g, 0, none⟩ n cap xs hown.1 holds ⟨bx, ox, none⟩ m cx news hl hnews (by omega) (by omega) (growslice_fits (by omega) hbytes)
        exact ⟨_, _, hr, grown cap (by omega) hown none⟩
/-- At an operation, by what it leaves. -/
theorem does_append {P : Program} {o : Oper} {a : Act} {w : World} {K : Value → World → Prop} (s x : Operand) (t : TypeId) (ho : o.op = .call { callee := .builtin .append, args := #[s, x], argTypes := #[t, t] })
    (base : Nat) (e : TypeId) (i : TypeInfo) (z : Value) (size bytes : Nat) (ht : P.underlying t = some (.slice e)) (hi : P.info? e = some i) (hz : i.zero = some z)
    (hsize : i.size = size) (hby : i.bytes = bytes) (hzs : z.cells.size = size) (hsz : 0 < size)
    (v : Value) (n : Nat) (xs : List Value) (hs : a.eval s = v) (hown : w.ownsRow base e size v n xs)
    (vx : Value) (m : Nat) (news : List Value) (hx : a.eval x = vx) (hrow : Row w vx size m news) (h1 : ∀ u ∈ news, u.oneCell' = true)
    (h63 : n + m ≤ maxLen) (hbytes : (n + m) * bytes ≤ 140737488355328) (hbase : base ≤ w.heap.size)
    (h : ∀ v' w', Appended base e size v n m xs news w v' w' → K v' w') : ag.does P o a w K := by
  obtain ⟨v', w', hr, hap⟩ := run_append_row (P := P) w base t o.type e i z size bytes ht hi hz hsize hby hzs hsz v n xs hown vx m news hrow h1 h63 hbytes hbase
  unfold ag.does execOp
  simp only [ho, resolve, invoke, builtin, Sem.run_bind, Sem.run_pure, Result.andThen_ok, List.map_toArray, List.map_cons, List.map_nil, hs, hx, hr]
  exact h v' w' hap
/-- At the list of a plain region's operations. -/
theorem wpList_append_row {P : Program} (w : World) {ops : Array Oper} {rest : List Oper} {o : Oper} {a : Act} {Q : Exit → Act → World → Prop} (hgd : o.guard = none) (s x : Operand) (t : TypeId) (ho : o.op = .call { callee := .builtin .append, args := #[s, x], argTypes := #[t, t] })
    (base : Nat) (e : TypeId) (i : TypeInfo) (z : Value) (size bytes : Nat) (ht : P.underlying t = some (.slice e)) (hi : P.info? e = some i) (hz : i.zero = some z)
    (hsize : i.size = size) (hby : i.bytes = bytes) (hzs : z.cells.size = size) (hsz : 0 < size)
    (v : Value) (n : Nat) (xs : List Value) (hs : a.eval s = v) (hown : w.ownsRow base e size v n xs)
    (vx : Value) (m : Nat) (news : List Value) (hx : a.eval x = vx) (hrow : Row w vx size m news) (h1 : ∀ u ∈ news, u.oneCell' = true)
    (h63 : n + m ≤ maxLen) (hbytes : (n + m) * bytes ≤ 140737488355328) (hbase : base ≤ w.heap.size)
    (h : ∀ a' cap w', Appended base e size v n m xs news w (.slice a' (n + m) cap) w' → wpList P ops Q rest (a.put o.dst (.slice a' (n + m) cap)) w') : wpList P ops Q (o :: rest) a w := by
  refine wpList_plain hgd fun _ hK => ?_
  refine ag.wp_of_does (does_append s x t ho base e i z size bytes ht hi hz hsize hby hzs hsz v n xs hs hown vx m news hx hrow h1 h63 hbytes hbase (fun v' w' h => h)) ?_
  rintro v' w' hap
  obtain ⟨a', cap, rfl⟩ := hap.form
  exact hK _ _ (h a' cap w' hap)
/-- One struct, or one value, in a block of its own: as a row. -/
theorem Row.of_flds {w : World} {g : Nat} {T : TypeId} {fs : List Value} {size m : Nat} (h : Flds w g T fs) (hl : fs.length = m * size) (cap : Nat) : Row w (.slice (some ⟨g, 0, none⟩) m cap) size m fs :=
  ⟨_, _, rfl, hl, .inr ⟨g, 0, rfl, fun j _ => by rw [Nat.zero_add]; exact h.cell j⟩⟩
theorem owns_of_flds {w : World} {g base : Nat} {T : TypeId} {fs : List Value} {size m : Nat} (h : Flds w g T fs) (hl : fs.length = m * size) (hb : base ≤ g) (hm : m ≤ maxLen) : w.ownsRow base T size (.slice (some ⟨g, 0, none⟩) m m) m fs :=
  ⟨hl, .inr ⟨g, m, fs.toArray, rfl, hb, h, Nat.le_refl _, hm, by simpa using hl, by simp [← hl]⟩⟩
theorem Row.nil (w : World) (size : Nat) (a : Option Addr) (cap : Nat) : Row w (.slice a 0 cap) size 0 [] := ⟨a, cap, rfl, by simp, .inl rfl⟩
theorem owns_nil (w : World) (base : Nat) (T : TypeId) (size : Nat) : w.ownsRow base T size (.slice none 0 0) 0 [] := ⟨by simp, .inl ⟨rfl, rfl⟩⟩
theorem Row.grown {w w' : World} {row : Option Nat} {v : Value} {size n : Nat} {xs : List Value} (h : Row w v size n xs) (hg : w.grownBy w' row) (hne : ∀ b, v.ownBlock = some b → some b ≠ row) : Row w' v size n xs := by
  obtain ⟨a, cap, rfl, hl, h⟩ := h
  refine ⟨a, cap, rfl, hl, h.imp id ?_⟩
  rintro ⟨b, off, rfl, hc⟩
  refine ⟨b, off, rfl, fun j hj => ?_⟩
  have h1 := hc j hj
  have h2 : ∃ u, xs[j]? = some u := ⟨_, List.getElem?_eq_getElem (by omega)⟩
  obtain ⟨u, hu⟩ := h2
  rw [hu] at h1 ⊢
  have hlt := World.block_lt_of_cell? w _ h1
  rw [World.cell?_of_block (w := w) (hg.block b hlt (hne b rfl))]
  exact h1
theorem Row.only {own : Nat → Prop} {w w' : World} {v : Value} {size n : Nat} {xs : List Value} (h : Row w v size n xs) (ho : Only own w w') (hn : ∀ b, v.ownBlock = some b → ¬ own b) : Row w' v size n xs := by
  obtain ⟨a, cap, rfl, hl, h⟩ := h
  refine ⟨a, cap, rfl, hl, h.imp id ?_⟩
  rintro ⟨b, off, rfl, hc⟩
  refine ⟨b, off, rfl, fun j hj => ?_⟩
  have h1 := hc j hj
  have h2 : ∃ u, xs[j]? = some u := ⟨_, List.getElem?_eq_getElem (by omega)⟩
  obtain ⟨u, hu⟩ := h2
  rw [hu] at h1 ⊢
  exact cell_only h1 ho (hn b rfl)
/-- The lesser of two, kept as one number (for 'attribute [local go_sem high]'). -/
theorem run_min_keep {P : Program} (ts : Array TypeId) (t : TypeId) (k k' : IntKind) (x y : Int) (w : World) : (Builtin.min_ ts t #[.int k x, .int k' y]).run P w = .ok (.int k (min x y)) w := by
  rw [run_min_int2]
  congr 2
  split <;> omega
end Go.Proofs.Ytmbafcfoboknkaa
