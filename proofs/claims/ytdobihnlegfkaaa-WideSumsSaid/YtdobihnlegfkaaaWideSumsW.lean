/- The law WideSums, walked. -/
import Derived.Test.YtdobihnlegfkaaaSumsP
import Derived.Test.YtdobihnlegfkaaaOwn
import Derived.Test.YtdobihnlegfkaaaAgS
import Derived.Outline
namespace Go.Proofs.Ytdobihnlegfkaaa.wb
set_option linter.unusedVariables false
open Go.RowKit wide
attribute [local go_sem ↓] Go.wp_at_zero Go.wp_at_succ
attribute [local go_sem] ag.upon_value ag.upon_skip ag.upon_enter
attribute [local go_sem high] run_eqlW run_neqW run_min_keep

theorem sp1 : isInt (hiW 9223372036854775808) (loW 9223372036854775808) = false := by decide +kernel
theorem sp2 : isInt (hiW 9223372036854775807) (loW 9223372036854775807) = true := by decide +kernel
theorem sp3 : wrap64 (loW 9223372036854775807) = 9223372036854775807 := by decide +kernel

/-- the walk's spelling of a literal of wide numbers -/
theorem row_two {W : World} {g : Nat} (a b : Int) (h : Flds W g TW (enc a ++ enc b)) (cap : Nat) : Row W (.slice (some ⟨g, 0, none⟩) [a, b].length cap) 2 [a, b].length (cells [a, b]) :=
  Row.of_flds h rfl cap

theorem plus_sp (W : World) : Calls Try.prog 31 #[.slice (some ⟨W.heap.size, 0, none⟩) 2 2] (W.alloc (.cells #[.int .i64 (hiW 9223372036854775808), .int .u64 (loW 9223372036854775808), .int .i64 (hiW (-1)), .int .u64 (loW (-1))] TW)) fun e w' => e = .returned (agg 9223372036854775807) ∧ Below (W.alloc (.cells #[.int .i64 (hiW 9223372036854775808), .int .u64 (loW 9223372036854775808), .int .i64 (hiW (-1)), .int .u64 (loW (-1))] TW)).heap.size (W.alloc (.cells #[.int .i64 (hiW 9223372036854775808), .int .u64 (loW 9223372036854775808), .int .i64 (hiW (-1)), .int .u64 (loW (-1))] TW)) w' :=
  plus_any _ _ [9223372036854775808, -1] _ (row_two 9223372036854775808 (-1) (Flds.new W TW (enc 9223372036854775808 ++ enc (-1))) 2) (by decide)
theorem int_sp (w : World) : Calls Try.prog 27 #[agg 9223372036854775807] w fun e w' => e = .returned (.tuple #[.int .i64 9223372036854775807, .bool true]) ∧ Below w.heap.size w w' := by
  have h := int_any (hiW 9223372036854775807) (loW 9223372036854775807) (loW_bd _) w
  rw [sp2, sp3] at h
  exact h
set_option maxHeartbeats 1000000 in
theorem wide_speaks (w : World) :
    Calls Try.prog 24 #[] w fun e w' => e = .returned (.bool true) ∧ Below w.heap.size w w' := by
  go_enter Try.func24, Try.ntmps24
  go_wp2_with fail
  refine (of_any _ _ (by decide)).mono ?_; rintro e w1 ⟨rfl, hb1⟩
  go_wp2_with fail
  refine (of_any _ _ (by decide)).mono ?_; rintro e w2 ⟨rfl, hb2⟩
  go_wp2_with fail
  have hF := Flds.new w2 TW (enc 9223372036854775807 ++ enc 1)
  refine (plus_any _ _ [9223372036854775807, 1] _ (row_two _ _ hF _) (by decide)).mono ?_
  rintro e w3 ⟨rfl, hb3⟩
  rw [show [(9223372036854775807 : Int), 1].sum = 9223372036854775808 from rfl]
  have hB2 := hb1.trans (hb2.mono hb1.size)
  have hB3 : Below w.heap.size w w3 := (hB2.alloc hB2.size _).trans (hb3.mono (by simp; exact Nat.le_succ_of_le hB2.size))
  clear hb1 hb2 hB2 hF hb3
  go_wp2_with fail
  refine (int_any _ _ (loW_bd _) _).mono ?_; rintro e w4 ⟨rfl, hb4⟩
  rw [sp1]
  have c0 := cell_later hb4 (cells_new w3 [.int .i64 (hiW 9223372036854775808), .int .u64 (loW 9223372036854775808)] TW 0)
  have c1 := cell_later hb4 (cells_new w3 [.int .i64 (hiW 9223372036854775808), .int .u64 (loW 9223372036854775808)] TW 1)
  have hB4 : Below w.heap.size w w4 := (hB3.alloc hB3.size _).trans (hb4.mono (by simp; exact Nat.le_succ_of_le hB3.size))
  clear hb4
  go_wp2
  go_region_held3 (fun W => W.cell? ⟨w3.heap.size, 0, none⟩ = some (.int .i64 (hiW 9223372036854775808)) ∧ W.cell? ⟨w3.heap.size, 1, none⟩ = some (.int .u64 (loW 9223372036854775808)) ∧ Below w.heap.size w W)
    (first | exact ⟨c0, c1, hB4.drew⟩ | exact keep2 (by assumption) hb5 | exact keep2 (by assumption) ((Below.refl _ _).alloc (Nat.le_refl _) _) | exact keep2 (by assumption) hb6 | exact keep2 (by assumption) hb7)
    (first
      | (go_at_call 33; refine (of_any _ _ (by decide)).mono ?_; rintro e w5 ⟨rfl, hb5⟩)
      | (go_at_call 31; refine (plus_sp _).mono ?_; rintro e w6 ⟨rfl, hb6⟩)
      | (go_at_call 27; refine (int_sp _).mono ?_; rintro e w7 ⟨rfl, hb7⟩))
  go_wp2
  go_ret
  exact ⟨rfl, And.right (And.right (by assumption))⟩

theorem infoW : (Try.prog.info? 49).map (fun i => (i.zero, i.size, i.bytes)) = some (some (.agg #[.int .i64 0, .int .u64 0]), 2, 16) := by kernel_rfl


/-- a block holds the bits of a number -/
def Rw (w : World) (g m : Nat) : Prop := w.heap[g]? = some (.cells (row m) TB (0, 0))
theorem Rw.lt {w : World} {g m : Nat} (h : Rw w g m) : g < w.heap.size := (Array.getElem?_eq_some_iff.1 h).1
theorem Rw.later {w w' : World} {g m : Nat} (h : Rw w g m) (hb : Below w.heap.size w w') : Rw w' g m := (hb.block g h.lt).trans h
theorem Rw.set {w : World} {g m : Nat} (h : Rw w g m) (n : Nat) : Rw (w.setRow g (row n)) g n := setRow_heap w g _ _ _ _ h
theorem Rw.other {w : World} {g m : Nat} (h : Rw w g m) {g' : Nat} (hne : g ≠ g') (cs : Array Value) : Rw (w.setRow g' cs) g m := (setRow_other w g' g cs hne).trans h
theorem row_size (m : Nat) : (row m).size = 128 := rowF_size _
theorem row_one (m : Nat) : (row m).all (·.oneCell') = true := rowF_one _
theorem run_storeRow (w : World) (g m : Nat) (f : Nat → Bool) (hf : w.heap[g]? = some (.cells (rowF f) TB (0, 0))) : (storeCells ⟨g, 0, none⟩ (row m).toList).run Try.prog w = .ok () (w.setRow g (row m)) := by
  have h := run_storeCells_from (P := Try.prog) g TB (row m).toList 0 (rowF f) w hf (by simp [rowF_size, row_size]) (fun v hv => (Array.all_eq_true_iff_forall_mem.1 (row_one m)) v (by simpa using hv))
  simpa [rowF_size, row_size] using h
/-- what holds ahead of round k -/
structure SI (w : World) (vs : List Int) (g4 k : Nat) (va : Value) (wr : World) : Prop where
  own : wr.ownsRow w.heap.size TW 2 va k (cells (vs.take k))
  sum : Rw wr g4 (ms (vs.take k))
  bel : Below w.heap.size w wr
  ap : va.ownBlock ≠ some g4
  new : w.heap.size ≤ g4

theorem below_only {w w' : World} (h : Below w.heap.size w w') : Only (fun _ => False) w w' := Only.of_below h
theorem setRow_only (w : World) (g : Nat) (cs : Array Value) : Only (fun k => k = g) w (w.setRow g cs) :=
  ⟨rfl, rfl, rfl, by simp [World.setRow], fun k _ hne => setRow_other w g k cs hne⟩
theorem Rw.only {w w' : World} {g m : Nat} {P : Nat → Prop} (h : Rw w g m) (ho : Only P w w') (hn : ¬ P g) : Rw w' g m := (ho.block g h.lt hn).trans h
theorem plus_own (l : List Int) (k : Nat) (hk : l.length = k) (hb : k ≤ 9223372036854775807) (va : Value) (base : Nat) (W : World) (h : W.ownsRow base TW 2 va k (cells l)) : Calls Try.prog 31 #[va] W fun e w' => e = .returned (.agg #[.int .i64 (hiW l.sum), .int .u64 (loW l.sum)]) ∧ Below W.heap.size W w' := by
  obtain ⟨a, cap, rfl⟩ := owns_shape h
  subst hk
  exact plus_any a cap l W (Row.of_owns h) hb
/-- what holds in the midst of a round -/
structure SM (w : World) (vs : List Int) (g4 g6 g7 : Nat) (v : Int) (n m4 : Nat) (va : Value) (x : World) : Prop where
  own : x.ownsRow w.heap.size TW 2 va n (cells (vs.take n))
  sum : Rw x g4 m4
  f6 : Flds x g6 TW (wide.enc v)
  r7 : Rw x g7 (nv v)
  bel : Below w.heap.size w x
  ap : va.ownBlock ≠ some g4
  new : w.heap.size ≤ g4 ∧ w.heap.size ≤ g6 ∧ w.heap.size ≤ g7
  a6 : va.ownBlock ≠ some g6
  a7 : va.ownBlock ≠ some g7
  ne : g6 ≠ g4 ∧ g7 ≠ g4
theorem SM.later {w : World} {vs : List Int} {g4 g6 g7 : Nat} {v : Int} {n m4 : Nat} {va : Value} {x x' : World} (h : SM w vs g4 g6 g7 v n m4 va x) (hb : Below x.heap.size x x') : SM w vs g4 g6 g7 v n m4 va x' :=
  { h with own := owns_only h.own (below_only hb) (fun _ _ h => h), sum := h.sum.later hb, f6 := h.f6.later hb, r7 := h.r7.later hb, bel := h.bel.trans (hb.mono h.bel.size) }
theorem SM.set4 {w : World} {vs : List Int} {g4 g6 g7 : Nat} {v : Int} {n m4 : Nat} {va : Value} {x : World} (h : SM w vs g4 g6 g7 v n m4 va x) (m : Nat) : SM w vs g4 g6 g7 v n m va (x.setRow g4 (row m)) :=
  { h with own := owns_only h.own (setRow_only x g4 _) (fun g hg e => h.ap (by rw [hg, e])), sum := h.sum.set m, f6 := h.f6.only (setRow_only x g4 _) h.ne.1, r7 := h.r7.only (setRow_only x g4 _) h.ne.2, bel := below_setRow h.bel h.new.1 _ }
theorem SM.grow {w : World} {vs : List Int} {g4 g6 g7 : Nat} {v : Int} {n m4 : Nat} {va va' : Value} {x x' : World} (h : SM w vs g4 g6 g7 v n m4 va x) (hv : vs[n]? = some v) (ha : Appended w.heap.size TW 2 va n 1 (cells (vs.take n)) (wide.enc v) x va' x') : SM w vs g4 g6 g7 v (n + 1) m4 va' x' := by
  have hO : Only (fun k => va.ownBlock = some k) x x' := (Only.refl _ x).grown ha.grown (fun k e _ => e)
  have hne : ∀ g, va.ownBlock ≠ some g → g < x.heap.size → va'.ownBlock ≠ some g := fun g h1 h2 e => by
    rcases ha.lies with q | q | q
    · rw [q] at e; cases e
    · rw [q] at e; exact h1 e
    · rw [q] at e; simp only [Option.some.injEq] at e; omega
  refine { h with own := ?_, sum := h.sum.only hO h.ap, f6 := h.f6.only hO h.a6, r7 := h.r7.only hO h.a7, bel := h.bel.grown ha.grown h.bel.size (fun k e => (h.own.lt k e).1), ap := hne _ h.ap h.sum.lt, a6 := hne _ h.a6 h.f6.lt, a7 := hne _ h.a7 h.r7.lt }
  have e : cells (vs.take (n + 1)) = cells (vs.take n) ++ wide.enc v := by
    rw [List.take_add_one, hv]; simp [cells]
  rw [e]; exact ha.own

theorem SM.done {w : World} {vs : List Int} {g4 g6 g7 : Nat} {v : Int} {k : Nat} {va : Value} {x : World} (h : SM w vs g4 g6 g7 v (k + 1) (ms (vs.take k) + nv v) va x) (hv : vs[k]? = some v) : SI w vs g4 (k + 1) va x := by
  have e : vs.take (k + 1) = vs.take k ++ [v] := by rw [List.take_add_one, hv]; rfl
  refine ⟨h.own, ?_, h.bel, h.ap, h.new.1⟩
  rw [e, ms_snoc]; exact h.sum
/-- a new row of bits, ahead of its store and behind it -/
def VA (X : World) (x : Value) (w : World) : Prop := ∃ g, x = .pointer (some ⟨g, 0, none⟩) ∧ X.heap.size ≤ g ∧ ∃ f, w.heap[g]? = some (.cells (rowF f) TB (0, 0))
def VS (X : World) (m : Nat) (x : Value) (w : World) : Prop := ∃ g, x = .pointer (some ⟨g, 0, none⟩) ∧ X.heap.size ≤ g ∧ Rw w g m
def TS9 (X : World) (m : Nat) (f : Nat → Value) (w w' : World) : Prop := ∃ g, f 11 = .pointer (some ⟨g, 0, none⟩) ∧ X.heap.size ≤ g ∧ w' = w.setRow g (row m)
theorem VA.later {X w w' : World} {x : Value} (h : VA X x w) (hb : Below w.heap.size w w') : VA X x w' := by
  obtain ⟨g, e, hg, f, hf⟩ := h
  exact ⟨g, e, hg, f, (hb.block g (Array.getElem?_eq_some_iff.1 hf).1).trans hf⟩
theorem VA.stored {X w w' : World} {m : Nat} {x : Value} {f : Nat → Value} (h : VA X x w) (ht : TS9 X m f w w') : VA X x w' := by
  obtain ⟨g, e, hg, q, hf⟩ := h
  obtain ⟨g', -, -, rfl⟩ := ht
  by_cases he : g = g'
  · subst he; exact ⟨g, e, hg, _, setRow_heap w g _ (row m) _ _ hf⟩
  · exact ⟨g, e, hg, q, (setRow_other w g' g _ he).trans hf⟩
theorem VS.later {X w w' : World} {m : Nat} {x : Value} (h : VS X m x w) (hb : Below w.heap.size w w') : VS X m x w' := by
  obtain ⟨g, e, hg, hf⟩ := h
  exact ⟨g, e, hg, hf.later hb⟩
def R9 (i j : Nat) (v u : Value) : Prop := ((i = 12 ∧ j = 11) ∨ (i = 11 ∧ j = 12)) → v = u
theorem R9.none {i j : Nat} {v u : Value} (h : ¬ ((i = 12 ∧ j = 11) ∨ (i = 11 ∧ j = 12))) : R9 i j v u := fun h' => absurd h' h
set_option maxRecDepth 100000 in
set_option maxHeartbeats 4000000 in
theorem sums_walk (a0 : Option Addr) (cap : Nat) (vs : List Int) (w : World) (hr : Row w (.slice a0 vs.length cap) 2 vs.length (cells vs)) (hm : vs.length ≤ 9223372036854775807) :
    Calls Try.prog 8 #[.slice a0 vs.length cap] w fun e w' => e = .returned (.bool true) ∧ Below w.heap.size w w' := by
  obtain ⟨i0, hi, hz0, hz1, hz2⟩ := info_parts infoW
  have hz := zero_any
  have HR := Lib.hid hr
  clear hr
  go_enter Try.func8, Try.ntmps8
  go_wp2_with (go_at_call 24; refine (wide_speaks _).mono ?_; rintro e w1 ⟨rfl, hb1⟩)
  have hg4 : Rw (w1.alloc (.cells (rowF fun _ => false) TB)) w1.heap.size 0 := by
    have h0 : row 0 = rowF fun _ => false := rowF_congr fun i _ => by simp
    unfold Rw; rw [h0]; exact heap_alloc_new _ _
  have HS0 : Hid (SI w vs w1.heap.size 0 (.slice none 0 0) (w1.alloc (.cells (rowF fun _ => false) TB))) := Lib.hid ⟨owns_nil _ _ _ _, hg4, hb1.alloc hb1.size _, (by simp [Value.ownBlock]), hb1.size⟩
  generalize w1.alloc (.cells (rowF fun _ => false) TB) = w2 at *
  generalize w1.heap.size = g4 at *
  clear hg4 hb1
  go_loopw [3, 5] (fun va i wr => ∃ k : Nat, k ≤ vs.length ∧ k ≤ 12 ∧ i = .int .i64 k ∧ Hid (SI w vs g4 k va wr)) (fun _ i _ => 12 - (intOf i).toNat)
  case atStart => exact ⟨0, by omega, by omega, rfl, HS0⟩
  case round =>
    obtain ⟨k, hk, hk12, rfl, hI⟩ := hrel
    clear HS0
    by_cases hlt : k < vs.length ∧ k < 12
    · obtain ⟨hl1, hl2⟩ := hlt
      obtain ⟨b, off, cap', ea, hc⟩ := HR.out.pos (by omega)
      simp only [Value.slice.injEq] at ea
      obtain ⟨rfl, -, rfl⟩ := ea
      obtain ⟨v, hv⟩ : ∃ v, vs[k]? = some v := ⟨_, List.getElem?_eq_getElem hl1⟩
      have hcl := cells_at vs k v hv
      have gw0 := (hc (k * 2) (by omega)).trans hcl.1
      have gw1 := (hc (k * 2 + 1) (by omega)).trans hcl.2
      have c0 := cell_later hI.out.bel gw0
      have c1 := cell_later hI.out.bel gw1
      rw [← Nat.add_assoc] at c1
      have hbl := World.block_lt_of_cell? wr _ c0
      have HV := Lib.hid hv; have HC0 := Lib.hid c0; have HC1 := Lib.hid c1
      clear hcl gw0 gw1 hc hv
      go_wp2
      have X0 := Lib.hid (cell_later ((Below.refl wr.heap.size wr).alloc (Nat.le_refl _) (.cells (enc v).toArray TW)) HC0.out)
      have X1 := Lib.hid (cell_later ((Below.refl wr.heap.size wr).alloc (Nat.le_refl _) (.cells (enc v).toArray TW)) HC1.out)
      have XF := Lib.hid (Flds.new wr TW (enc v))
      have XB := Lib.hid ((Below.refl wr.heap.size wr).alloc (Nat.le_refl _) (.cells (enc v).toArray TW))
      have XL := Lib.hid (show wr.heap.size < (wr.alloc (.cells (enc v).toArray TW)).heap.size by simp)
      have hd0 : (0 : Int) ≤ (k : Int) := by omega
      have hd1 : (k : Int) < (vs.length : Int) := by omega
      clear c0 c1 hbl
      unfold enc at X0 X1 XF XB XL
      generalize wr.alloc (.cells #[.int .i64 (hiW v), .int .u64 (loW v)] TW) = X at *
      --REGION9
      refine ags.region_ag (fun W1 => Below X.heap.size X W1) R9
        [.val (.slice (some ⟨b, off, none⟩) vs.length cap), .val (.int .i64 k), .val (.pointer (some ⟨b, off + k * 2, none⟩)), .val (.pointer (some ⟨b, off + k * 2, none⟩)), .val (.int .i64 (hiW v)), .val (.slice (some ⟨b, off, none⟩) vs.length cap), .val (.int .i64 k), .val (.pointer (some ⟨b, off + k * 2, none⟩)), .val (.pointer (some ⟨b, off + k * 2 + 1, none⟩)), .val (.int .u64 (loW v)), .sat (fun x _ => x = .agg (row (nv v))) (fun _ w w' => Below w.heap.size w w'), .sat (VA X) (fun _ w w' => Below w.heap.size w w'), .sat (VS X (nv v)) (TS9 X (nv v))]
        (by kernel_rfl) (by kernel_rfl) rfl (⟨rfl, rfl, rfl, Nat.le_refl _, fun _ _ => rfl⟩) ?hst9 ?hk9 ?hwalk9
      case hst9 =>
        simp only [ags.Stab, ags.Row2, ags.Ok2, and_true]
        repeat' apply And.intro
        all_goals first
          | exact fun h => absurd rfl h
          | exact fun _ _ f v W W' hS hv _ ht => hv
          | exact fun _ _ f v W W' hS hv _ ht => hv.later ht
          | exact fun _ _ f v W W' hS hv _ ht => hv.stored ht
          | exact fun _ h => (Bool.false_ne_true (h.symm.trans (by kernel_rfl))).elim
          | trivial
      case hk9 =>
        simp only [ags.Keeps, and_true]
        repeat' apply And.intro
        all_goals first
          | exact fun f W1 W2 hS _ ht => hS.trans (ht.mono hS.size)
          | exact fun f W1 W2 hS _ ⟨g, _, hg, e⟩ => e ▸ below_setRow hS hg _
      case hwalk9 =>
        refine ags.walk_val (by rfl) (fun W1 hS hE => ?_) ?_
        rotate_left; simp only [Act.put, List.setIfInBounds_toArray, List.set_cons_zero, List.set_cons_succ]; rotate_left
        · skip
          clear hS hE
          refine ags.reg ?_
          go_simp
          try exact ⟨rfl, rfl⟩
        refine ags.walk_val (by rfl) (fun W1 hS hE => ?_) ?_
        rotate_left; simp only [Act.put, List.setIfInBounds_toArray, List.set_cons_zero, List.set_cons_succ]; rotate_left
        · skip
          clear hS hE
          refine ags.reg ?_
          go_simp
          try exact ⟨rfl, rfl⟩
        refine ags.walk_val (by rfl) (fun W1 hS hE => ?_) ?_
        rotate_left; simp only [Act.put, List.setIfInBounds_toArray, List.set_cons_zero, List.set_cons_succ]; rotate_left
        · skip
          clear hS hE
          refine ags.reg ?_
          go_simp
          try exact ⟨rfl, rfl⟩
        refine ags.walk_val (by rfl) (fun W1 hS hE => ?_) ?_
        rotate_left; simp only [Act.put, List.setIfInBounds_toArray, List.set_cons_zero, List.set_cons_succ]; rotate_left
        · skip
          clear hS hE
          refine ags.reg ?_
          go_simp
          try exact ⟨rfl, rfl⟩
        refine ags.walk_val (by rfl) (fun W1 hS hE => ?_) ?_
        rotate_left; simp only [Act.put, List.setIfInBounds_toArray, List.set_cons_zero, List.set_cons_succ]; rotate_left
        · have e0 := cell_later hS X0.out
          clear hS hE
          refine ags.reg ?_
          go_simp
          try exact ⟨rfl, rfl⟩
        refine ags.walk_val (by rfl) (fun W1 hS hE => ?_) ?_
        rotate_left; simp only [Act.put, List.setIfInBounds_toArray, List.set_cons_zero, List.set_cons_succ]; rotate_left
        · skip
          clear hS hE
          refine ags.reg ?_
          go_simp
          try exact ⟨rfl, rfl⟩
        refine ags.walk_val (by rfl) (fun W1 hS hE => ?_) ?_
        rotate_left; simp only [Act.put, List.setIfInBounds_toArray, List.set_cons_zero, List.set_cons_succ]; rotate_left
        · skip
          clear hS hE
          refine ags.reg ?_
          go_simp
          try exact ⟨rfl, rfl⟩
        refine ags.walk_val (by rfl) (fun W1 hS hE => ?_) ?_
        rotate_left; simp only [Act.put, List.setIfInBounds_toArray, List.set_cons_zero, List.set_cons_succ]; rotate_left
        · skip
          clear hS hE
          refine ags.reg ?_
          go_simp
          try exact ⟨rfl, rfl⟩
        refine ags.walk_val (by rfl) (fun W1 hS hE => ?_) ?_
        rotate_left; simp only [Act.put, List.setIfInBounds_toArray, List.set_cons_zero, List.set_cons_succ]; rotate_left
        · skip
          clear hS hE
          refine ags.reg ?_
          go_simp
          try exact ⟨rfl, rfl⟩
        refine ags.walk_val (by rfl) (fun W1 hS hE => ?_) ?_
        rotate_left; simp only [Act.put, List.setIfInBounds_toArray, List.set_cons_zero, List.set_cons_succ]; rotate_left
        · have e0 := cell_later hS X1.out
          clear hS hE
          refine ags.reg ?_
          go_simp
          try exact ⟨rfl, rfl⟩
        refine ags.walk_sat (by rfl) (fun W1 hS hE => ?_) (fun y1 => ?_)
        rotate_left; simp only [Act.put, List.setIfInBounds_toArray, List.set_cons_zero, List.set_cons_succ]; rotate_left
        · clear hS hE
          refine ags.reg ?_
          go_simp
          refine (of_nv v _).mono ?_
          rintro e W2 ⟨rfl, hb⟩
          exact ⟨_, rfl, rfl, hb, fun h => absurd rfl h, fun _ _ u _ _ _ => R9.none (by omega), fun _ _ u _ _ _ => R9.none (by omega), trivial⟩
        refine ags.walk_sat (by rfl) (fun W1 hS hE => ?_) (fun y2 => ?_)
        rotate_left; simp only [Act.put, List.setIfInBounds_toArray, List.set_cons_zero, List.set_cons_succ]; rotate_left
        · have hz1 := hS.size
          clear hS hE
          refine ags.reg ?_
          go_simp
          exact ⟨⟨W1.heap.size, rfl, hz1, _, heap_alloc_new _ _⟩, (Below.refl _ _).alloc (Nat.le_refl _) _, fun _ _ u _ _ _ => R9.none (by omega), fun h => absurd rfl h, fun _ h => (Bool.false_ne_true (Eq.trans (Eq.symm (by kernel_rfl)) h)).elim, trivial⟩
        refine ags.walk_sat (by rfl) (fun W1 hS hE => ?_) (fun y3 => ?_)
        rotate_left; simp only [Act.put, List.setIfInBounds_toArray, List.set_cons_zero, List.set_cons_succ]; rotate_left
        · have h11 : VA X y2 W1 := hE.get (by kernel_rfl)
          have hb : y1 = .agg (row (nv v)) := hE.tail.get (by kernel_rfl)
          clear hE
          subst hb
          obtain ⟨g, rfl, hg, q, hf⟩ := h11
          have hrun := run_storeRow W1 g (nv v) q hf
          have hf2 := setRow_heap W1 g _ (row (nv v)) _ _ hf
          have HF := Lib.hid hf2
          clear hS hf hf2
          refine ags.sto (.pointer (some ⟨g, 0, none⟩)) rfl ?_
          go_simp
          rw [if_pos (row_size _)]
          try rw [hrun]
          exact ⟨⟨g, rfl, hg, HF.out⟩, ⟨g, (ags.lookX_filter (by kernel_rfl) _).trans rfl, hg, rfl⟩, fun _ _ u _ _ _ => R9.none (by omega), fun _ _ u _ _ he => (fun _ => (he (11, .pointer (some ⟨g, 0, none⟩)) (List.mem_filter.2 ⟨by simp, by kernel_rfl⟩) rfl).symm), fun h => absurd rfl h, trivial⟩
        refine ags.walk_nil (fun w7 hS hF' hP => ?_)
        obtain ⟨h12, h11, h10, -⟩ := hF'
        have s1 := hP.1 (11, y2) (by simp)
        have e1 : y2 = y3 := s1.elim (fun r => (r (by omega)).symm) (fun r => r (by omega))
        clear hP s1 h11
        subst e1 h10
        obtain ⟨g7, rfl, lg7, hf7⟩ := h12
        have hX := XB.out
        have hb7 : Below wr.heap.size wr w7 := hX.trans (hS.mono hX.size)
        have HM : Hid (SM w vs g4 wr.heap.size g7 v k (ms (vs.take k)) u3 w7) := Lib.hid
          { own := owns_only hI.out.own (below_only hb7) (fun _ _ h => h), sum := hI.out.sum.later hb7, f6 := XF.out.later hS, r7 := hf7, bel := hI.out.bel.trans (hb7.mono hI.out.bel.size), ap := hI.out.ap
            new := ⟨hI.out.new, hI.out.bel.size, by have := hI.out.bel.size; have := XL.out; omega⟩
            a6 := fun e => by have := (hI.out.own.lt _ e).2; omega
            a7 := fun e => by have := (hI.out.own.lt _ e).2; have := XL.out; omega
            ne := ⟨by have := hI.out.sum.lt; omega, by have := hI.out.sum.lt; have := XL.out; omega⟩ }
        clear hS hX hb7 hf7 XF XB XL X0 X1 HC0 HC1 hI lg7
        generalize wr.heap.size = g6 at *
        obtain ⟨c60, c61⟩ : w7.cell? ⟨g6, 0, none⟩ = some (.int .i64 (hiW v)) ∧ w7.cell? ⟨g6, 1, none⟩ = some (.int .u64 (loW v)) := ⟨HM.out.f6.cell 0, HM.out.f6.cell 1⟩
        have l6 := HM.out.f6.lt
        have HMa := Lib.hid (HM.out.later ((Below.refl w7.heap.size w7).alloc (Nat.le_refl _) (.cells (wide.enc v).toArray TW)))
        have HRow := Lib.hid (Row.of_flds (m := 1) (size := 2) (Flds.new w7 TW (wide.enc v)) rfl 1)
        have hone : ∀ u ∈ wide.enc v, u.oneCell' = true := by unfold wide.enc; simp [Value.oneCell']
        have HONE := Lib.hid hone
        have h63 : k + 1 ≤ maxLen := by unfold maxLen; omega
        have h64 : (k + 1) * 16 ≤ 140737488355328 := by omega
        have HBs := Lib.hid (HMa.out.bel.size)
        clear hone
        unfold wide.enc at HMa HRow HBs
        go_wp2_with (at_builtin; refine wpList_append_row _ rfl (.tmp 44) (.tmp 46) 45 (by rfl) w.heap.size TW i0 (.agg #[.int .i64 0, .int .u64 0]) 2 16 Try.underlying45 hi hz0 hz1 hz2 rfl (by decide) u3 k (cells (vs.take k)) (by rfl) HMa.out.own (.slice (some ⟨w7.heap.size, 0, none⟩) 1 1) 1 (wide.enc v) (by rfl) HRow.out HONE.out h63 h64 HBs.out ?_)
        intro a8 c8 w8 hap
        have HM8 := Lib.hid (HMa.out.grow HV.out hap)
        clear hap HMa HRow HBs h63 h64 HM c60 c61 l6 HONE
        have q4 := HM8.out.sum
        have q7 := HM8.out.r7
        have HPL := Lib.hid (fun W => plus_ref (ms (vs.take k)) (nv v) W)
        go_wp2_with (first | (refine wpList_load_row rfl _ _ rfl g4 rfl _ _ _ _ HM8.out.sum Try.underlying47 rfl (by rw [row_size]; exact size_any) ?_) | (refine wpList_load_row rfl _ _ rfl g7 rfl _ _ _ _ HM8.out.r7 Try.underlying47 rfl (by rw [row_size]; exact size_any) ?_))
        obtain ⟨I, B, h1, h2⟩ : ∃ I B, (∀ W, Calls Try.prog 27 #[.agg #[.int .i64 (hiW v), .int .u64 (loW v)]] W fun e w' => e = .returned (.tuple #[.int .i64 I, .bool B]) ∧ Below W.heap.size W w') ∧ (∀ W, Calls Try.prog 28 #[.agg (row (nv v))] W fun e w' => e = .returned (.tuple #[.int .i64 I, .bool B]) ∧ Below W.heap.size W w') := ⟨_, _, fun W => int_of v W, fun W => int_ref (nv v) W⟩
        obtain ⟨K, hK, h3, h4⟩ : ∃ K : ByteArray, K.size = 16 ∧ (∀ W, Calls Try.prog 30 #[.agg #[.int .i64 (hiW v), .int .u64 (loW v)]] W fun e w' => e = .returned (.string K) ∧ Below W.heap.size W w') ∧ (∀ W, Calls Try.prog 29 #[.string K] W fun e w' => e = .returned (.tuple #[.agg #[.int .i64 (hiW v), .int .u64 (loW v)], .int .i64 0]) ∧ Below W.heap.size W w') := ⟨_, keyB_size v, fun W => key_of v W, fun W => get_of v W⟩
        have hK1 : ((K.size : Int) != 16) = false := by rw [hK]; rfl
        have H1 := Lib.hid h1; have H2 := Lib.hid h2; have H3 := Lib.hid h3; have H4 := Lib.hid h4
        clear h1 h2 h3 h4 hK q4 q7
        (with_reducible refine (HPL.out _).mono ?_); rintro e w9 ⟨rfl, hb⟩
        have HMb := Lib.hid (HM8.out.later hb)
        have HM9 := Lib.hid (HMb.out.set4 (ms (vs.take k) + nv v))
        clear hb
        go_upto_region 12 with (refine wpList_store_row rfl _ _ _ rfl g4 _ rfl rfl _ _ HMb.out.sum (by rw [row_size]; exact size_any) (by rw [row_size, row_size]) (row_one _) ?_)
        generalize w9.setRow g4 (row (ms (vs.take k) + nv v)) = wa at *
        obtain ⟨c60, c61⟩ : wa.cell? ⟨g6, 0, none⟩ = some (.int .i64 (hiW v)) ∧ wa.cell? ⟨g6, 1, none⟩ = some (.int .u64 (loW v)) := ⟨HM9.out.f6.cell 0, HM9.out.f6.cell 1⟩
        have l6 := HM9.out.f6.lt
        clear HMb HM8 l6
        go_wp2_with fail
        (with_reducible refine (H1.out _).mono ?_); rintro e wb ⟨rfl, hb⟩
        have HMc := Lib.hid (HM9.out.later hb)
        clear hb c60 c61
        obtain ⟨c60, c61⟩ : wb.cell? ⟨g6, 0, none⟩ = some (.int .i64 (hiW v)) ∧ wb.cell? ⟨g6, 1, none⟩ = some (.int .u64 (loW v)) := ⟨HMc.out.f6.cell 0, HMc.out.f6.cell 1⟩
        go_wp2_with (refine wpList_load_row rfl _ _ rfl g7 rfl _ _ _ _ HMc.out.r7 Try.underlying47 rfl (by rw [row_size]; exact size_any) ?_)
        (with_reducible refine (H2.out _).mono ?_); rintro e wc ⟨rfl, hb⟩
        have HMd := Lib.hid (HMc.out.later hb)
        clear hb c60 c61
        obtain ⟨c60, c61⟩ : wc.cell? ⟨g6, 0, none⟩ = some (.int .i64 (hiW v)) ∧ wc.cell? ⟨g6, 1, none⟩ = some (.int .u64 (loW v)) := ⟨HMd.out.f6.cell 0, HMd.out.f6.cell 1⟩
        go_wp2_with fail
        (with_reducible refine (H3.out _).mono ?_); rintro e wd ⟨rfl, hb⟩
        have HMe := Lib.hid (HMd.out.later hb)
        clear hb c60 c61
        obtain ⟨c60, c61⟩ : wd.cell? ⟨g6, 0, none⟩ = some (.int .i64 (hiW v)) ∧ wd.cell? ⟨g6, 1, none⟩ = some (.int .u64 (loW v)) := ⟨HMe.out.f6.cell 0, HMe.out.f6.cell 1⟩
        go_wp2_with fail
        (with_reducible refine (H4.out _).mono ?_); rintro e we ⟨rfl, hb⟩
        have HMf := Lib.hid (HMe.out.later hb)
        clear hb c60 c61
        obtain ⟨c60, c61⟩ : we.cell? ⟨g6, 0, none⟩ = some (.int .i64 (hiW v)) ∧ we.cell? ⟨g6, 1, none⟩ = some (.int .u64 (loW v)) := ⟨HMf.out.f6.cell 0, HMf.out.f6.cell 1⟩
        have F12 := Flds.new we TW (wide.enc v)
        have HMg := Lib.hid (HMf.out.later ((Below.refl we.heap.size we).alloc (Nat.le_refl _) (.cells (wide.enc v).toArray TW)))
        have l6 := HMf.out.f6.lt
        clear F12
        unfold wide.enc at HMg
        go_wp2_with fail
        generalize we.alloc (.cells #[.int .i64 (hiW v), .int .u64 (loW v)] TW) = wf at *
        (with_reducible refine (H3.out _).mono ?_); rintro e wg ⟨rfl, hb⟩
        have HMh := Lib.hid (HMg.out.later hb)
        clear hb c60 c61 l6
        go_wp2
        refine ⟨⟨k + 1, by omega, by omega, by go_num, Lib.hid (HMh.out.done HV.out)⟩, by simp [intOf]; omega⟩
      --END9
      --AFTER9
      --ENDAFTER9
    · have hk0 : (vs.take k).length = k := by rw [List.length_take]; omega
      have HPL := Lib.hid (fun W h => plus_own (vs.take k) k hk0 (by omega) u3 w.heap.size W h)
      have HHV := Lib.hid (fun W => halves_of (vs.take k) W)
      obtain ⟨S, hS⟩ : ∃ S, S = (vs.take k).sum := ⟨_, rfl⟩
      rw [← hS] at HPL HHV
      clear hS hk0 hz
      rcases (show (vs.length ≤ k) ∨ (k < vs.length ∧ 12 ≤ k) by omega) with hc | ⟨hc, hc'⟩
      all_goals
        clear hlt
        go_wp2_with fail
        (with_reducible refine (HPL.out _ hI.out.own).mono ?_); rintro e wa ⟨rfl, hb⟩
        have q4 := Lib.hid ((hI.out.sum.later hb).later ((Below.refl wa.heap.size wa).alloc (Nat.le_refl _) (.cells (wide.enc S).toArray TW)))
        have hB := Lib.hid (((hI.out.bel.trans (hb.mono hI.out.bel.size)).alloc (Nat.le_trans hI.out.bel.size hb.size) (.cells (wide.enc S).toArray TW)))
        have hF := Lib.hid (Flds.new wa TW (wide.enc S))
        clear hb
        unfold wide.enc at q4 hB hF
        go_upto_region 18 with fail
        generalize wa.alloc (.cells #[.int .i64 (hiW S), .int .u64 (loW S)] TW) = wb at *
        generalize wa.heap.size = g14 at *
        go_wp2_with (refine wpList_load_row rfl _ _ rfl g4 rfl _ _ _ _ q4.out Try.underlying47 rfl (by rw [row_size]; exact size_any) ?_)
        (with_reducible refine (HHV.out _).mono ?_); rintro e wc ⟨rfl, hb⟩
        obtain ⟨c0, c1⟩ : wc.cell? ⟨g14, 0, none⟩ = some (.int .i64 (hiW S)) ∧ wc.cell? ⟨g14, 1, none⟩ = some (.int .u64 (loW S)) := ⟨(hF.out.later hb).cell 0, (hF.out.later hb).cell 1⟩
        have HE := Lib.hid (hB.out.trans (hb.mono hB.out.size))
        clear hb
        go_wp2
        go_ret
        exact ⟨by simp, HE.out⟩
end Go.Proofs.Ytdobihnlegfkaaa.wb
