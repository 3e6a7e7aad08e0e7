/- The law AggTurns, walked. -/
import Derived.Test.YtmbafcfoboknkaaAggK
import Derived.Test.YtmbafcfoboknkaaAggM
namespace Go.Proofs.Ytmbafcfoboknkaa.agr
set_option linter.unusedVariables false
open Go.RowKit val
theorem r_at {w : World} {a : Option Addr} {cap n : Nat} {l : List Rw} {k : Nat} {x : Rw} (hv : Row w (.slice a n cap) 7 n (rCells l)) (hk : k < n) (hx : l[k]? = some x) :
    ∃ b off, a = some ⟨b, off, none⟩ ∧ ∀ wq, Below w.heap.size w wq → wq.cell? ⟨b, off + k * 7, none⟩ = some (.int .u8 x.g) ∧ wq.cell? ⟨b, off + k * 7 + 1, none⟩ = some (.int .u8 x.ak) ∧ wq.cell? ⟨b, off + k * 7 + 2, none⟩ = some (.int .i64 x.an) ∧ wq.cell? ⟨b, off + k * 7 + 3, none⟩ = some (.string x.ta) ∧ wq.cell? ⟨b, off + k * 7 + 4, none⟩ = some (.int .u8 x.bk) ∧ wq.cell? ⟨b, off + k * 7 + 5, none⟩ = some (.int .i64 x.bn) ∧ wq.cell? ⟨b, off + k * 7 + 6, none⟩ = some (.string x.tb) ∧ b < wq.heap.size := by
  obtain ⟨b, off, cap', ea, hcell⟩ := hv.pos (by omega)
  simp only [Value.slice.injEq] at ea
  obtain ⟨rfl, -, rfl⟩ := ea
  refine ⟨b, off, rfl, fun wq hb => ?_⟩
  have g := fun r (hr : r < 7) => cell_later hb ((hcell (k * 7 + r) (by omega)).trans ((rCells_at l k _ hx r hr).trans (List.getElem?_eq_getElem (by simpa [rCell] using hr))))
  have g0 := g 0 (by decide)
  exact ⟨g0, by have h := g 1 (by decide); rw [← Nat.add_assoc] at h; exact h, by have h := g 2 (by decide); rw [← Nat.add_assoc] at h; exact h, by have h := g 3 (by decide); rw [← Nat.add_assoc] at h; exact h, by have h := g 4 (by decide); rw [← Nat.add_assoc] at h; exact h, by have h := g 5 (by decide); rw [← Nat.add_assoc] at h; exact h, by have h := g 6 (by decide); rw [← Nat.add_assoc] at h; exact h, World.block_lt_of_cell? _ _ g0⟩
def Told2 (x : Rw) (w : World) (e : Ending) (w' : World) : Prop := ∃ gr gx gd gv, e = .returned (.tuple #[.agg #[.slice (some ⟨gr, 0, none⟩) 1 1, .int .i64 1, .slice (some ⟨gx, 0, none⟩) 2 2], .agg #[.slice (some ⟨gd, 0, none⟩) 1 1, .slice (some ⟨gv, 0, none⟩) 2 2]]) ∧ Row w' (.slice (some ⟨gx, 0, none⟩) 2 2) 9 2 (oCells (po2 x)) ∧ Below w.heap.size w w'
theorem told2 (x : Rw) (hx : RB x) (w : World) : Calls Try.prog 6 #[.agg #[.int .u8 x.g, .int .u8 x.ak, .int .i64 x.an, .string x.ta, .int .u8 x.bk, .int .i64 x.bn, .string x.tb]] w (Told2 x w) := by
  refine (told_any x hx w).mono ?_
  rintro e w' ⟨v, d, rfl, ⟨gr, gx, rfl, h1, h2⟩, ⟨gd, gv, rfl, h3, h4⟩, hb⟩
  exact ⟨gr, gx, gd, gv, rfl, h2, hb⟩
/-- the two boxes -/
def TB (w : World) (g3 g4 : Nat) (r : Int) (la lb : List On) (W : World) : Prop := ∃ ga gb, Flds W g3 TPt [.int .i64 r, .slice (some ⟨ga, 0, none⟩) 2 2] ∧ Flds W g4 TPt [.int .i64 r, .slice (some ⟨gb, 0, none⟩) 2 2] ∧ Row W (.slice (some ⟨ga, 0, none⟩) 2 2) 9 2 (oCells la) ∧ Row W (.slice (some ⟨gb, 0, none⟩) 2 2) 9 2 (oCells lb) ∧ Below w.heap.size w W ∧ w.heap.size ≤ g3 ∧ w.heap.size ≤ g4 ∧ g3 ≠ g4
theorem TB.later {w W W' : World} {g3 g4 : Nat} {r : Int} {la lb : List On} (h : TB w g3 g4 r la lb W) (hb : Below W.heap.size W W') : TB w g3 g4 r la lb W' := by
  obtain ⟨ga, gb, h1, h2, h3, h4, h5, h6⟩ := h
  exact ⟨ga, gb, h1.later hb, h2.later hb, h3.later hb, h4.later hb, h5.trans (hb.mono h5.size), h6⟩
attribute [local go_sem high] run_min_keep
set_option maxRecDepth 100000 in
set_option maxHeartbeats 8000000 in
theorem turns_walk (a : Option Addr) (n c : Nat) (l : List Rw) (hl : l.length = n) (hn1 : n ≤ 9223372036854775807) (w : World) (hr : Row w (.slice a n c) 7 n (rCells l)) (hok : ∀ x ∈ l, RB x) :
    Calls Try.prog 4 #[.slice a n c] w fun en w' => en = .returned (.bool true) ∧ Below w.heap.size w w' := by
  have HR := Lib.hid hr
  have HL := Lib.hid hl
  have HK := Lib.hid hok
  have z1 : (0 : Int) ≤ (n : Int) := by omega
  have z2 : (n : Int) ≤ 9223372036854775807 := by omega
  have HSP := Lib.hid (speaks_any w)
  clear hr hl hok
  go_enter Try.func4, Try.ntmps4
  go_upto_region 3 with (go_at_call 5; refine HSP.out.mono ?_; rintro ee w1 ⟨rfl, hb1⟩; have HB1 := Lib.hid hb1; clear hb1)
  have HNO := Lib.hid (fun (W : World) => show Calls Try.prog 15 #[.int .i64 2] W (NonePost 2 W) from none_any 2 (by decide) W)
  go_upto_region 4 with (first
    | (go_at_call 15; (with_reducible refine (HNO.out w1).mono ?_); rintro ee w2 ⟨ga, rfl, hoa, hb2⟩; have HOA := Lib.hid (Row.of_owns hoa); have HB2 := Lib.hid hb2; clear hoa hb2)
    | (go_at_call 15; (with_reducible refine (HNO.out w2).mono ?_); rintro ee w3 ⟨gb, rfl, hob, hb3⟩; have HOB := Lib.hid (Row.of_owns hob); have HB3 := Lib.hid (HB2.out.trans (hb3.mono HB2.out.size)); have HOA := Lib.hid (HOA.out.later hb3); clear hob hb3))
  obtain ⟨W4, hW4⟩ : ∃ W, w3.alloc (.cells #[.int .i64 0, .slice (some ⟨ga, 0, none⟩) 2 2] TPt) = W := ⟨_, rfl⟩
  obtain ⟨g3, hg3⟩ : ∃ g, w3.heap.size = g := ⟨_, rfl⟩
  obtain ⟨W5, hW5⟩ : ∃ W, W4.alloc (.cells #[.int .i64 0, .slice (some ⟨gb, 0, none⟩) 2 2] TPt) = W := ⟨_, rfl⟩
  obtain ⟨g4, hg4⟩ : ∃ g, g3 + 1 = g := ⟨_, rfl⟩
  have hb4 : Below w3.heap.size w3 W4 := by rw [← hW4]; exact (Below.refl _ _).alloc (Nat.le_refl _) _
  have hf4 : Flds W4 g3 TPt [.int .i64 0, .slice (some ⟨ga, 0, none⟩) 2 2] := by rw [← hW4, ← hg3]; exact Flds.new w3 _ _
  have e4 : W4.heap.size = g4 := by rw [← hW4, World.size_alloc, hg3]; exact hg4
  have hb5 : Below W4.heap.size W4 W5 := by rw [← hW5]; exact (Below.refl _ _).alloc (Nat.le_refl _) _
  have hf5 : Flds W5 g4 TPt [.int .i64 0, .slice (some ⟨gb, 0, none⟩) 2 2] := by rw [← hW5, ← e4]; exact Flds.new W4 _ _
  obtain ⟨m, hm⟩ : ∃ m, min n 30 = m := ⟨_, rfl⟩
  obtain ⟨ps, hps⟩ : ∃ ps, l.take m = ps := ⟨_, rfl⟩
  have HPL := Lib.hid (show ps.length = m by rw [← hps, List.length_take, HL.out]; omega)
  have HM := Lib.hid hm
  have HPS := Lib.hid (show ∀ x ∈ ps, RB x from fun x hx => HK.out x (by rw [← hps] at hx; exact List.mem_of_mem_take hx))
  have HPG := Lib.hid (show ∀ j, j < m → ps[j]? = l[j]? from fun j hj => by rw [← hps, List.getElem?_take_of_lt hj])
  have HT0 := Lib.hid (show TB w1 g3 g4 ((0 : Nat) : Int) (fo2 (ps.take 0)) (fo2 (ps.drop (m - 0))) W5 from by
    rw [List.drop_of_length_le (by rw [HPL.out]; omega)]
    exact ⟨ga, gb, hf4.later hb5, hf5, (HOA.out.later hb4).later hb5, (HOB.out.later hb4).later hb5, HB3.out.trans ((hb4.trans (hb5.mono hb4.size)).mono HB3.out.size), by rw [← hg3]; exact HB3.out.size, by have := HB3.out.size; omega, by omega⟩)
  rw [hW4, hW5]
  try rw [hg3, hg4]
  clear hW4 hW5 hg3 hg4 hb4 hf4 e4 hb5 hf5 hm hps HOA HOB HB2 HB3 HNO HSP
  go_wp2_with fail
  go_loopw [5] (fun iv wr => ∃ i : Nat, iv = .int .i64 (i : Int) ∧ i ≤ m ∧ Hid (TB w1 g3 g4 (i : Int) (fo2 (ps.take i)) (fo2 (ps.drop (m - i))) wr)) (fun iv _ => 30 - (intOf iv).toNat)
  case atStart => exact ⟨0, rfl, Nat.zero_le _, HT0⟩
  case round =>
    obtain ⟨i, rfl, hi, HT⟩ := hrel
    have i0 : (0 : Int) ≤ (i : Int) := by omega
    have hmn := HM.out
    by_cases hlt : i < m
    · have d1 : (i : Int) < (n : Int) := by omega
      have d2 : (i : Int) < 30 := by omega
      have hju : i < ps.length := by rw [HPL.out]; exact hlt
      have hx := List.getElem?_eq_getElem hju
      generalize ps[i] = x at hx
      have hjv : m - 1 - i < ps.length := by rw [HPL.out]; omega
      have hy := List.getElem?_eq_getElem hjv
      generalize ps[m - 1 - i] = y at hy
      have HXB := Lib.hid (HPS.out x (List.mem_of_getElem? hx))
      have HYB := Lib.hid (HPS.out y (List.mem_of_getElem? hy))
      obtain ⟨b, off, ea, hcx⟩ := r_at HR.out (k := i) (by omega) ((HPG.out i hlt).symm.trans hx)
      subst ea
      obtain ⟨b', off', ea, hcy⟩ := r_at HR.out (k := m - 1 - i) (by omega) ((HPG.out (m - 1 - i) (by omega)).symm.trans hy)
      simp only [Option.some.injEq, Addr.mk.injEq, and_true] at ea
      obtain ⟨rfl, rfl⟩ := ea
      have HSA := Lib.hid (step_a HPS.out hx)
      have HSB := Lib.hid (step_b HPL.out hlt hy)
      have hbel : Below w1.heap.size w1 wr := by obtain ⟨_, _, -, -, -, -, h, -⟩ := HT.out; exact h
      have HBW := Lib.hid (HB1.out.trans (hbel.mono HB1.out.size))
      obtain ⟨q, hq⟩ : ∃ q, m - 1 - i = q := ⟨_, rfl⟩
      have hqi : min (n : Int) 30 - 1 - (i : Int) = (q : Int) := by omega
      have hqt : (min (n : Int) 30 - 1 - (i : Int)).toNat = q := by omega
      have hq0 : (0 : Int) ≤ min (n : Int) 30 - 1 - (i : Int) := by omega
      have hq1 : min (n : Int) 30 - 1 - (i : Int) < (n : Int) := by omega
      rw [hq] at hcy
      have HCY := Lib.hid hcy
      obtain ⟨e0, e1, e2, e3, e4, e5, e6, el⟩ := hcx wr HBW.out
      have HTX := Lib.hid (told2 x HXB.out wr)
      clear hx hy hju hjv hcx hcy hbel hlt hq
      go_upto_region 8 with (go_at_call 6; (with_reducible refine HTX.out.mono ?_); rintro ee w6 ⟨gr, gx, gd, gv, rfl, hrx, hb6⟩; have HRX := Lib.hid hrx; have HB6 := Lib.hid hb6; clear hrx hb6 e0 e1 e2 e3 e4 e5 e6 el)
      obtain ⟨W6, hW6⟩ : ∃ W, w6.alloc (.cells #[.slice (some ⟨gr, 0, none⟩) 1 1, .int .i64 1, .slice (some ⟨gx, 0, none⟩) 2 2] TGr) = W := ⟨_, rfl⟩
      obtain ⟨g6, hg6⟩ : ∃ g, w6.heap.size = g := ⟨_, rfl⟩
      obtain ⟨W7, hW7⟩ : ∃ W, W6.alloc (.cells #[.slice (some ⟨gd, 0, none⟩) 1 1, .slice (some ⟨gv, 0, none⟩) 2 2] TDr) = W := ⟨_, rfl⟩
      obtain ⟨g7, hg7⟩ : ∃ g, g6 + 1 = g := ⟨_, rfl⟩
      have hb5 : Below w6.heap.size w6 W6 := by rw [← hW6]; exact (Below.refl _ _).alloc (Nat.le_refl _) _
      have hf5 : Flds W6 g6 TGr [.slice (some ⟨gr, 0, none⟩) 1 1, .int .i64 1, .slice (some ⟨gx, 0, none⟩) 2 2] := by rw [← hW6, ← hg6]; exact Flds.new w6 _ _
      have hb6 : Below W6.heap.size W6 W7 := by rw [← hW7]; exact (Below.refl _ _).alloc (Nat.le_refl _) _
      have hb56 := hb5.trans (hb6.mono hb5.size)
      have HFg6 := Lib.hid (hf5.later hb6)
      have HB7 := Lib.hid (HB6.out.trans (hb56.mono HB6.out.size))
      have HRX := Lib.hid (HRX.out.later hb56)
      rw [hW6, hW7]
      try rw [hg6, hg7]
      clear hW6 hg6 hW7 hg7 hb5 hf5 hb6 hb56
      have HBW7 := Lib.hid (HBW.out.trans (HB7.out.mono HBW.out.size))
      obtain ⟨e0, e1, e2, e3, e4, e5, e6, el⟩ := HCY.out W7 HBW7.out
      have HTY := Lib.hid (told2 y HYB.out W7)
      go_upto_region 9 with (go_at_call 6; (with_reducible refine HTY.out.mono ?_); rintro ee w8 ⟨hr, hx, hd, hv, rfl, hry, hb8⟩; have HRY := Lib.hid hry; have HB8 := Lib.hid (HB7.out.trans (hb8.mono HB7.out.size)); have HB78 := Lib.hid hb8; clear hry hb8 e0 e1 e2 e3 e4 e5 e6 el)
      obtain ⟨W8, hW8⟩ : ∃ W, w8.alloc (.cells #[.slice (some ⟨hr, 0, none⟩) 1 1, .int .i64 1, .slice (some ⟨hx, 0, none⟩) 2 2] TGr) = W := ⟨_, rfl⟩
      obtain ⟨g8, hg8⟩ : ∃ g, w8.heap.size = g := ⟨_, rfl⟩
      obtain ⟨W9, hW9⟩ : ∃ W, W8.alloc (.cells #[.slice (some ⟨hd, 0, none⟩) 1 1, .slice (some ⟨hv, 0, none⟩) 2 2] TDr) = W := ⟨_, rfl⟩
      obtain ⟨g9, hg9⟩ : ∃ g, g8 + 1 = g := ⟨_, rfl⟩
      have hb5 : Below w8.heap.size w8 W8 := by rw [← hW8]; exact (Below.refl _ _).alloc (Nat.le_refl _) _
      have hf5 : Flds W8 g8 TGr [.slice (some ⟨hr, 0, none⟩) 1 1, .int .i64 1, .slice (some ⟨hx, 0, none⟩) 2 2] := by rw [← hW8, ← hg8]; exact Flds.new w8 _ _
      have hb6 : Below W8.heap.size W8 W9 := by rw [← hW9]; exact (Below.refl _ _).alloc (Nat.le_refl _) _
      have hb56 := hb5.trans (hb6.mono hb5.size)
      have HFg8 := Lib.hid (hf5.later hb6)
      have HB9 := Lib.hid (HB8.out.trans (hb56.mono HB8.out.size))
      have HB79 := Lib.hid (HB78.out.trans (hb56.mono HB78.out.size))
      have HRY := Lib.hid (HRY.out.later hb56)
      rw [hW8, hW9]
      try rw [hg8, hg9]
      clear hW8 hg8 hW9 hg9 hb5 hf5 hb6 hb56
      have HRX := Lib.hid (HRX.out.later HB79.out)
      have HFg6 := Lib.hid (HFg6.out.later HB79.out)
      have HT9 := Lib.hid (HT.out.later HB9.out)
      clear HTX HTY HB6 HB7 HB78 HB8 HCY HXB HYB hqi hqt hq0 hq1 HBW7
      obtain ⟨ga, gb, hf3, hf4, hra, hrb, hbel, hg3, hg4, hne⟩ := HT9.out
      have HTT := Lib.hid (And.intro hf3 (And.intro hf4 (And.intro hra (And.intro hrb (And.intro hbel (And.intro hg3 (And.intro hg4 hne)))))))
      have HLP := Lib.hid (And.intro (show (ps.take i).length ≤ 30 by rw [List.length_take]; omega) (show (ps.drop (m - i)).length ≤ 30 by rw [List.length_drop, HPL.out]; omega))
      have HTA := Lib.hid (show ∀ z ∈ ps.take i, RB z from fun z hz => HPS.out z (List.mem_of_mem_take hz))
      have HTD := Lib.hid (show ∀ z ∈ ps.drop (m - i), RB z from fun z hz => HPS.out z (List.mem_of_mem_drop hz))
      clear hf3 hf4 hra hrb hbel hg3 hg4 hne
      have hi30 : (i : Int) ≤ 30 := by omega
      have HP1 := Lib.hid (fun (W : World) (h1 : Row W (.slice (some ⟨ga, 0, none⟩) 2 2) 9 2 (oCells (fo2 (ps.take i)))) (h2 : Row W (.slice (some ⟨gx, 0, none⟩) 2 2) 9 2 (oCells (po2 x))) => show Calls Try.prog 16 #[.agg #[.int .i64 (i : Int), .slice (some ⟨ga, 0, none⟩) 2 2], .agg #[.int .i64 1, .slice (some ⟨gx, 0, none⟩) 2 2]] W (fun e w' => ∃ v, e = .returned v ∧ PAV ((i + 1 : Nat) : Int) (fo2 (ps.take (i + 1))) v w' ∧ Below W.heap.size W w') from by
        have h := plus_any 2 (by decide) (i : Int) 1 (some ⟨ga, 0, none⟩) (some ⟨gx, 0, none⟩) 2 2 (fo2 (ps.take i)) (po2 x) W rfl rfl h1 h2 ⟨by omega, by omega⟩ (smallN (small_fo HTA.out HLP.out.1) small_po)
        rw [HSA.out] at h
        exact h.mono (fun e w' hh => by obtain ⟨g, he, q1, q2⟩ := hh; exact ⟨_, he, ⟨g, by rw [show ((i + 1 : Nat) : Int) = (i : Int) + 1 by omega]; rfl, q1⟩, q2⟩))
      have HP2 := Lib.hid (fun (W : World) (h1 : Row W (.slice (some ⟨hx, 0, none⟩) 2 2) 9 2 (oCells (po2 y))) (h2 : Row W (.slice (some ⟨gb, 0, none⟩) 2 2) 9 2 (oCells (fo2 (ps.drop (m - i))))) => show Calls Try.prog 16 #[.agg #[.int .i64 1, .slice (some ⟨hx, 0, none⟩) 2 2], .agg #[.int .i64 (i : Int), .slice (some ⟨gb, 0, none⟩) 2 2]] W (fun e w' => ∃ v, e = .returned v ∧ PAV ((i + 1 : Nat) : Int) (fo2 (ps.drop (m - (i + 1)))) v w' ∧ Below W.heap.size W w') from by
        have h := plus_any 2 (by decide) 1 (i : Int) (some ⟨hx, 0, none⟩) (some ⟨gb, 0, none⟩) 2 2 (po2 y) (fo2 (ps.drop (m - i))) W rfl rfl h1 h2 ⟨by omega, by omega⟩ (smallN small_po (small_fo HTD.out HLP.out.2))
        rw [HSB.out] at h
        exact h.mono (fun e w' hh => by obtain ⟨g, he, q1, q2⟩ := hh; exact ⟨_, he, ⟨g, by rw [show ((i + 1 : Nat) : Int) = 1 + (i : Int) by omega]; rfl, q1⟩, q2⟩))
      have HN6 := Lib.hid (show ∀ W, Only (fun j => j = g3 ∨ j = g4) W9 W → Flds W g6 TGr [.slice (some ⟨gr, 0, none⟩) 1 1, .int .i64 1, .slice (some ⟨gx, 0, none⟩) 2 2] from fun W ho => HFg6.out.only ho (fun e => by
        have e2 : W9.heap[g6]? = _ := HFg6.out
        rcases e with e | e
        · have e1 : W9.heap[g3]? = _ := HTT.out.1
          rw [e, e1] at e2; simp at e2
        · have e1 : W9.heap[g4]? = _ := HTT.out.2.1
          rw [e, e1] at e2; simp at e2))
      have HN8 := Lib.hid (show ∀ W, Only (fun j => j = g3 ∨ j = g4) W9 W → Flds W g8 TGr [.slice (some ⟨hr, 0, none⟩) 1 1, .int .i64 1, .slice (some ⟨hx, 0, none⟩) 2 2] from fun W ho => HFg8.out.only ho (fun e => by
        have e2 : W9.heap[g8]? = _ := HFg8.out
        rcases e with e | e
        · have e1 : W9.heap[g3]? = _ := HTT.out.1
          rw [e, e1] at e2; simp at e2
        · have e1 : W9.heap[g4]? = _ := HTT.out.2.1
          rw [e, e1] at e2; simp at e2))
      have HWA := Lib.hid (fun (W : World) (ho : Only (fun j => j = g3 ∨ j = g4) W9 W) => row_skip2 HTT.out.1 HTT.out.2.1 HTT.out.2.2.1 ⟨_, _, rfl⟩ ho)
      have HWB := Lib.hid (fun (W : World) (ho : Only (fun j => j = g3 ∨ j = g4) W9 W) => row_skip2 HTT.out.1 HTT.out.2.1 HTT.out.2.2.2.1 ⟨_, _, rfl⟩ ho)
      have HWX := Lib.hid (fun (W : World) (ho : Only (fun j => j = g3 ∨ j = g4) W9 W) => row_skip2 HTT.out.1 HTT.out.2.1 HRX.out ⟨_, _, po2_is x⟩ ho)
      have HWY := Lib.hid (fun (W : World) (ho : Only (fun j => j = g3 ∨ j = g4) W9 W) => row_skip2 HTT.out.1 HTT.out.2.1 HRY.out ⟨_, _, po2_is y⟩ ho)
      refine ag.region_J (J9 W9 ⟨g3, g4, (i : Int), ((i + 1 : Nat) : Int), ga, gb, .pointer (some ⟨g6, 1, none⟩), .pointer (some ⟨g8, 1, none⟩), .agg #[.int .i64 1, .slice (some ⟨gx, 0, none⟩) 2 2], .agg #[.int .i64 1, .slice (some ⟨hx, 0, none⟩) 2 2], fo2 (ps.take (i + 1)), fo2 (ps.drop (m - (i + 1)))⟩) (by kernel_rfl) (by kernel_rfl) ?h0 ?hI ?hend
      case h0 => exact J9.zero ((Below.refl _ _).drew) HTT.out.1 HTT.out.2.1 HTT.out.2.2.2.2.2.2.2 ⟨_, _, rfl⟩ ⟨_, _, rfl⟩
      case hI =>
        intro xs
        unfold ag.ObJ
        refine ⟨fun b W hb hw hJ => ⟨by rfl, ?_⟩, ?_⟩
        · have h8 : b 8 = false := by
            cases h : b 8 with
            | false => rfl
            | true => exact absurd (hJ.h8 h).1 (by rw [hb]; decide)
          have hf : Flds W g3 TPt [.int .i64 (i : Int), .slice (some ⟨ga, 0, none⟩) 2 2] := hJ.b3.1 h8
          have c0 := hf.cell 0; have c1 := hf.cell 1; have cl := hf.lt
          simp only [List.getElem?_cons_zero, List.getElem?_cons_succ] at c0 c1
          unfold ag.does
          go_simp
          exact hJ.step 0 (by decide) (by decide) (Below.refl _ _) rfl
        simp only [Act.put, List.setIfInBounds_toArray, List.set_cons_zero, List.set_cons_succ, Nat.reduceAdd]
        unfold ag.ObJ
        refine ⟨fun b W hb hw hJ => ⟨by rfl, ?_⟩, ?_⟩
        · unfold ag.does
          go_simp
          exact hJ.step 1 (by decide) (by decide) (Below.refl _ _) rfl
        simp only [Act.put, List.setIfInBounds_toArray, List.set_cons_zero, List.set_cons_succ, Nat.reduceAdd]
        unfold ag.ObJ
        refine ⟨fun b W hb hw hJ => ⟨by rfl, ?_⟩, ?_⟩
        · have e1 : xs 1 = .pointer (some ⟨g6, 1, none⟩) := hJ.at (hw 1 (by kernel_rfl))
          have hf := HN6.out W hJ.ho
          have c0 := hf.cell 1; have c1 := hf.cell 2; have cl := hf.lt
          simp only [List.getElem?_cons_zero, List.getElem?_cons_succ] at c0 c1
          rw [e1]
          unfold ag.does
          go_simp
          exact hJ.step 2 (by decide) (by decide) (Below.refl _ _) rfl
        simp only [Act.put, List.setIfInBounds_toArray, List.set_cons_zero, List.set_cons_succ, Nat.reduceAdd]
        unfold ag.ObJ
        refine ⟨fun b W hb hw hJ => ⟨by rfl, ?_⟩, ?_⟩
        · have e0 : xs 0 = .agg #[.int .i64 (i : Int), .slice (some ⟨ga, 0, none⟩) 2 2] := hJ.at (hw 0 (by kernel_rfl))
          have e2 : xs 2 = .agg #[.int .i64 1, .slice (some ⟨gx, 0, none⟩) 2 2] := hJ.at (hw 2 (by kernel_rfl))
          rw [e0, e2]
          unfold ag.does
          go_simp
          exact (HP1.out W (HWA.out W hJ.ho) (HWX.out W hJ.ho)).mono (fun e w' h => by obtain ⟨v, he, q1, q2⟩ := h; exact ⟨v, he, hJ.step 3 (by decide) (by decide) q2 q1⟩)
        simp only [Act.put, List.setIfInBounds_toArray, List.set_cons_zero, List.set_cons_succ, Nat.reduceAdd]
        unfold ag.ObJ
        refine ⟨fun b W hb hw hJ => ⟨by rfl, ?_⟩, ?_⟩
        · unfold ag.does
          go_simp
          exact hJ.step 4 (by decide) (by decide) (Below.refl _ _) rfl
        simp only [Act.put, List.setIfInBounds_toArray, List.set_cons_zero, List.set_cons_succ, Nat.reduceAdd]
        unfold ag.ObJ
        refine ⟨fun b W hb hw hJ => ⟨by rfl, ?_⟩, ?_⟩
        · have e1 : xs 4 = .pointer (some ⟨g8, 1, none⟩) := hJ.at (hw 4 (by kernel_rfl))
          have hf := HN8.out W hJ.ho
          have c0 := hf.cell 1; have c1 := hf.cell 2; have cl := hf.lt
          simp only [List.getElem?_cons_zero, List.getElem?_cons_succ] at c0 c1
          rw [e1]
          unfold ag.does
          go_simp
          exact hJ.step 5 (by decide) (by decide) (Below.refl _ _) rfl
        simp only [Act.put, List.setIfInBounds_toArray, List.set_cons_zero, List.set_cons_succ, Nat.reduceAdd]
        unfold ag.ObJ
        refine ⟨fun b W hb hw hJ => ⟨by rfl, ?_⟩, ?_⟩
        · have h9 : b 9 = false := by
            cases h : b 9 with
            | false => rfl
            | true => exact absurd (hJ.h9 h).1 (by rw [hb]; decide)
          have hf : Flds W g4 TPt [.int .i64 (i : Int), .slice (some ⟨gb, 0, none⟩) 2 2] := hJ.b4.1 h9
          have c0 := hf.cell 0; have c1 := hf.cell 1; have cl := hf.lt
          simp only [List.getElem?_cons_zero, List.getElem?_cons_succ] at c0 c1
          unfold ag.does
          go_simp
          exact hJ.step 6 (by decide) (by decide) (Below.refl _ _) rfl
        simp only [Act.put, List.setIfInBounds_toArray, List.set_cons_zero, List.set_cons_succ, Nat.reduceAdd]
        unfold ag.ObJ
        refine ⟨fun b W hb hw hJ => ⟨by rfl, ?_⟩, ?_⟩
        · have e0 : xs 5 = .agg #[.int .i64 1, .slice (some ⟨hx, 0, none⟩) 2 2] := hJ.at (hw 5 (by kernel_rfl))
          have e2 : xs 6 = .agg #[.int .i64 (i : Int), .slice (some ⟨gb, 0, none⟩) 2 2] := hJ.at (hw 6 (by kernel_rfl))
          rw [e0, e2]
          unfold ag.does
          go_simp
          exact (HP2.out W (HWY.out W hJ.ho) (HWB.out W hJ.ho)).mono (fun e w' h => by obtain ⟨v, he, q1, q2⟩ := h; exact ⟨v, he, hJ.step 7 (by decide) (by decide) q2 q1⟩)
        simp only [Act.put, List.setIfInBounds_toArray, List.set_cons_zero, List.set_cons_succ, Nat.reduceAdd]
        unfold ag.ObJ
        refine ⟨fun b W hb hw hJ => ⟨by rfl, ?_⟩, ?_⟩
        · obtain ⟨g, e3, hrr⟩ := hJ.at (hw 3 (by kernel_rfl))
          have hf : Flds W g3 TPt [.int .i64 (i : Int), .slice (some ⟨ga, 0, none⟩) 2 2] := hJ.b3.1 hb
          have c0 := hf.cell 0; have c1 := hf.cell 1; have cl := hf.lt; have u0 := hf.frozen 0; have u1 := hf.frozen 1
          simp only [List.getElem?_cons_zero, List.getElem?_cons_succ] at c0 c1
          dsimp only at e3
          rw [e3]
          unfold ag.does
          go_simp
          exact hJ.step8 hb (hw 0 (by kernel_rfl)) (hw 3 (by kernel_rfl)) hrr
        simp only [Act.put, List.setIfInBounds_toArray, List.set_cons_zero, List.set_cons_succ, Nat.reduceAdd]
        unfold ag.ObJ
        refine ⟨fun b W hb hw hJ => ⟨by rfl, ?_⟩, ?_⟩
        · obtain ⟨g, e3, hrr⟩ := hJ.at (hw 7 (by kernel_rfl))
          have hf : Flds W g4 TPt [.int .i64 (i : Int), .slice (some ⟨gb, 0, none⟩) 2 2] := hJ.b4.1 hb
          have c0 := hf.cell 0; have c1 := hf.cell 1; have cl := hf.lt; have u0 := hf.frozen 0; have u1 := hf.frozen 1
          simp only [List.getElem?_cons_zero, List.getElem?_cons_succ] at c0 c1
          dsimp only at e3
          rw [e3]
          unfold ag.does
          go_simp
          exact hJ.step9 (hw 6 (by kernel_rfl)) (hw 7 (by kernel_rfl)) (hw 8 (by kernel_rfl)) hrr
        simp only [Act.put, List.setIfInBounds_toArray, List.set_cons_zero, List.set_cons_succ, Nat.reduceAdd]
        unfold ag.ObJ
        trivial
      case hend =>
        intro b xs W hb hJ
        obtain ⟨gA, q1, q2⟩ := hJ.b3.2 (hb 8 (by decide))
        obtain ⟨gB, q3, q4⟩ := hJ.b4.2 (hb 9 (by decide))
        have hbel : Below w1.heap.size w1 W := HTT.out.2.2.2.2.1.trans (hJ.ho.below HTT.out.2.2.2.2.1.size (fun k hk => by rcases hk with rfl | rfl; exact HTT.out.2.2.2.2.2.1; exact HTT.out.2.2.2.2.2.2.1))
        have HTN := Lib.hid (show TB w1 g3 g4 ((i + 1 : Nat) : Int) (fo2 (ps.take (i + 1))) (fo2 (ps.drop (m - (i + 1)))) W from ⟨gA, gB, q1, q3, q2, q4, hbel, HTT.out.2.2.2.2.2.1, HTT.out.2.2.2.2.2.2.1, HTT.out.2.2.2.2.2.2.2⟩)
        clear q1 q2 q3 q4 hbel hb hJ
        simp only [ag.frameJ, Act.put, List.setIfInBounds_toArray, List.set_cons_zero, List.set_cons_succ, Nat.reduceAdd]
        go_wp2_with fail
        go_roundw
        case rel => exact ⟨i + 1, by go_num, by omega, HTN⟩
        case measure => simp [intOf]; omega
    · have ei : i = m := by omega
      subst ei
      have hT := HT.out
      rw [List.take_of_length_le (by rw [HPL.out]; exact Nat.le_refl _), Nat.sub_self, List.drop_zero] at hT
      obtain ⟨ga, gb, hf3, hf4, hra, hrb, hbel, hg3, hg4, hne⟩ := hT
      have HRA := Lib.hid hra
      have HRB := Lib.hid hrb
      have HBW := Lib.hid (HB1.out.trans (hbel.mono HB1.out.size))
      have H3 := Lib.hid (fun (W : World) (hb : Below wr.heap.size wr W) => And.intro ((hf3.later hb).cell 0) (And.intro ((hf3.later hb).cell 1) (hf3.later hb).lt))
      have H4 := Lib.hid (fun (W : World) (hb : Below wr.heap.size wr W) => And.intro ((hf4.later hb).cell 0) (And.intro ((hf4.later hb).cell 1) (hf4.later hb).lt))
      simp only [List.getElem?_cons_zero, List.getElem?_cons_succ] at H3 H4
      have hi30 : i ≤ 30 := by omega
      have HLP := Lib.hid (show ps.length ≤ 30 by rw [HPL.out]; exact hi30)
      have hmI : min (n : Int) 30 = (i : Int) := by omega
      have HNO := Lib.hid (fun (W : World) => show Calls Try.prog 15 #[.int .i64 2] W (NonePost 2 W) from none_any 2 (by decide) W)
      have HPC := Lib.hid (fun (W : World) (g : Nat) (h1 : Row W (.slice (some ⟨ga, 0, none⟩) 2 2) 9 2 (oCells (fo2 ps))) (h2 : Row W (.slice (some ⟨g, 0, none⟩) 2 2) 9 2 (oCells (List.replicate 2 zero))) => show Calls Try.prog 16 #[.agg #[.int .i64 (i : Int), .slice (some ⟨ga, 0, none⟩) 2 2], .agg #[.int .i64 0, .slice (some ⟨g, 0, none⟩) 2 2]] W (fun e w' => ∃ v, e = .returned v ∧ PAV (i : Int) (fo2 ps) v w' ∧ Below W.heap.size W w') from by
        have h := plus_any 2 (by decide) (i : Int) 0 (some ⟨ga, 0, none⟩) (some ⟨g, 0, none⟩) 2 2 (fo2 ps) (List.replicate 2 zero) W rfl (by simp) h1 h2 ⟨by omega, by omega⟩ (smallN (small_fo HPS.out HLP.out) (fun o ho => by rw [List.eq_of_mem_replicate ho]; exact ⟨by decide, by decide⟩))
        rw [step_c HPS.out] at h
        exact h.mono (fun e w' hh => by obtain ⟨g, he, q1, q2⟩ := hh; exact ⟨_, he, ⟨g, by rw [Int.add_zero]; rfl, q1⟩, q2⟩))
      obtain ⟨P, hP⟩ : ∃ P, packOne (i : Int) (fo2 ps) = P := ⟨_, rfl⟩
      have HON := Lib.hid (fun (W : World) (g : Nat) (h1 : Row W (.slice (some ⟨g, 0, none⟩) 2 2) 9 2 (oCells (fo2 ps))) => show Calls Try.prog 17 #[.agg #[.int .i64 (i : Int), .slice (some ⟨g, 0, none⟩) 2 2]] W (fun e w' => e = .returned (.string P) ∧ Below W.heap.size W w') from by
        have h := one_any 2 (by decide) (i : Int) ⟨by omega, by omega⟩ (some ⟨g, 0, none⟩) 2 (fo2 ps) W rfl h1 (okL HPS.out HLP.out)
        rw [packOne_is, hP] at h
        exact h)
      clear hf3 hf4 hra hrb hbel hg3 hg4 hne hP
      rcases (show (¬ i < n) ∨ (i < n ∧ ¬ i < 30) by omega) with h9 | ⟨h9, h8⟩
      · have d1 : ¬ (i : Int) < (n : Int) := by omega
        clear hlt h9
        go_wp2_with fail
        apply ag.region_calm_tail 4 (ag.Spec.val _ :: ag.Spec.sat (PAV 0 (List.replicate 2 zero)) ag.grew :: ag.Spec.sat (PAV (i : Int) (fo2 ps)) ag.grew :: ag.Spec.sat (PV wr.heap.size TPt [.int .i64 0, .slice none 0 0]) ag.grew :: [])
        case hm => kernel_rfl
        case hB => kernel_rfl
        case hlen => rfl
        case hc => exact ⟨⟨(fun v W W' h hb => PAV.lasts h hb), rfl⟩, ⟨(fun v W W' h hb => PAV.lasts h hb), rfl⟩, ⟨(fun v W W' h hb => PV.lasts h hb), rfl⟩, trivial⟩
        simp only [List.take_succ_cons, List.take_zero, List.drop_succ_cons, List.drop_zero]
        apply ag.walk_val
        · rfl
        · intro W1 hS hE
          obtain ⟨p0, p1, pl⟩ := H3.out W1 hS
          clear hS hE
          unfold ag.does
          go_simp
          first | done | exact ⟨rfl, rfl⟩ | rfl | (exact ⟨by go_num, rfl⟩) | (simp; done) | trace_state
        simp only [Act.put, List.setIfInBounds_toArray, List.set_cons_zero, List.set_cons_succ]
        refine ag.walk_such (by rfl) (fun W1 hS hE => ?_) (fun y1 => ?_)
        · have hk := HNO.out W1
          clear hE
          unfold ag.does
          go_simp
          first | done | (exact hk.mono (fun e w' h => by obtain ⟨g, he, q1, q2⟩ := h; exact ⟨_, he, ⟨g, rfl, Row.of_owns q1⟩, q2⟩))
        simp only [Act.put, List.setIfInBounds_toArray, List.set_cons_zero, List.set_cons_succ]
        refine ag.walk_such (by rfl) (fun W1 hS hE => ?_) (fun y2 => ?_)
        · have f1 := hE.of 1 (by kernel_rfl)
          simp only [ag.lookE, if_true, Nat.reduceEqDiff, if_false] at f1
          obtain ⟨gN, e1, hrN⟩ := f1
          subst e1
          have hk := HPC.out W1 gN (HRA.out.later hS) hrN
          clear hE
          unfold ag.does
          go_simp
          first | done | (exact hk.mono (fun e w' h => by obtain ⟨v, he, q1, q2⟩ := h; exact ⟨v, he, q1, q2⟩))
        simp only [Act.put, List.setIfInBounds_toArray, List.set_cons_zero, List.set_cons_succ]
        refine ag.walk_such (by rfl) (fun W1 hS hE => ?_) (fun y3 => ?_)
        · have hX := hS.size
          clear hE
          unfold ag.does
          go_simp
          first | done | (exact ⟨PV.new W1 _ hX, (Below.refl _ _).alloc (Nat.le_refl _) _⟩)
        simp only [Act.put, List.setIfInBounds_toArray, List.set_cons_zero, List.set_cons_succ]
        refine ag.walk_nil (fun w12 hS hF hP => ?_)
        clear hP
        have f2 := hF.of 2
        have f3 := hF.of 3
        simp only [ag.lookE, Nat.reduceEqDiff, if_false, if_true] at f2 f3
        obtain ⟨gC, e2, hrC⟩ := f2
        obtain ⟨g10, e3, hg10, hf10⟩ := f3
        subst e2 e3
        have z0 := hf10.cell 0; have z1 := hf10.cell 1; have zl := hf10.lt; have u0 := hf10.frozen 0; have u1 := hf10.frozen 1
        simp only [List.getElem?_cons_zero, List.getElem?_cons_succ] at z0 z1
        obtain ⟨hf11, hg11⟩ := box2 (x := .int .i64 (i : Int)) (y := .slice (some ⟨gC, 0, none⟩) 2 2) hf10
        have hrC' := row_skip0 hf10 hrC ⟨_, _, rfl⟩ (only2 w12 g10 (.int .i64 (i : Int)) (.slice (some ⟨gC, 0, none⟩) 2 2))
        have hb11 := hS.grown hg11 hS.size (fun j e => by cases e; exact hg10)
        have H11 := Lib.hid (And.intro hf11 (And.intro hrC' hb11))
        clear hF hS hf10 hrC hf11 hg11 hrC' hb11
        go_upto_region 11 with fail
        obtain ⟨W13, hW13⟩ : ∃ W, (w12.setCell ⟨g10, 0, none⟩ (.int .i64 (i : Int))).setCell ⟨g10, 1, none⟩ (.slice (some ⟨gC, 0, none⟩) 2 2) = W := ⟨_, rfl⟩
        rw [hW13] at H11 ⊢
        clear hW13 z0 z1 zl u0 u1
        have HX3 := Lib.hid (fun (W : World) (hb : Below W13.heap.size W13 W) => H3.out W (H11.out.2.2.trans (hb.mono H11.out.2.2.size)))
        have HX4 := Lib.hid (fun (W : World) (hb : Below W13.heap.size W13 W) => H4.out W (H11.out.2.2.trans (hb.mono H11.out.2.2.size)))
        have HX10 := Lib.hid (fun (W : World) (hb : Below W13.heap.size W13 W) => And.intro ((H11.out.1.later hb).cell 0) (And.intro ((H11.out.1.later hb).cell 1) (H11.out.1.later hb).lt))
        simp only [List.getElem?_cons_zero, List.getElem?_cons_succ] at HX10
        have HOA := Lib.hid (fun (W : World) (hb : Below W13.heap.size W13 W) => HON.out W ga (HRA.out.later (H11.out.2.2.trans (hb.mono H11.out.2.2.size))))
        have HOB := Lib.hid (fun (W : World) (hb : Below W13.heap.size W13 W) => HON.out W gb (HRB.out.later (H11.out.2.2.trans (hb.mono H11.out.2.2.size))))
        have HOC := Lib.hid (fun (W : World) (hb : Below W13.heap.size W13 W) => HON.out W gC (H11.out.2.1.later hb))
        go_upto_region 12 with fail
        apply ag.region_calm (ag.Spec.val _ :: ag.Spec.val _ :: ag.Spec.sat (fun v _ => v = .string P) ag.grew :: ag.Spec.val _ :: ag.Spec.val _ :: ag.Spec.sat (fun v _ => v = .string P) ag.grew :: ag.Spec.val (.bool true) :: ag.Spec.val _ :: ag.Spec.val _ :: ag.Spec.val _ :: ag.Spec.sat (fun v _ => v = .string P) ag.grew :: ag.Spec.val _ :: ag.Spec.val _ :: ag.Spec.sat (fun v _ => v = .string P) ag.grew :: ag.Spec.val (.bool true) :: ag.Spec.val _ :: ag.Spec.val _ :: ag.Spec.val _ :: ag.Spec.val _ :: ag.Spec.val _ :: ag.Spec.val _ :: ag.Spec.val _ :: ag.Spec.val (.bool true) :: ag.Spec.val _ :: ag.Spec.val _ :: [])
        case hm => kernel_rfl
        case hB => kernel_rfl
        case hlen => rfl
        case hc => exact ⟨⟨ag.lasts_eq _, rfl⟩, ⟨ag.lasts_eq _, rfl⟩, ⟨ag.lasts_eq _, rfl⟩, ⟨ag.lasts_eq _, rfl⟩, trivial⟩
        apply ag.walk_val
        · rfl
        · intro W1 hS hE
          clear hS hE
          unfold ag.does
          go_simp
          first | done | exact ⟨rfl, rfl⟩ | rfl | (exact ⟨by go_num, rfl⟩) | (simp; done) | trace_state
        simp only [Act.put, List.setIfInBounds_toArray, List.set_cons_zero, List.set_cons_succ]
        apply ag.walk_val
        · rfl
        · intro W1 hS hE
          obtain ⟨p0, p1, pl⟩ := HX3.out W1 hS
          clear hS hE
          unfold ag.does
          go_simp
          first | done | exact ⟨rfl, rfl⟩ | rfl | (exact ⟨by go_num, rfl⟩) | (simp; done) | trace_state
        simp only [Act.put, List.setIfInBounds_toArray, List.set_cons_zero, List.set_cons_succ]
        refine ag.walk_such (by rfl) (fun W1 hS hE => ?_) (fun y2 => ?_)
        · have hk := HOA.out W1 hS
          clear hE
          unfold ag.does
          go_simp
          first | done | (exact hk.mono (fun e w' h => ⟨_, h.1, rfl, h.2⟩))
        simp only [Act.put, List.setIfInBounds_toArray, List.set_cons_zero, List.set_cons_succ]
        apply ag.walk_val
        · rfl
        · intro W1 hS hE
          clear hS hE
          unfold ag.does
          go_simp
          first | done | exact ⟨rfl, rfl⟩ | rfl | (exact ⟨by go_num, rfl⟩) | (simp; done) | trace_state
        simp only [Act.put, List.setIfInBounds_toArray, List.set_cons_zero, List.set_cons_succ]
        apply ag.walk_val
        · rfl
        · intro W1 hS hE
          obtain ⟨p0, p1, pl⟩ := HX4.out W1 hS
          clear hS hE
          unfold ag.does
          go_simp
          first | done | exact ⟨rfl, rfl⟩ | rfl | (exact ⟨by go_num, rfl⟩) | (simp; done) | trace_state
        simp only [Act.put, List.setIfInBounds_toArray, List.set_cons_zero, List.set_cons_succ]
        refine ag.walk_such (by rfl) (fun W1 hS hE => ?_) (fun y5 => ?_)
        · have hk := HOB.out W1 hS
          clear hE
          unfold ag.does
          go_simp
          first | done | (exact hk.mono (fun e w' h => ⟨_, h.1, rfl, h.2⟩))
        simp only [Act.put, List.setIfInBounds_toArray, List.set_cons_zero, List.set_cons_succ]
        apply ag.walk_val
        · rfl
        · intro W1 hS hE
          have b1 := hE.of 2 (by kernel_rfl)
          have b2 := hE.of 5 (by kernel_rfl)
          simp only [ag.lookE, if_true, Nat.reduceEqDiff, if_false] at b1 b2
          subst b1 b2
          clear hS hE
          unfold ag.does
          go_simp
          first | done | exact ⟨rfl, rfl⟩ | rfl | (exact ⟨by go_num, rfl⟩) | (simp; done) | trace_state
        simp only [Act.put, List.setIfInBounds_toArray, List.set_cons_zero, List.set_cons_succ]
        apply ag.walk_val
        · rfl
        · intro W1 hS hE
          clear hS hE
          unfold ag.does
          go_simp
          first | done | exact ⟨rfl, rfl⟩ | rfl | (exact ⟨by go_num, rfl⟩) | (simp; done) | trace_state
        simp only [Act.put, List.setIfInBounds_toArray, List.set_cons_zero, List.set_cons_succ]
        apply ag.walk_val
        · rfl
        · intro W1 hS hE
          clear hS hE
          unfold ag.does
          go_simp
          first | done | exact ⟨rfl, rfl⟩ | rfl | (exact ⟨by go_num, rfl⟩) | (simp; done) | trace_state
        simp only [Act.put, List.setIfInBounds_toArray, List.set_cons_zero, List.set_cons_succ]
        apply ag.walk_val
        · rfl
        · intro W1 hS hE
          obtain ⟨p0, p1, pl⟩ := HX10.out W1 hS
          clear hS hE
          unfold ag.does
          go_simp
          first | done | exact ⟨rfl, rfl⟩ | rfl | (exact ⟨by go_num, rfl⟩) | (simp; done) | trace_state
        simp only [Act.put, List.setIfInBounds_toArray, List.set_cons_zero, List.set_cons_succ]
        refine ag.walk_such (by rfl) (fun W1 hS hE => ?_) (fun y10 => ?_)
        · have hk := HOC.out W1 hS
          clear hE
          unfold ag.does
          go_simp
          first | done | (exact hk.mono (fun e w' h => ⟨_, h.1, rfl, h.2⟩))
        simp only [Act.put, List.setIfInBounds_toArray, List.set_cons_zero, List.set_cons_succ]
        apply ag.walk_val
        · rfl
        · intro W1 hS hE
          clear hS hE
          unfold ag.does
          go_simp
          first | done | exact ⟨rfl, rfl⟩ | rfl | (exact ⟨by go_num, rfl⟩) | (simp; done) | trace_state
        simp only [Act.put, List.setIfInBounds_toArray, List.set_cons_zero, List.set_cons_succ]
        apply ag.walk_val
        · rfl
        · intro W1 hS hE
          obtain ⟨p0, p1, pl⟩ := HX3.out W1 hS
          clear hS hE
          unfold ag.does
          go_simp
          first | done | exact ⟨rfl, rfl⟩ | rfl | (exact ⟨by go_num, rfl⟩) | (simp; done) | trace_state
        simp only [Act.put, List.setIfInBounds_toArray, List.set_cons_zero, List.set_cons_succ]
        refine ag.walk_such (by rfl) (fun W1 hS hE => ?_) (fun y13 => ?_)
        · have hk := HOA.out W1 hS
          clear hE
          unfold ag.does
          go_simp
          first | done | (exact hk.mono (fun e w' h => ⟨_, h.1, rfl, h.2⟩))
        simp only [Act.put, List.setIfInBounds_toArray, List.set_cons_zero, List.set_cons_succ]
        apply ag.walk_val
        · rfl
        · intro W1 hS hE
          have b1 := hE.of 10 (by kernel_rfl)
          have b2 := hE.of 13 (by kernel_rfl)
          simp only [ag.lookE, if_true, Nat.reduceEqDiff, if_false] at b1 b2
          subst b1 b2
          clear hS hE
          unfold ag.does
          go_simp
          first | done | exact ⟨rfl, rfl⟩ | rfl | (exact ⟨by go_num, rfl⟩) | (simp; done) | trace_state
        simp only [Act.put, List.setIfInBounds_toArray, List.set_cons_zero, List.set_cons_succ]
        apply ag.walk_val
        · rfl
        · intro W1 hS hE
          clear hS hE
          unfold ag.does
          go_simp
          first | done | exact ⟨rfl, rfl⟩ | rfl | (exact ⟨by go_num, rfl⟩) | (simp; done) | trace_state
        simp only [Act.put, List.setIfInBounds_toArray, List.set_cons_zero, List.set_cons_succ]
        apply ag.walk_val
        · rfl
        · intro W1 hS hE
          clear hS hE
          unfold ag.does
          go_simp
          first | done | exact ⟨rfl, rfl⟩ | rfl | (exact ⟨by go_num, rfl⟩) | (simp; done) | trace_state
        simp only [Act.put, List.setIfInBounds_toArray, List.set_cons_zero, List.set_cons_succ]
        apply ag.walk_val
        · rfl
        · intro W1 hS hE
          clear hS hE
          unfold ag.does
          go_simp
          first | done | exact ⟨rfl, rfl⟩ | rfl | (exact ⟨by go_num, rfl⟩) | (simp; done) | trace_state
        simp only [Act.put, List.setIfInBounds_toArray, List.set_cons_zero, List.set_cons_succ]
        apply ag.walk_val
        · rfl
        · intro W1 hS hE
          obtain ⟨p0, p1, pl⟩ := HX3.out W1 hS
          clear hS hE
          unfold ag.does
          go_simp
          first | done | exact ⟨rfl, rfl⟩ | rfl | (exact ⟨by go_num, rfl⟩) | (simp; done) | trace_state
        simp only [Act.put, List.setIfInBounds_toArray, List.set_cons_zero, List.set_cons_succ]
        apply ag.walk_val
        · rfl
        · intro W1 hS hE
          clear hS hE
          unfold ag.does
          go_simp
          first | done | exact ⟨rfl, rfl⟩ | rfl | (exact ⟨by go_num, rfl⟩) | (simp; done) | trace_state
        simp only [Act.put, List.setIfInBounds_toArray, List.set_cons_zero, List.set_cons_succ]
        apply ag.walk_val
        · rfl
        · intro W1 hS hE
          clear hS hE
          unfold ag.does
          go_simp
          first | done | exact ⟨rfl, rfl⟩ | rfl | (exact ⟨by go_num, rfl⟩) | (simp; done) | trace_state
        simp only [Act.put, List.setIfInBounds_toArray, List.set_cons_zero, List.set_cons_succ]
        apply ag.walk_val
        · rfl
        · intro W1 hS hE
          clear hS hE
          unfold ag.does
          go_simp
          first | done | exact ⟨rfl, rfl⟩ | rfl | (exact ⟨by go_num, rfl⟩) | (simp; done) | trace_state
        simp only [Act.put, List.setIfInBounds_toArray, List.set_cons_zero, List.set_cons_succ]
        apply ag.walk_val
        · rfl
        · intro W1 hS hE
          clear hS hE
          unfold ag.does
          go_simp
          first | done | exact ⟨rfl, rfl⟩ | rfl | (exact ⟨by go_num, rfl⟩) | (simp; done) | ((simp [hmI])) | trace_state
        simp only [Act.put, List.setIfInBounds_toArray, List.set_cons_zero, List.set_cons_succ]
        apply ag.walk_val
        · rfl
        · intro W1 hS hE
          clear hS hE
          unfold ag.does
          go_simp
          first | done | exact ⟨rfl, rfl⟩ | rfl | (exact ⟨by go_num, rfl⟩) | (simp; done) | trace_state
        simp only [Act.put, List.setIfInBounds_toArray, List.set_cons_zero, List.set_cons_succ]
        apply ag.walk_val
        · rfl
        · intro W1 hS hE
          clear hS hE
          unfold ag.does
          go_simp
          first | done | exact ⟨rfl, rfl⟩ | rfl | (exact ⟨by go_num, rfl⟩) | (simp; done) | trace_state
        simp only [Act.put, List.setIfInBounds_toArray, List.set_cons_zero, List.set_cons_succ]
        refine ag.walk_nil (fun w14 hS hF hP => ?_)
        clear hP
        have HBF := Lib.hid (HBW.out.trans ((H11.out.2.2.trans (hS.mono H11.out.2.2.size)).mono HBW.out.size))
        clear hF hS
        go_wp2_with fail
        go_ret
        exact ⟨rfl, HBF.out⟩
      · have d1 : (i : Int) < (n : Int) := by omega
        have d2 : ¬ (i : Int) < 30 := by omega
        clear hlt h9 h8
        go_wp2_with fail
        apply ag.region_calm_tail 4 (ag.Spec.val _ :: ag.Spec.sat (PAV 0 (List.replicate 2 zero)) ag.grew :: ag.Spec.sat (PAV (i : Int) (fo2 ps)) ag.grew :: ag.Spec.sat (PV wr.heap.size TPt [.int .i64 0, .slice none 0 0]) ag.grew :: [])
        case hm => kernel_rfl
        case hB => kernel_rfl
        case hlen => rfl
        case hc => exact ⟨⟨(fun v W W' h hb => PAV.lasts h hb), rfl⟩, ⟨(fun v W W' h hb => PAV.lasts h hb), rfl⟩, ⟨(fun v W W' h hb => PV.lasts h hb), rfl⟩, trivial⟩
        simp only [List.take_succ_cons, List.take_zero, List.drop_succ_cons, List.drop_zero]
        apply ag.walk_val
        · rfl
        · intro W1 hS hE
          obtain ⟨p0, p1, pl⟩ := H3.out W1 hS
          clear hS hE
          unfold ag.does
          go_simp
          first | done | exact ⟨rfl, rfl⟩ | rfl | (exact ⟨by go_num, rfl⟩) | (simp; done) | trace_state
        simp only [Act.put, List.setIfInBounds_toArray, List.set_cons_zero, List.set_cons_succ]
        refine ag.walk_such (by rfl) (fun W1 hS hE => ?_) (fun y1 => ?_)
        · have hk := HNO.out W1
          clear hE
          unfold ag.does
          go_simp
          first | done | (exact hk.mono (fun e w' h => by obtain ⟨g, he, q1, q2⟩ := h; exact ⟨_, he, ⟨g, rfl, Row.of_owns q1⟩, q2⟩))
        simp only [Act.put, List.setIfInBounds_toArray, List.set_cons_zero, List.set_cons_succ]
        refine ag.walk_such (by rfl) (fun W1 hS hE => ?_) (fun y2 => ?_)
        · have f1 := hE.of 1 (by kernel_rfl)
          simp only [ag.lookE, if_true, Nat.reduceEqDiff, if_false] at f1
          obtain ⟨gN, e1, hrN⟩ := f1
          subst e1
          have hk := HPC.out W1 gN (HRA.out.later hS) hrN
          clear hE
          unfold ag.does
          go_simp
          first | done | (exact hk.mono (fun e w' h => by obtain ⟨v, he, q1, q2⟩ := h; exact ⟨v, he, q1, q2⟩))
        simp only [Act.put, List.setIfInBounds_toArray, List.set_cons_zero, List.set_cons_succ]
        refine ag.walk_such (by rfl) (fun W1 hS hE => ?_) (fun y3 => ?_)
        · have hX := hS.size
          clear hE
          unfold ag.does
          go_simp
          first | done | (exact ⟨PV.new W1 _ hX, (Below.refl _ _).alloc (Nat.le_refl _) _⟩)
        simp only [Act.put, List.setIfInBounds_toArray, List.set_cons_zero, List.set_cons_succ]
        refine ag.walk_nil (fun w12 hS hF hP => ?_)
        clear hP
        have f2 := hF.of 2
        have f3 := hF.of 3
        simp only [ag.lookE, Nat.reduceEqDiff, if_false, if_true] at f2 f3
        obtain ⟨gC, e2, hrC⟩ := f2
        obtain ⟨g10, e3, hg10, hf10⟩ := f3
        subst e2 e3
        have z0 := hf10.cell 0; have z1 := hf10.cell 1; have zl := hf10.lt; have u0 := hf10.frozen 0; have u1 := hf10.frozen 1
        simp only [List.getElem?_cons_zero, List.getElem?_cons_succ] at z0 z1
        obtain ⟨hf11, hg11⟩ := box2 (x := .int .i64 (i : Int)) (y := .slice (some ⟨gC, 0, none⟩) 2 2) hf10
        have hrC' := row_skip0 hf10 hrC ⟨_, _, rfl⟩ (only2 w12 g10 (.int .i64 (i : Int)) (.slice (some ⟨gC, 0, none⟩) 2 2))
        have hb11 := hS.grown hg11 hS.size (fun j e => by cases e; exact hg10)
        have H11 := Lib.hid (And.intro hf11 (And.intro hrC' hb11))
        clear hF hS hf10 hrC hf11 hg11 hrC' hb11
        go_upto_region 11 with fail
        obtain ⟨W13, hW13⟩ : ∃ W, (w12.setCell ⟨g10, 0, none⟩ (.int .i64 (i : Int))).setCell ⟨g10, 1, none⟩ (.slice (some ⟨gC, 0, none⟩) 2 2) = W := ⟨_, rfl⟩
        rw [hW13] at H11 ⊢
        clear hW13 z0 z1 zl u0 u1
        have HX3 := Lib.hid (fun (W : World) (hb : Below W13.heap.size W13 W) => H3.out W (H11.out.2.2.trans (hb.mono H11.out.2.2.size)))
        have HX4 := Lib.hid (fun (W : World) (hb : Below W13.heap.size W13 W) => H4.out W (H11.out.2.2.trans (hb.mono H11.out.2.2.size)))
        have HX10 := Lib.hid (fun (W : World) (hb : Below W13.heap.size W13 W) => And.intro ((H11.out.1.later hb).cell 0) (And.intro ((H11.out.1.later hb).cell 1) (H11.out.1.later hb).lt))
        simp only [List.getElem?_cons_zero, List.getElem?_cons_succ] at HX10
        have HOA := Lib.hid (fun (W : World) (hb : Below W13.heap.size W13 W) => HON.out W ga (HRA.out.later (H11.out.2.2.trans (hb.mono H11.out.2.2.size))))
        have HOB := Lib.hid (fun (W : World) (hb : Below W13.heap.size W13 W) => HON.out W gb (HRB.out.later (H11.out.2.2.trans (hb.mono H11.out.2.2.size))))
        have HOC := Lib.hid (fun (W : World) (hb : Below W13.heap.size W13 W) => HON.out W gC (H11.out.2.1.later hb))
        go_upto_region 12 with fail
        apply ag.region_calm (ag.Spec.val _ :: ag.Spec.val _ :: ag.Spec.sat (fun v _ => v = .string P) ag.grew :: ag.Spec.val _ :: ag.Spec.val _ :: ag.Spec.sat (fun v _ => v = .string P) ag.grew :: ag.Spec.val (.bool true) :: ag.Spec.val _ :: ag.Spec.val _ :: ag.Spec.val _ :: ag.Spec.sat (fun v _ => v = .string P) ag.grew :: ag.Spec.val _ :: ag.Spec.val _ :: ag.Spec.sat (fun v _ => v = .string P) ag.grew :: ag.Spec.val (.bool true) :: ag.Spec.val _ :: ag.Spec.val _ :: ag.Spec.val _ :: ag.Spec.val _ :: ag.Spec.val _ :: ag.Spec.val _ :: ag.Spec.val _ :: ag.Spec.val (.bool true) :: ag.Spec.val _ :: ag.Spec.val _ :: [])
        case hm => kernel_rfl
        case hB => kernel_rfl
        case hlen => rfl
        case hc => exact ⟨⟨ag.lasts_eq _, rfl⟩, ⟨ag.lasts_eq _, rfl⟩, ⟨ag.lasts_eq _, rfl⟩, ⟨ag.lasts_eq _, rfl⟩, trivial⟩
        apply ag.walk_val
        · rfl
        · intro W1 hS hE
          clear hS hE
          unfold ag.does
          go_simp
          first | done | exact ⟨rfl, rfl⟩ | rfl | (exact ⟨by go_num, rfl⟩) | (simp; done) | trace_state
        simp only [Act.put, List.setIfInBounds_toArray, List.set_cons_zero, List.set_cons_succ]
        apply ag.walk_val
        · rfl
        · intro W1 hS hE
          obtain ⟨p0, p1, pl⟩ := HX3.out W1 hS
          clear hS hE
          unfold ag.does
          go_simp
          first | done | exact ⟨rfl, rfl⟩ | rfl | (exact ⟨by go_num, rfl⟩) | (simp; done) | trace_state
        simp only [Act.put, List.setIfInBounds_toArray, List.set_cons_zero, List.set_cons_succ]
        refine ag.walk_such (by rfl) (fun W1 hS hE => ?_) (fun y2 => ?_)
        · have hk := HOA.out W1 hS
          clear hE
          unfold ag.does
          go_simp
          first | done | (exact hk.mono (fun e w' h => ⟨_, h.1, rfl, h.2⟩))
        simp only [Act.put, List.setIfInBounds_toArray, List.set_cons_zero, List.set_cons_succ]
        apply ag.walk_val
        · rfl
        · intro W1 hS hE
          clear hS hE
          unfold ag.does
          go_simp
          first | done | exact ⟨rfl, rfl⟩ | rfl | (exact ⟨by go_num, rfl⟩) | (simp; done) | trace_state
        simp only [Act.put, List.setIfInBounds_toArray, List.set_cons_zero, List.set_cons_succ]
        apply ag.walk_val
        · rfl
        · intro W1 hS hE
          obtain ⟨p0, p1, pl⟩ := HX4.out W1 hS
          clear hS hE
          unfold ag.does
          go_simp
          first | done | exact ⟨rfl, rfl⟩ | rfl | (exact ⟨by go_num, rfl⟩) | (simp; done) | trace_state
        simp only [Act.put, List.setIfInBounds_toArray, List.set_cons_zero, List.set_cons_succ]
        refine ag.walk_such (by rfl) (fun W1 hS hE => ?_) (fun y5 => ?_)
        · have hk := HOB.out W1 hS
          clear hE
          unfold ag.does
          go_simp
          first | done | (exact hk.mono (fun e w' h => ⟨_, h.1, rfl, h.2⟩))
        simp only [Act.put, List.setIfInBounds_toArray, List.set_cons_zero, List.set_cons_succ]
        apply ag.walk_val
        · rfl
        · intro W1 hS hE
          have b1 := hE.of 2 (by kernel_rfl)
          have b2 := hE.of 5 (by kernel_rfl)
          simp only [ag.lookE, if_true, Nat.reduceEqDiff, if_false] at b1 b2
          subst b1 b2
          clear hS hE
          unfold ag.does
          go_simp
          first | done | exact ⟨rfl, rfl⟩ | rfl | (exact ⟨by go_num, rfl⟩) | (simp; done) | trace_state
        simp only [Act.put, List.setIfInBounds_toArray, List.set_cons_zero, List.set_cons_succ]
        apply ag.walk_val
        · rfl
        · intro W1 hS hE
          clear hS hE
          unfold ag.does
          go_simp
          first | done | exact ⟨rfl, rfl⟩ | rfl | (exact ⟨by go_num, rfl⟩) | (simp; done) | trace_state
        simp only [Act.put, List.setIfInBounds_toArray, List.set_cons_zero, List.set_cons_succ]
        apply ag.walk_val
        · rfl
        · intro W1 hS hE
          clear hS hE
          unfold ag.does
          go_simp
          first | done | exact ⟨rfl, rfl⟩ | rfl | (exact ⟨by go_num, rfl⟩) | (simp; done) | trace_state
        simp only [Act.put, List.setIfInBounds_toArray, List.set_cons_zero, List.set_cons_succ]
        apply ag.walk_val
        · rfl
        · intro W1 hS hE
          obtain ⟨p0, p1, pl⟩ := HX10.out W1 hS
          clear hS hE
          unfold ag.does
          go_simp
          first | done | exact ⟨rfl, rfl⟩ | rfl | (exact ⟨by go_num, rfl⟩) | (simp; done) | trace_state
        simp only [Act.put, List.setIfInBounds_toArray, List.set_cons_zero, List.set_cons_succ]
        refine ag.walk_such (by rfl) (fun W1 hS hE => ?_) (fun y10 => ?_)
        · have hk := HOC.out W1 hS
          clear hE
          unfold ag.does
          go_simp
          first | done | (exact hk.mono (fun e w' h => ⟨_, h.1, rfl, h.2⟩))
        simp only [Act.put, List.setIfInBounds_toArray, List.set_cons_zero, List.set_cons_succ]
        apply ag.walk_val
        · rfl
        · intro W1 hS hE
          clear hS hE
          unfold ag.does
          go_simp
          first | done | exact ⟨rfl, rfl⟩ | rfl | (exact ⟨by go_num, rfl⟩) | (simp; done) | trace_state
        simp only [Act.put, List.setIfInBounds_toArray, List.set_cons_zero, List.set_cons_succ]
        apply ag.walk_val
        · rfl
        · intro W1 hS hE
          obtain ⟨p0, p1, pl⟩ := HX3.out W1 hS
          clear hS hE
          unfold ag.does
          go_simp
          first | done | exact ⟨rfl, rfl⟩ | rfl | (exact ⟨by go_num, rfl⟩) | (simp; done) | trace_state
        simp only [Act.put, List.setIfInBounds_toArray, List.set_cons_zero, List.set_cons_succ]
        refine ag.walk_such (by rfl) (fun W1 hS hE => ?_) (fun y13 => ?_)
        · have hk := HOA.out W1 hS
          clear hE
          unfold ag.does
          go_simp
          first | done | (exact hk.mono (fun e w' h => ⟨_, h.1, rfl, h.2⟩))
        simp only [Act.put, List.setIfInBounds_toArray, List.set_cons_zero, List.set_cons_succ]
        apply ag.walk_val
        · rfl
        · intro W1 hS hE
          have b1 := hE.of 10 (by kernel_rfl)
          have b2 := hE.of 13 (by kernel_rfl)
          simp only [ag.lookE, if_true, Nat.reduceEqDiff, if_false] at b1 b2
          subst b1 b2
          clear hS hE
          unfold ag.does
          go_simp
          first | done | exact ⟨rfl, rfl⟩ | rfl | (exact ⟨by go_num, rfl⟩) | (simp; done) | trace_state
        simp only [Act.put, List.setIfInBounds_toArray, List.set_cons_zero, List.set_cons_succ]
        apply ag.walk_val
        · rfl
        · intro W1 hS hE
          clear hS hE
          unfold ag.does
          go_simp
          first | done | exact ⟨rfl, rfl⟩ | rfl | (exact ⟨by go_num, rfl⟩) | (simp; done) | trace_state
        simp only [Act.put, List.setIfInBounds_toArray, List.set_cons_zero, List.set_cons_succ]
        apply ag.walk_val
        · rfl
        · intro W1 hS hE
          clear hS hE
          unfold ag.does
          go_simp
          first | done | exact ⟨rfl, rfl⟩ | rfl | (exact ⟨by go_num, rfl⟩) | (simp; done) | trace_state
        simp only [Act.put, List.setIfInBounds_toArray, List.set_cons_zero, List.set_cons_succ]
        apply ag.walk_val
        · rfl
        · intro W1 hS hE
          clear hS hE
          unfold ag.does
          go_simp
          first | done | exact ⟨rfl, rfl⟩ | rfl | (exact ⟨by go_num, rfl⟩) | (simp; done) | trace_state
        simp only [Act.put, List.setIfInBounds_toArray, List.set_cons_zero, List.set_cons_succ]
        apply ag.walk_val
        · rfl
        · intro W1 hS hE
          obtain ⟨p0, p1, pl⟩ := HX3.out W1 hS
          clear hS hE
          unfold ag.does
          go_simp
          first | done | exact ⟨rfl, rfl⟩ | rfl | (exact ⟨by go_num, rfl⟩) | (simp; done) | trace_state
        simp only [Act.put, List.setIfInBounds_toArray, List.set_cons_zero, List.set_cons_succ]
        apply ag.walk_val
        · rfl
        · intro W1 hS hE
          clear hS hE
          unfold ag.does
          go_simp
          first | done | exact ⟨rfl, rfl⟩ | rfl | (exact ⟨by go_num, rfl⟩) | (simp; done) | trace_state
        simp only [Act.put, List.setIfInBounds_toArray, List.set_cons_zero, List.set_cons_succ]
        apply ag.walk_val
        · rfl
        · intro W1 hS hE
          clear hS hE
          unfold ag.does
          go_simp
          first | done | exact ⟨rfl, rfl⟩ | rfl | (exact ⟨by go_num, rfl⟩) | (simp; done) | trace_state
        simp only [Act.put, List.setIfInBounds_toArray, List.set_cons_zero, List.set_cons_succ]
        apply ag.walk_val
        · rfl
        · intro W1 hS hE
          clear hS hE
          unfold ag.does
          go_simp
          first | done | exact ⟨rfl, rfl⟩ | rfl | (exact ⟨by go_num, rfl⟩) | (simp; done) | trace_state
        simp only [Act.put, List.setIfInBounds_toArray, List.set_cons_zero, List.set_cons_succ]
        apply ag.walk_val
        · rfl
        · intro W1 hS hE
          clear hS hE
          unfold ag.does
          go_simp
          first | done | exact ⟨rfl, rfl⟩ | rfl | (exact ⟨by go_num, rfl⟩) | (simp; done) | ((simp [hmI])) | trace_state
        simp only [Act.put, List.setIfInBounds_toArray, List.set_cons_zero, List.set_cons_succ]
        apply ag.walk_val
        · rfl
        · intro W1 hS hE
          clear hS hE
          unfold ag.does
          go_simp
          first | done | exact ⟨rfl, rfl⟩ | rfl | (exact ⟨by go_num, rfl⟩) | (simp; done) | trace_state
        simp only [Act.put, List.setIfInBounds_toArray, List.set_cons_zero, List.set_cons_succ]
        apply ag.walk_val
        · rfl
        · intro W1 hS hE
          clear hS hE
          unfold ag.does
          go_simp
          first | done | exact ⟨rfl, rfl⟩ | rfl | (exact ⟨by go_num, rfl⟩) | (simp; done) | trace_state
        simp only [Act.put, List.setIfInBounds_toArray, List.set_cons_zero, List.set_cons_succ]
        refine ag.walk_nil (fun w14 hS hF hP => ?_)
        clear hP
        have HBF := Lib.hid (HBW.out.trans ((H11.out.2.2.trans (hS.mono H11.out.2.2.size)).mono HBW.out.size))
        clear hF hS
        go_wp2_with fail
        go_ret
        exact ⟨rfl, HBF.out⟩
end Go.Proofs.Ytmbafcfoboknkaa.agr
