/- A table of a name; walked. The library's sort. -/
import Derived.Test.YthhcjmikkiiahaaCatD
import Derived.Test.YthhcjmikkiiahaaCatE
import Derived.Test.YthhcjmikkiiahaaCatG
import Derived.Test.YthhcjmikkiiahaaShelf
namespace Go.Proofs.Ythhcjmikkiiahaa.cat
set_option linter.unusedVariables false
open Go.RowKit Go.WideShapes Go.MapKept
theorem sortC : SortC := ⟨fun blk off cap ss w hH hb hs => Try.slices_Sort_string blk off cap ss w hH hb hs, fun p cap w => Try.slices_Sort_string_none p cap w⟩
def CatS.cols (S : CatS) (k : ByteArray) : List Cn := if isIn k S.tn then (S.tb k).1 else []
/-- what is told of a name -/
def TablePost (S : CatS) (k : ByteArray) (w : World) (e : Ending) (w' : World) : Prop := ∃ (a : Option Addr) (c : Nat) (nm : ByteArray) (key : Int), e = .returned (.tuple #[.agg #[.string nm, .slice a (S.cols k).length c, .int .i64 key], .bool (isIn k S.tn)]) ∧ Row w' (.slice a (S.cols k).length c) 3 (S.cols k).length (cnCells (S.cols k)) ∧ (k ∈ S.tn → nm = k ∧ key = (S.tb k).2) ∧ Below w.heap.size w w'
theorem grown_two' {a b c : World} {row : Option Nat} (h : a.grownBy b row) (h' : b.grownBy c row) : a.grownBy c row :=
  ⟨h'.os.trans h.os, h'.tape.trans h.tape, h'.output.trans h.output, Nat.le_trans h.size h'.size, fun k hk hn => (h'.block k (Nat.lt_of_lt_of_le hk h.size) hn).trans (h.block k hk hn)⟩
section
variable {bs bt bv m : Nat} {S : CatS} {w w' : World} {Dt Dv : Dat} {ft : ByteArray → TE} {fv : ByteArray → VE}
set_option maxRecDepth 100000 in
set_option maxHeartbeats 4000000 in
theorem table_any (h : Cat bs bt bv m S w Dt Dv ft fv) (hcol : ∀ s ∈ S.tn, (S.tb s).1.length ≤ 1000000) (k : ByteArray) :
    Calls Try.prog 14 #[.pointer (some ⟨bs, 0, none⟩), .string k] w (TablePost S k w) := by
  have hx : ∃ (x : TE), ft k = x ∧ x.n = (S.cols k).length ∧ (x.a = none → x.n = 0 ∧ x.c = 0) ∧ Row w (.slice x.a x.n x.c) 3 x.n (cnCells (S.cols k)) ∧ (k ∈ S.tn → x.nm = k ∧ x.k = (S.tb k).2) ∧ (S.cols k).length ≤ 1000000 := by
    refine ⟨ft k, rfl, ?_⟩
    by_cases hin : k ∈ S.tn
    · obtain ⟨r1, r2, r3, r4, r5⟩ := h.rt k hin
      have hc : S.cols k = (S.tb k).1 := by unfold CatS.cols; rw [isIn_yes hin, if_pos rfl]
      rw [hc]
      exact ⟨r3, h.nlt k, r4, fun _ => ⟨r1, r2⟩, hcol k hin⟩
    · have hc : S.cols k = [] := by unfold CatS.cols; rw [isIn_no hin, if_neg (by decide)]
      rw [hc, h.mis k hin]
      exact ⟨rfl, fun _ => ⟨rfl, rfl⟩, Row.nil _ _ _ _, fun e => absurd e hin, by decide⟩
  obtain ⟨W1, hW1⟩ : ∃ W, w.alloc (.cells #[.string (ByteArray.mk #[]), .slice none 0 0, .int .i64 0] TTb) = W := ⟨_, rfl⟩
  obtain ⟨x, hx0, hx1, hx2, hx3, hx4, hx5⟩ := hx
  have hb1 : Below w.heap.size w W1 := by rw [← hW1]; exact (Below.refl _ _).alloc (Nat.le_refl _) _
  have h1 := h.later hb1
  have q0 := h1.fl.cell 0
  have l0 := h1.fl.lt
  simp only [List.getElem?_cons_zero, List.getElem?_cons_succ] at q0
  have r1 := h1.look_t k
  rw [hx0] at r1
  obtain ⟨xn, xa, xl, xc, xk⟩ := x
  dsimp only at hx1 hx2 hx3 hx4
  unfold TE.val at r1
  dsimp only at r1
  subst hx1
  obtain ⟨N, hN⟩ : ∃ N, (S.cols k).length = N := ⟨_, rfl⟩
  rw [hN] at hx2 hx3 hx5 r1
  obtain ⟨W2, hW2⟩ : ∃ W, W1.alloc (.cells #[.string xn, .slice xa N xc, .int .i64 xk] TTb) = W := ⟨_, rfl⟩
  have hb2 : Below W1.heap.size W1 W2 := by rw [← hW2]; exact (Below.refl _ _).alloc (Nat.le_refl _) _
  have hbw2 : Below w.heap.size w W2 := hb1.trans (hb2.mono hb1.size)
  obtain ⟨g4, hg4⟩ : ∃ g, w.heap.size = g := ⟨_, rfl⟩
  obtain ⟨g6, hg6⟩ : ∃ g, W1.heap.size = g := ⟨_, rfl⟩
  have hf4 : Flds W2 g4 TTb [.string ByteArray.empty, .slice none 0 0, .int .i64 0] := (by rw [← hW1, ← hg4]; exact Flds.new w TTb _ : Flds W1 g4 TTb [.string ByteArray.empty, .slice none 0 0, .int .i64 0]).later hb2
  have hf6 : Flds W2 g6 TTb [.string xn, .slice xa N xc, .int .i64 xk] := by rw [← hW2, ← hg6]; exact Flds.new W1 TTb _
  have hne : g4 ≠ g6 := by rw [← hg4, ← hg6, ← hW1, World.size_alloc]; omega
  have HG : Hid (w.heap.size ≤ g4 ∧ w.heap.size ≤ g6 ∧ g6 < W2.heap.size) := Lib.hid ⟨by omega, by rw [← hg6]; exact hb1.size, hf6.lt⟩
  have HCL := Lib.hid (cloneC_any xa N xc (S.cols k) hN hx5 W2 (hx3.later hbw2) hx2)
  have HF := Lib.hid (And.intro hf4 hf6)
  have HB := Lib.hid hbw2
  have HN := Lib.hid hN
  have HX := Lib.hid hx4
  obtain ⟨y1, yl⟩ : W2.cell? ⟨g6, 1, none⟩ = some (.slice xa N xc) ∧ g6 < W2.heap.size := ⟨hf6.cell 1, hf6.lt⟩
  have HNE := Lib.hid hne
  have HG4 : Hid (g4 < W2.heap.size) := Lib.hid hf4.lt
  clear h hcol hx0 hx2 hx3 hx4 hx5 hb1 h1 hN hb2 hbw2 hf4 hf6 hne
  go_enter Try.func14, Try.ntmps14
  go_upto_region 5 with (go_at_call 39; refine HCL.out.mono ?_; rintro ee w3 ⟨a2, c2, rfl, ok2, hr2, hbk, -, hnl2, hb3⟩; have HCP := Lib.hid (And.intro hr2 (And.intro hbk hb3)); have u1 := (HF.out.2.later hb3).cell 1; have ul := (HF.out.2.later hb3).lt; have uz := (HF.out.2.later hb3).frozen 1; (simp only [List.getElem?_cons_zero, List.getElem?_cons_succ] at u1); clear ok2 hr2 hbk hb3 hnl2)
  obtain ⟨W4, hW4⟩ : ∃ W, w3.setCell ⟨g6, 1, none⟩ (.slice a2 N c2) = W := ⟨_, rfl⟩
  have hb3 := HCP.out.2.2
  have hf6' : Flds W4 g6 TTb [.string xn, .slice a2 N c2, .int .i64 xk] := by rw [← hW4]; exact (HF.out.2.later hb3).set 1 _
  have hf4' : Flds W4 g4 TTb [.string ByteArray.empty, .slice none 0 0, .int .i64 0] := by rw [← hW4]; exact (HF.out.1.later hb3).other _ _ HNE.out
  have hb3w : Below w.heap.size w w3 := HB.out.trans (hb3.mono HB.out.size)
  have hb4 : Below w.heap.size w W4 := by rw [← hW4]; exact hb3w.grown (grown_setCell _ _ _) hb3w.size (fun j e => by cases e; exact HG.out.2.1)
  have hr4 : Row W4 (.slice a2 N c2) 3 N (cnCells (S.cols k)) := by rw [← hW4]; exact HCP.out.1.grown (grown_setCell _ _ _) (fun b e e2 => by have h := (HCP.out.2.1 b e).1; have h2 : b = g6 := (by simpa using e2); have := HG.out.2.2; omega)
  rw [hW4]
  have t0 := hf6'.cell 0; have t1 := hf6'.cell 1; have t2 := hf6'.cell 2; have tl := hf6'.lt
  have v0 := hf4'.cell 0; have v1 := hf4'.cell 1; have v2 := hf4'.cell 2; have vl := hf4'.lt
  have z0 := hf4'.frozen 0; have z1 := hf4'.frozen 1; have z2 := hf4'.frozen 2
  simp only [List.getElem?_cons_zero, List.getElem?_cons_succ] at t0 t1 t2 v0 v1 v2
  have HF4 := Lib.hid hf4'; have HB4 := Lib.hid hb4; have HR4 := Lib.hid hr4
  clear hW4 hb3 hf6' hf4' hb3w hb4 hr4 u1 ul uz
  go_wp2_with fail
  obtain ⟨W5, hW5⟩ : ∃ W, ((W4.setCell ⟨g4, 0, none⟩ (.string xn)).setCell ⟨g4, 1, none⟩ (.slice a2 N c2)).setCell ⟨g4, 2, none⟩ (.int .i64 xk) = W := ⟨_, rfl⟩
  have hf5 : Flds W5 g4 TTb [.string xn, .slice a2 N c2, .int .i64 xk] := by rw [← hW5]; exact ((HF4.out.set 0 _).set 1 _).set 2 _
  have hg45 : W4.grownBy W5 (some g4) := by rw [← hW5]; exact grown_two' (grown_two' (grown_setCell _ ⟨g4, 0, none⟩ _) (grown_setCell _ ⟨g4, 1, none⟩ _)) (grown_setCell _ ⟨g4, 2, none⟩ _)
  have hb5 : Below w.heap.size w W5 := HB4.out.grown hg45 HB4.out.size (fun j e => by cases e; exact HG.out.1)
  have hr5 : Row W5 (.slice a2 N c2) 3 N (cnCells (S.cols k)) := HR4.out.grown hg45 (fun b e e2 => by have h := (HCP.out.2.1 b e).1; have h2 : b = g4 := (by simpa using e2); have := HG4.out; omega)
  rw [hW5]
  have c0 := hf5.cell 0; have c1 := hf5.cell 1; have c2' := hf5.cell 2
  simp only [List.getElem?_cons_zero, List.getElem?_cons_succ] at c0 c1 c2'
  clear hW5 hf5 hg45 t0 t1 t2 tl v0 v1 v2 vl z0 z1 z2
  refine bodyPost_ret (v := .tuple #[.agg #[.string xn, .slice a2 N c2, .int .i64 xk], .bool (isIn k S.tn)]) ?_ (by rfl) ?_
  · simp only [results, Try.results14]
    go_simp
  · refine ⟨a2, c2, xn, xk, ?_, ?_, HX.out, hb5⟩
    · rw [HN.out]
    · rw [HN.out]; exact hr5
end
end Go.Proofs.Ythhcjmikkiiahaa.cat
