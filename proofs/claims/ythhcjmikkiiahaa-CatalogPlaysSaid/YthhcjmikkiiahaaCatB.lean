/- A catalog: what it is; New, has, Table's columns; walked. -/
import Derived.Test.YthhcjmikkiiahaaCatA
namespace Go.Proofs.Ythhcjmikkiiahaa.cat
set_option linter.unusedVariables false
open Go.RowKit Go.WideShapes Go.MapKept
attribute [local go_sem] Go.RowKit.run_makeMap
/-- a catalog, plain: its tables and its views, in the order in which they came -/
structure CatS where
  tn : List ByteArray
  tb : ByteArray → List Cn × Int
  vn : List ByteArray
  vu : ByteArray → List ByteArray
def CatS.no : CatS := ⟨[], fun _ => ([], 0), [], fun _ => []⟩
/-- the blocks that a catalog turns -/
def Own3 (bs bt bv : Nat) (k : Nat) : Prop := k = bs ∨ k = bt ∨ k = bv
structure Cat (bs bt bv m : Nat) (S : CatS) (w : World) (Dt Dv : Dat) (ft : ByteArray → TE) (fv : ByteArray → VE) : Prop where
  fl : Flds w bs TCa [.map (some bt), .map (some bv)]
  ne : bt ≠ bv
  mt : NM tbE tbD ⟨ByteArray.empty, none, 0, 0, 0⟩ w bt m Dt S.tn ft
  mv : NM viE viD ⟨none, 0, 0⟩ w bv m Dv S.vn fv
  okt : ∀ s, adOk (ft s).a = true
  nlt : ∀ s, (ft s).a = none → (ft s).n = 0 ∧ (ft s).c = 0
  mis : ∀ s, s ∉ S.tn → ft s = ⟨ByteArray.empty, none, 0, 0, 0⟩
  okv : ∀ s, adOk (fv s).a = true
  misv : ∀ s, s ∉ S.vn → fv s = ⟨none, 0, 0⟩
  rt : ∀ s ∈ S.tn, (ft s).nm = s ∧ (ft s).k = (S.tb s).2 ∧ (ft s).n = (S.tb s).1.length ∧ Row w (.slice (ft s).a (ft s).n (ft s).c) 3 (ft s).n (cnCells (S.tb s).1) ∧ ∀ b, (Value.slice (ft s).a (ft s).n (ft s).c).ownBlock = some b → ¬ Own3 bs bt bv b
  rv : ∀ s ∈ S.vn, (fv s).n = (S.vu s).length ∧ Row w (.slice (fv s).a (fv s).n (fv s).c) 1 (fv s).n ((S.vu s).map Value.string) ∧ ∀ b, (Value.slice (fv s).a (fv s).n (fv s).c).ownBlock = some b → ¬ Own3 bs bt bv b
section
variable {bs bt bv m : Nat} {S : CatS} {w w' : World} {Dt Dv : Dat} {ft : ByteArray → TE} {fv : ByteArray → VE}
theorem Cat.later (h : Cat bs bt bv m S w Dt Dv ft fv) (hb : Below w.heap.size w w') : Cat bs bt bv m S w' Dt Dv ft fv := by
  have hg : w.grownBy w' none := ⟨hb.os, hb.tape, hb.output, hb.size, fun k hk _ => hb.block k hk⟩
  exact ⟨h.fl.later hb, h.ne, h.mt.kept hg (by simp), h.mv.kept hg (by simp), h.okt, h.nlt, h.mis, h.okv, h.misv, fun s hs => by obtain ⟨h1, h2, h3, h4, h5⟩ := h.rt s hs; exact ⟨h1, h2, h3, h4.later hb, h5⟩, fun s hs => by obtain ⟨h1, h2, h3⟩ := h.rv s hs; exact ⟨h1, h2.later hb, h3⟩⟩
theorem new_cat (w : World) : ∃ W, W = ((w.alloc (.map #[] 0)).alloc (.map #[] 0)).alloc (.cells #[.map (some w.heap.size), .map (some (w.heap.size + 1))] TCa) ∧ Cat (w.heap.size + 1 + 1) w.heap.size (w.heap.size + 1) 0 CatS.no W (.map []) (.map []) (fun _ => ⟨ByteArray.empty, none, 0, 0, 0⟩) (fun _ => ⟨none, 0, 0⟩) ∧ Below w.heap.size w W := by
  have z1 : (w.alloc (.map #[] 0)).heap.size = w.heap.size + 1 := World.size_alloc _ _
  have z2 : ((w.alloc (.map #[] 0)).alloc (.map #[] 0)).heap.size = w.heap.size + 1 + 1 := by rw [World.size_alloc, z1]
  have hf := Flds.new ((w.alloc (.map #[] 0)).alloc (.map #[] 0)) TCa [.map (some w.heap.size), .map (some (w.heap.size + 1))]
  rw [z2] at hf
  have h1 := NM.made (R := tbE) (dat := tbD) (z := ⟨ByteArray.empty, none, 0, 0, 0⟩) w
  have h2 := NM.made (R := viE) (dat := viD) (z := ⟨none, 0, 0⟩) (w.alloc (.map #[] 0))
  rw [z1] at h2
  refine ⟨_, rfl, ⟨hf, by omega, (h1.kept (World.grownBy_alloc _ _ none) (by simp)).kept (World.grownBy_alloc _ _ none) (by simp), h2.kept (World.grownBy_alloc _ _ none) (by simp), fun s => rfl, fun s _ => ⟨rfl, rfl⟩, fun s _ => rfl, fun s => rfl, fun s _ => rfl, fun s hs => (by cases hs), fun s hs => (by cases hs)⟩, ((Below.refl _ _).alloc (Nat.le_refl _) _ |>.alloc (by omega) _ |>.alloc (by omega) _)⟩
set_option maxRecDepth 100000 in
set_option maxHeartbeats 400000 in
theorem new_any (w : World) : Calls Try.prog 7 #[] w fun e w' => ∃ bs bt bv, e = .returned (.pointer (some ⟨bs, 0, none⟩)) ∧ w.heap.size ≤ bs ∧ w.heap.size ≤ bt ∧ w.heap.size ≤ bv ∧ Cat bs bt bv 0 CatS.no w' (.map []) (.map []) (fun _ => ⟨ByteArray.empty, none, 0, 0, 0⟩) (fun _ => ⟨none, 0, 0⟩) ∧ Below w.heap.size w w' := by
  go_enter Try.func7, Try.ntmps7
  go_wp2_with fail
  go_ret
  obtain ⟨W, e, h1, h2⟩ := new_cat w
  rw [← e]
  exact ⟨_, _, _, rfl, by omega, by omega, by omega, h1, h2⟩
theorem Cat.look_t (h : Cat bs bt bv m S w Dt Dv ft fv) (k : ByteArray) : (Instr.lookup M1 (.map (some bt)) (.string k) true).run Try.prog w = .ok (.tuple #[(ft k).val, .bool (isIn k S.tn)]) w := by
  by_cases hk : k.size ≤ maxLen
  · exact h.mt.look_t h.okt k hk
  · have hn : k ∉ S.tn := fun hm => hk (h.mt.le k hm)
    rw [isIn_no hn, h.mis k hn]
    exact look_long h.mt.own Try.underlying98 (zTb w) k (by omega)
theorem Cat.look_v (h : Cat bs bt bv m S w Dt Dv ft fv) (k : ByteArray) : (Instr.lookup M2 (.map (some bv)) (.string k) true).run Try.prog w = .ok (.tuple #[(fv k).val, .bool (isIn k S.vn)]) w := by
  by_cases hk : k.size ≤ maxLen
  · exact h.mv.look_v h.okv k hk
  · have hn : k ∉ S.vn := fun hm => hk (h.mv.le k hm)
    rw [isIn_no hn, h.misv k hn]
    exact look_long h.mv.own Try.underlying99 (zVi w) k (by omega)
set_option maxRecDepth 100000 in
set_option maxHeartbeats 2000000 in
theorem has_any (h : Cat bs bt bv m S w Dt Dv ft fv) (k : ByteArray) :
    Calls Try.prog 36 #[.pointer (some ⟨bs, 0, none⟩), .string k] w fun e w' => e = .returned (.bool (isIn k S.tn || isIn k S.vn)) ∧ Below w.heap.size w w' := by
  have q0 := h.fl.cell 0
  have q1 := h.fl.cell 1
  have l0 := h.fl.lt
  simp only [List.getElem?_cons_zero, List.getElem?_cons_succ] at q0 q1
  have r1 := h.look_t k
  have hb1 : Below w.heap.size w (w.alloc (.cells #[.string (ft k).nm, .slice (ft k).a (ft k).n (ft k).c, .int .i64 (ft k).k] TTb)) := (Below.refl _ _).alloc (Nat.le_refl _) _
  have r2 := (h.later hb1).look_v k
  unfold TE.val at r1
  unfold VE.val at r2
  have e1 : (k = k) := rfl
  obtain ⟨A, hA⟩ : ∃ A, isIn k S.tn = A := ⟨_, rfl⟩
  obtain ⟨B, hB⟩ : ∃ B, isIn k S.vn = B := ⟨_, rfl⟩
  rw [hA] at r1 ⊢
  rw [hB] at r2 ⊢
  generalize ft k = x at *
  generalize fv k = y at *
  clear h e1 hA hB
  obtain ⟨xn, xa, xl, xc, xk⟩ := x
  obtain ⟨ya, yl, yc⟩ := y
  dsimp only at r1 r2 hb1
  go_enter Try.func36, Try.ntmps36
  cases A <;> cases B
  all_goals
    go_wp2_with fail
    go_ret
    exact ⟨rfl, ((Below.refl _ _).alloc (Nat.le_refl _) _).alloc (by simp) _⟩
theorem Cat.mono (h : Cat bs bt bv m S w Dt Dv ft fv) {m' : Nat} (hm : m ≤ m') : Cat bs bt bv m' S w Dt Dv ft fv :=
  ⟨h.fl, h.ne, h.mt.mono hm, h.mv.mono hm, h.okt, h.nlt, h.mis, h.okv, h.misv, h.rt, h.rv⟩
theorem map_ne_cells {w : World} {b b' : Nat} {T k : TypeId} {fs : List Value} {R : Value → Option (Dat × List MemPlace)} {n : Nat} {D : Dat} (h : w.ownsMap Try.prog k R b n D) (hf : Flds w b' T fs) : b ≠ b' := by
  rintro rfl
  obtain ⟨es, clock, hb, -⟩ := h
  have hf' : w.heap[b]? = _ := hf
  rw [hb] at hf'; cases hf'
theorem row_own {w w' : World} {own : Nat → Prop} {v : Value} {size n : Nat} {xs : List Value} (h : Row w v size n xs) (ho : Only own w w') (hn : ∀ b, v.ownBlock = some b → ¬ own b) : Row w' v size n xs := h.only ho hn
theorem only_of_grown {w w' : World} {b : Nat} {own : Nat → Prop} (hg : w.grownBy w' (some b)) (ho : own b) : Only own w w' :=
  ⟨hg.os, hg.tape, hg.output, hg.size, fun j hj hn => hg.block j hj (fun e => hn (by simp only [Option.some.injEq] at e; rw [e]; exact ho))⟩
/-- a view is struck -/
theorem Cat.dropView (h : Cat bs bt bv m S w Dt Dv ft fv) (k : ByteArray) (hk : k.size ≤ maxLen) (hin : k ∈ S.vn) (ty : TypeId) :
    ∃ w', (Builtin.delete_ #[M2, TK] ty #[.map (some bv), .string k]).run Try.prog w = .ok (.tuple #[]) w' ∧ Cat bs bt bv m { S with vn := delN S.vn k } w' Dt (Dv.del (nm k)) ft (upd fv k ⟨none, 0, 0⟩) ∧ Only (Own3 bs bt bv) w w' := by
  obtain ⟨w', h1, h2, h3⟩ := h.mv.del Try.underlying99 hk hin ty
  have ho : Only (Own3 bs bt bv) w w' := only_of_grown h3 (.inr (.inr rfl))
  refine ⟨w', h1, ⟨h.fl.grown h3 (fun e => map_ne_cells h.mv.own h.fl (by simpa using e.symm)), h.ne, h.mt.kept h3 (fun e => h.ne (by simpa using e)), h2, h.okt, h.nlt, h.mis, fun s => ?_, fun s hs => ?_, fun s hs => ?_, fun s hs => ?_⟩, ho⟩
  · by_cases e : s = k
    · subst e; rw [upd_same]; rfl
    · rw [upd_other _ _ e]; exact h.okv s
  · by_cases e : s = k
    · subst e; rw [upd_same]
    · rw [upd_other _ _ e]; exact h.misv s (fun h' => hs (mem_delN.2 ⟨h', e⟩))
  · obtain ⟨a1, a2, a3, a4, a5⟩ := h.rt s hs
    exact ⟨a1, a2, a3, row_own a4 ho a5, a5⟩
  · have hs' := (mem_delN.1 hs).1
    have e : s ≠ k := (mem_delN.1 hs).2
    rw [upd_other _ _ e]
    obtain ⟨a1, a2, a3⟩ := h.rv s hs'
    exact ⟨a1, row_own a2 ho a3, a3⟩
/-- a table is struck -/
theorem Cat.dropTable (h : Cat bs bt bv m S w Dt Dv ft fv) (k : ByteArray) (hk : k.size ≤ maxLen) (hin : k ∈ S.tn) (ty : TypeId) :
    ∃ w', (Builtin.delete_ #[M1, TK] ty #[.map (some bt), .string k]).run Try.prog w = .ok (.tuple #[]) w' ∧ Cat bs bt bv m { S with tn := delN S.tn k } w' (Dt.del (nm k)) Dv (upd ft k ⟨ByteArray.empty, none, 0, 0, 0⟩) fv ∧ Only (Own3 bs bt bv) w w' := by
  obtain ⟨w', h1, h2, h3⟩ := h.mt.del Try.underlying98 hk hin ty
  have ho : Only (Own3 bs bt bv) w w' := only_of_grown h3 (.inr (.inl rfl))
  refine ⟨w', h1, ⟨h.fl.grown h3 (fun e => map_ne_cells h.mt.own h.fl (by simpa using e.symm)), h.ne, h2, h.mv.kept h3 (fun e => h.ne (by simpa using e.symm)), fun s => ?_, fun s hs => ?_, fun s hs => ?_, h.okv, h.misv, fun s hs => ?_, fun s hs => ?_⟩, ho⟩
  · by_cases e : s = k
    · subst e; rw [upd_same]; rfl
    · rw [upd_other _ _ e]; exact h.okt s
  · by_cases e : s = k
    · subst e; rw [upd_same]; exact ⟨rfl, rfl⟩
    · rw [upd_other _ _ e] at hs ⊢; exact h.nlt s hs
  · by_cases e : s = k
    · subst e; rw [upd_same]
    · rw [upd_other _ _ e]; exact h.mis s (fun h' => hs (mem_delN.2 ⟨h', e⟩))
  · have hs' := (mem_delN.1 hs).1
    have e : s ≠ k := (mem_delN.1 hs).2
    rw [upd_other _ _ e]
    obtain ⟨a1, a2, a3, a4, a5⟩ := h.rt s hs'
    exact ⟨a1, a2, a3, row_own a4 ho a5, a5⟩
  · obtain ⟨a1, a2, a3⟩ := h.rv s hs
    exact ⟨a1, row_own a2 ho a3, a3⟩
/-- a table is laid -/
theorem Cat.putTable (h : Cat bs bt bv m S w Dt Dv ft fv) (k : ByteArray) (hk : k.size ≤ maxLen) (hin : k ∉ S.tn) (hm : m < maxLen) (x : TE) (hx : adOk x.a = true) (hxn : x.a = none → x.n = 0 ∧ x.c = 0) (cols : List Cn) (hnm : x.nm = k) (hn : x.n = cols.length) (hr : Row w (.slice x.a x.n x.c) 3 x.n (cnCells cols)) (hno : ∀ b, (Value.slice x.a x.n x.c).ownBlock = some b → ¬ Own3 bs bt bv b) :
    ∃ w', (Instr.mapUpdate M1 (.map (some bt)) (.string k) x.val).run Try.prog w = .ok () w' ∧ Cat bs bt bv (m + 1) { S with tn := S.tn ++ [k], tb := upd S.tb k (cols, x.k) } w' (Dt.put (nm k) (tbD x)) Dv (upd ft k x) fv ∧ Only (Own3 bs bt bv) w w' := by
  obtain ⟨w', h1, h2, h3⟩ := h.mt.put Try.underlying98 hk hin hm (tbE_mk x hx)
  have ho : Only (Own3 bs bt bv) w w' := only_of_grown h3 (.inr (.inl rfl))
  refine ⟨w', h1, ⟨h.fl.grown h3 (fun e => map_ne_cells h.mt.own h.fl (by simpa using e.symm)), h.ne, h2, (h.mv.kept h3 (fun e => h.ne (by simpa using e.symm))).mono (by omega), fun s => ?_, fun s hs => ?_, fun s hs => ?_, h.okv, h.misv, fun s hs => ?_, fun s hs => ?_⟩, ho⟩
  · by_cases e : s = k
    · subst e; rw [upd_same]; exact hx
    · rw [upd_other _ _ e]; exact h.okt s
  · by_cases e : s = k
    · subst e; rw [upd_same] at hs ⊢; exact hxn hs
    · rw [upd_other _ _ e] at hs ⊢; exact h.nlt s hs
  · have e : s ≠ k := fun e => hs (by rw [e]; exact List.mem_append_right _ (List.mem_singleton.2 rfl))
    rw [upd_other _ _ e]; exact h.mis s (fun h' => hs (List.mem_append_left _ h'))
  · by_cases e : s = k
    · subst e
      dsimp only
      rw [upd_same, upd_same]
      exact ⟨hnm, rfl, hn, row_own hr ho hno, hno⟩
    · have hs' : s ∈ S.tn := by
        rcases List.mem_append.1 hs with hs | hs
        · exact hs
        · exact absurd (by simpa using hs) e
      dsimp only
      rw [upd_other _ _ e, upd_other _ _ e]
      obtain ⟨a1, a2, a3, a4, a5⟩ := h.rt s hs'
      exact ⟨a1, a2, a3, row_own a4 ho a5, a5⟩
  · obtain ⟨a1, a2, a3⟩ := h.rv s hs
    exact ⟨a1, row_own a2 ho a3, a3⟩
/-- a view is laid -/
theorem Cat.putView (h : Cat bs bt bv m S w Dt Dv ft fv) (k : ByteArray) (hk : k.size ≤ maxLen) (hin : k ∉ S.vn) (hm : m < maxLen) (x : VE) (hx : adOk x.a = true) (us : List ByteArray) (hn : x.n = us.length) (hr : Row w (.slice x.a x.n x.c) 1 x.n (us.map Value.string)) (hno : ∀ b, (Value.slice x.a x.n x.c).ownBlock = some b → ¬ Own3 bs bt bv b) :
    ∃ w', (Instr.mapUpdate M2 (.map (some bv)) (.string k) x.val).run Try.prog w = .ok () w' ∧ Cat bs bt bv (m + 1) { S with vn := S.vn ++ [k], vu := upd S.vu k us } w' Dt (Dv.put (nm k) (viD x)) ft (upd fv k x) ∧ Only (Own3 bs bt bv) w w' := by
  obtain ⟨w', h1, h2, h3⟩ := h.mv.put Try.underlying99 hk hin hm (viE_mk x hx)
  have ho : Only (Own3 bs bt bv) w w' := only_of_grown h3 (.inr (.inr rfl))
  refine ⟨w', h1, ⟨h.fl.grown h3 (fun e => map_ne_cells h.mv.own h.fl (by simpa using e.symm)), h.ne, (h.mt.kept h3 (fun e => h.ne (by simpa using e))).mono (by omega), h2, h.okt, h.nlt, h.mis, fun s => ?_, fun s hs => ?_, fun s hs => ?_, fun s hs => ?_⟩, ho⟩
  · by_cases e : s = k
    · subst e; rw [upd_same]; exact hx
    · rw [upd_other _ _ e]; exact h.okv s
  · have e : s ≠ k := fun e => hs (by rw [e]; exact List.mem_append_right _ (List.mem_singleton.2 rfl))
    rw [upd_other _ _ e]; exact h.misv s (fun h' => hs (List.mem_append_left _ h'))
  · obtain ⟨a1, a2, a3, a4, a5⟩ := h.rt s hs
    exact ⟨a1, a2, a3, row_own a4 ho a5, a5⟩
  · by_cases e : s = k
    · subst e
      dsimp only
      rw [upd_same, upd_same]
      exact ⟨hn, row_own hr ho hno, hno⟩
    · have hs' : s ∈ S.vn := by
        rcases List.mem_append.1 hs with hs | hs
        · exact hs
        · exact absurd (by simpa using hs) e
      dsimp only
      rw [upd_other _ _ e, upd_other _ _ e]
      obtain ⟨a1, a2, a3⟩ := h.rv s hs'
      exact ⟨a1, row_own a2 ho a3, a3⟩
set_option maxRecDepth 100000 in
set_option maxHeartbeats 2000000 in
theorem dropView_any (h : Cat bs bt bv m S w Dt Dv ft fv) (k : ByteArray) (hk : k.size ≤ maxLen) :
    Calls Try.prog 12 #[.pointer (some ⟨bs, 0, none⟩), .string k] w fun e w' => e = .returned (.int .i64 (if isIn k S.vn then 0 else 6)) ∧ Only (Own3 bs bt bv) w w' ∧ (∃ Dv' fv', Cat bs bt bv m { S with vn := delN S.vn k } w' Dt Dv' ft fv') := by
  have q1 := h.fl.cell 1
  have l0 := h.fl.lt
  simp only [List.getElem?_cons_zero, List.getElem?_cons_succ] at q1
  have r2 := h.mv.look_v h.okv k hk
  have hb1 : Below w.heap.size w (w.alloc (.cells #[.slice (fv k).a (fv k).n (fv k).c] TVi)) := (Below.refl _ _).alloc (Nat.le_refl _) _
  have h1 := h.later hb1
  have q2 := h1.fl.cell 1
  have l2 := h1.fl.lt
  simp only [List.getElem?_cons_zero, List.getElem?_cons_succ] at q2
  unfold VE.val at r2
  by_cases hin : k ∈ S.vn
  · rw [isIn_yes hin] at r2 ⊢
    obtain ⟨w', e1, e2, e3⟩ := h1.dropView k hk hin 0
    have hfin : Only (Own3 bs bt bv) w w' := (Only.of_below (own := Own3 bs bt bv) hb1).trans e3 (fun _ _ h => h)
    clear h h1 hin
    generalize fv k = y at *
    obtain ⟨ya, yl, yc⟩ := y
    dsimp only at r2 hb1 q2 l2 e1
    go_enter Try.func12, Try.ntmps12
    go_wp2_with fail
    go_ret
    exact ⟨rfl, hfin, _, _, e2⟩
  · rw [isIn_no hin] at r2 ⊢
    have hS : delN S.vn k = S.vn := delN_self hin
    rw [hS]
    clear h hin hS
    generalize fv k = y at *
    obtain ⟨ya, yl, yc⟩ := y
    dsimp only at r2 hb1 q2 l2 h1
    go_enter Try.func12, Try.ntmps12
    go_wp2_with fail
    go_ret
    exact ⟨rfl, Only.of_below hb1, _, _, h1⟩
end
end Go.Proofs.Ythhcjmikkiiahaa.cat
