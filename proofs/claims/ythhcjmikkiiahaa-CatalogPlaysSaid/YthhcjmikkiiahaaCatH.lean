/- A table is dropped; walked. -/
import Derived.Test.YthhcjmikkiiahaaCatD
import Derived.Test.YthhcjmikkiiahaaCatE
namespace Go.Proofs.Ythhcjmikkiiahaa.cat
set_option linter.unusedVariables false
open Go.RowKit Go.WideShapes Go.MapKept
def dropErr (S : CatS) (k : ByteArray) : Int := if isIn k S.tn then (if 0 < (usersL S k).length then 15 else 0) else 6
def CatS.drop (S : CatS) (k : ByteArray) : CatS := if dropErr S k = 0 then { S with tn := delN S.tn k } else S
section
variable {bs bt bv m : Nat} {S : CatS} {w w' : World} {Dt Dv : Dat} {ft : ByteArray → TE} {fv : ByteArray → VE}
set_option maxRecDepth 100000 in
set_option maxHeartbeats 4000000 in
theorem drop_any (hsort : SortC) (h : Cat bs bt bv m S w Dt Dv ft fv) (hm : m ≤ 1000000) (hus : ∀ s ∈ S.vn, (S.vu s).length ≤ 1000000) (k : ByteArray) (hk : k.size ≤ maxLen) :
    Calls Try.prog 8 #[.pointer (some ⟨bs, 0, none⟩), .string k] w (CatPost bs bt bv m (S.drop k) w (dropErr S k)) := by
  have q0 := h.fl.cell 0
  have l0 := h.fl.lt
  simp only [List.getElem?_cons_zero, List.getElem?_cons_succ] at q0
  have r1 := h.mt.look_t h.okt k hk
  have hb1 : Below w.heap.size w (w.alloc (.cells #[.string (ft k).nm, .slice (ft k).a (ft k).n (ft k).c, .int .i64 (ft k).k] TTb)) := (Below.refl _ _).alloc (Nat.le_refl _) _
  have HUA := Lib.hid (fun (W : World) (hb : Below w.heap.size w W) => users_any hsort (h.later hb) hm hus k hk)
  have HC := Lib.hid h
  unfold TE.val at r1
  obtain ⟨A, hA⟩ : ∃ A, isIn k S.tn = A := ⟨_, rfl⟩
  rw [hA] at r1
  have HB1 : Hid (Below w.heap.size w (w.alloc (.cells #[.string (ft k).nm, .slice (ft k).a (ft k).n (ft k).c, .int .i64 (ft k).k] TTb))) := Lib.hid hb1
  generalize ft k = x at r1 HB1 hb1
  clear h hsort hus hb1
  obtain ⟨xn, xa, xl, xc, xk⟩ := x
  dsimp only at r1 HB1
  cases A with
  | false =>
    have he : dropErr S k = 6 := by unfold dropErr; rw [hA, if_neg (by decide)]
    have HEE := Lib.hid he
    have HSS : Hid (S.drop k = S) := Lib.hid (by unfold CatS.drop; rw [he, if_neg (by decide)])
    clear hA he
    go_enter Try.func8, Try.ntmps8
    go_wp2_with fail
    go_ret
    rw [HEE.out, HSS.out]
    exact CatPost.same HC.out HB1.out 6 (by omega)
  | true =>
    obtain ⟨N, hN⟩ : ∃ N, (usersL S k).length = N := ⟨_, rfl⟩
    rw [hN] at HUA
    by_cases hN0 : 0 < N
    · have he : dropErr S k = 15 := by unfold dropErr; rw [hA, if_pos rfl, hN, if_pos hN0]
      have HEE := Lib.hid he
      have HSS : Hid (S.drop k = S) := Lib.hid (by unfold CatS.drop; rw [he, if_neg (by decide)])
      have d0 : (0 : Int) < (N : Int) := by omega
      clear hA he hN
      go_enter Try.func8, Try.ntmps8
      go_wp2_with (go_at_call 20; refine (HUA.out _ HB1.out).mono ?_; rintro ee w2 ⟨a2, c2, rfl, -, hb2⟩; have HB2 := Lib.hid hb2; clear hb2)
      go_ret
      rw [HEE.out, HSS.out]
      exact CatPost.same HC.out (HB1.out.trans (HB2.out.mono HB1.out.size)) 15 (by omega)
    · have he : dropErr S k = 0 := by unfold dropErr; rw [hA, if_pos rfl, hN, if_neg hN0]
      have HEE := Lib.hid he
      have HSS : Hid (S.drop k = { S with tn := delN S.tn k }) := Lib.hid (by unfold CatS.drop; rw [he, if_pos rfl])
      have d0 : ¬ (0 : Int) < (N : Int) := by omega
      have HIN := Lib.hid (isIn_iff.1 hA)
      clear hA he hN
      go_enter Try.func8, Try.ntmps8
      go_upto_region 8 with (go_at_call 20; refine (HUA.out _ HB1.out).mono ?_; rintro ee w2 ⟨a2, c2, rfl, -, hb2⟩; have HB2 := Lib.hid hb2; clear hb2)
      have hbz := HB1.out.trans (HB2.out.mono HB1.out.size)
      have hcw := HC.out.later hbz
      have u0 := hcw.fl.cell 0
      have ul := hcw.fl.lt
      simp only [List.getElem?_cons_zero, List.getElem?_cons_succ] at u0
      obtain ⟨w', e1, e2, e3⟩ := hcw.dropTable k hk HIN.out 0
      have HFIN : Hid (Only (Own3 bs bt bv) w w') := Lib.hid ((Only.of_below (own := Own3 bs bt bv) hbz).trans e3 (fun _ _ h => h))
      have HE2 := Lib.hid e2
      clear hbz hcw e2 e3 q0 l0
      go_wp2_with fail
      go_ret
      rw [HEE.out, HSS.out]
      exact ⟨rfl, HFIN.out, _, _, _, _, HE2.out⟩
end
end Go.Proofs.Ythhcjmikkiiahaa.cat
