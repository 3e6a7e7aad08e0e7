/- The views that use a table; walked (the sort's contract is a hypothesis). -/
import Derived.Test.YthhcjmikkiiahaaCatC
import Derived.Maps.RangeWalk
import Derived.Sort.KeysCollected
import Derived.Sort.OwnSorted
namespace Go.Proofs.Ythhcjmikkiiahaa.cat
set_option linter.unusedVariables false
open Go.RowKit Go.WideShapes Go.MapKept Go.Maps Go.Sort
abbrev Bs := List UInt8
def bA (x : Bs) : ByteArray := ⟨x.toArray⟩
/-- what the library's sort does with a list of names -/
structure SortC : Prop where
  some_ : ∀ (blk off cap : Nat) (ss : List Bs) (w : World), Holds encStr w blk off ss.toArray → blk < w.heap.size → ss.length < 4611686018427387904 → Calls Try.prog 49 #[.slice (some ⟨blk, off, none⟩) ss.length cap] w fun e w' => e = .returned (.tuple #[]) ∧ ∃ n os, w' = grow (putRow encStr (Sort.ahead w n) blk off (ss.mergeSort fun x y => decide (x ≤ y)).toArray) os
  none_ : ∀ (p : Option Addr) (cap : Nat) (w : World), Calls Try.prog 49 #[.slice p 0 cap] w fun e w' => e = .returned (.tuple #[]) ∧ w' = w
theorem viE_shape {v : Value} {y : Dat × List MemPlace} (h : viE v = some y) : ∃ c : VE, v = c.val := by
  unfold viE at h
  split at h
  · rename_i cs
    split at h
    · rename_i a n c hc
      refine ⟨⟨a, n, c⟩, ?_⟩
      unfold VE.val
      congr 1
      rw [← Array.toList_inj]; exact hc
    · cases h
  · cases h
theorem VE.val_inj {x y : VE} (h : x.val = y.val) : x = y := by
  obtain ⟨a, n, c⟩ := x
  obtain ⟨a', n', c'⟩ := y
  unfold VE.val at h
  simp only [Value.agg.injEq, Array.mk.injEq, List.cons.injEq, and_true, Value.slice.injEq] at h
  obtain ⟨rfl, rfl, rfl⟩ := h
  rfl
/-- the names of the views that use a table -/
def usersP (S : CatS) (t : ByteArray) (x : Bs) : Bool := isIn t (S.vu (bA x))
def usersL (S : CatS) (t : ByteArray) : List Bs := ((S.vn.map (fun s => s.data.toList)).filter (usersP S t)).mergeSort fun x y => decide (x ≤ y)
section
variable {bs bt bv m : Nat} {S : CatS} {w w' : World} {Dt Dv : Dat} {ft : ByteArray → TE} {fv : ByteArray → VE}
/-- an entry that has come -/
theorem Cat.entry (h : Cat bs bt bv m S w Dt Dv ft fv) {x : Bs} {c : VE} {kl : Lit} {y : Dat × List MemPlace} (hkey : keyOf Try.prog TK (encStr x) = some kl) (hv : viE c.val = some y) (hat : ∀ zd, Dv.atKey kl zd = y.1) : kl = .string x ∧ bA x ∈ S.vn ∧ (bA x).size ≤ maxLen ∧ c = fv (bA x) := by
  obtain ⟨x', ex, hkl, hlen⟩ := Maps.keyOf_str Try.underlying9 hkey
  obtain rfl : x = x' := encStr_inj ex
  have hsz : (bA x).size ≤ maxLen := hlen
  have hnm : nm (bA x) = kl := by rw [hkl]; rfl
  have h1 := h.mv.at_ (bA x) hsz
  rw [hnm, hat] at h1
  have hin : isIn (bA x) S.vn = true := by
    rw [← h.mv.has _ hsz, hnm]
    exact has_true_of_atKey hat
  obtain ⟨d, ps⟩ := y
  dsimp only at h1
  rw [h1] at hv
  exact ⟨hkl, isIn_iff.1 hin, hsz, VE.val_inj (viE_inv (h.okv _) hv)⟩
theorem strKeys_perm (h : Cat bs bt bv m S w Dt Dv ft fv) {left : Lit → Bool} {ss : List Bs} (hC : Collected Dv left ss) (hl : ∀ kl, left kl = false) : ss.Perm (S.vn.map (fun s => s.data.toList)) := by
  refine (List.perm_ext_iff_of_nodup hC.1 ?_).2 (fun x => ?_)
  · exact List.Pairwise.map _ (fun a b hab e => hab (ByteArray.ext (Array.toList_inj.1 e))) h.mv.nd
  · rw [hC.2 x, hl]
    constructor
    · rintro ⟨h1, -⟩
      have hsz : x.length ≤ maxLen := strKeys_le h.mv.own Try.underlying9 x (by
        have := hC.perm h.mv.own keyedS Try.underlying9 hl
        exact this.mem_iff.1 ((hC.2 x).2 ⟨h1, hl _⟩))
      have h2 := h.mv.has (bA x) hsz
      rw [show nm (bA x) = .string x from rfl, h1] at h2
      exact List.mem_map.2 ⟨bA x, isIn_iff.1 h2.symm, rfl⟩
    · intro hx
      obtain ⟨s, hs, rfl⟩ := List.mem_map.1 hx
      have h2 := h.mv.has s (h.mv.le s hs)
      rw [isIn_yes hs] at h2
      exact ⟨h2, rfl⟩
attribute [local go_sem] Oper.semAt_some
set_option maxRecDepth 100000 in
set_option maxHeartbeats 8000000 in
theorem users_any (hsort : SortC) (h : Cat bs bt bv m S w Dt Dv ft fv) (hm : m ≤ 1000000) (hus : ∀ s ∈ S.vn, (S.vu s).length ≤ 1000000) (k : ByteArray) (hk : k.size ≤ maxLen) :
    Calls Try.prog 20 #[.pointer (some ⟨bs, 0, none⟩), .string k] w fun e w' => ∃ (a : Option Addr) (c : Nat), e = .returned (.slice a (usersL S k).length c) ∧ Row w' (.slice a (usersL S k).length c) 1 (usersL S k).length ((usersL S k).map encStr) ∧ Below w.heap.size w w' := by
  obtain ⟨i0, hi, hz0, hz1, hz2⟩ := info_of infoS
  have q1 := h.fl.cell 1
  have l0 := h.fl.lt
  simp only [List.getElem?_cons_zero, List.getElem?_cons_succ] at q1
  have hown := h.mv.own
  have HC := Lib.hid h
  have HSO := Lib.hid hsort
  have HUS := Lib.hid hus
  have hsz : Go.Maps.size Dv ≤ 1000000 := Nat.le_trans hown.size_le hm
  have hbv := hown.lt
  clear h hsort hus
  go_enter Try.func20, Try.ntmps20
  go_wp2_with (first
    | (at_range; refine wpList_range_own _ rfl _ M2 rfl TK TVi keyedS Try.underlying99 viE bv m Dv rfl hown ?_; intro w0 hrg0 hg0 hs0; go_frame)
    | go_in)
  go_loopw [5] (fun v wr => ∃ (left : Lit → Bool) (cnt : Nat) (ss : List Bs), wr.ranges Try.prog TK viE bv w.heap.size m Dv left cnt ∧ ss.length + cnt ≤ Go.Maps.size Dv ∧
      wr.ownsRow w.heap.size TK 1 v (ss.filter (usersP S k)).length ((ss.filter (usersP S k)).map encStr) ∧ Hid (Collected Dv left ss) ∧ Hid (Below w.heap.size w wr)) (fun _ wr => wr.rangeLeft bv w.heap.size)
  case atStart => exact ⟨_, _, [], hrg0, by simp, World.ownsRow_nil _ _ _ _, Lib.hid (Collected.start Dv), Lib.hid ((Below.refl _ _).grown hg0 (Nat.le_refl _) (fun j hj => by cases hj))⟩
  case round =>
    obtain ⟨left, cnt, ss, hrg, hcs, hrow, HCo, HB⟩ := hrel
    obtain ⟨M, hM⟩ : ∃ M, (ss.filter (usersP S k)).length = M := ⟨_, rfl⟩
    obtain ⟨xs, hxs⟩ : ∃ xs, (ss.filter (usersP S k)).map encStr = xs := ⟨_, rfl⟩
    have hMs : M ≤ ss.length := by rw [← hM]; exact List.length_filter_le ..
    rw [hM, hxs] at hrow
    obtain ⟨a5, c5, rfl⟩ := owns_shape hrow
    have HM := Lib.hid hM; have HXS := Lib.hid hxs
    clear hM hxs
    go_wp2_with (first
      | (at_next; refine wpList_next_ranges _ rfl _ rfl TK keyedS viE encStr VE.val (fun key kl hk => by obtain ⟨x, hx, _⟩ := Maps.keyOf_str Try.underlying9 hk; exact ⟨x, hx⟩) (fun v y hv => viE_shape hv) bv w.heap.size m _ _ _ rfl hrg ?_ ?_)
      | go_in)
    · intro hc0 hl0
      have hperm := strKeys_perm (HC.out.later HB.out) HCo.out hl0
      have hpf : (ss.filter (usersP S k)).Perm ((S.vn.map (fun s => s.data.toList)).filter (usersP S k)) := hperm.filter _
      have hU : usersL S k = (ss.filter (usersP S k)).mergeSort (fun x y => decide (x ≤ y)) := (mergeSort_of_perm hpf).symm
      have hUl : (usersL S k).length = M := by rw [hU, List.length_mergeSort, HM.out]
      have HU := Lib.hid (And.intro hU hUl)
      clear hperm hpf hU hUl
      rcases hrow.2 with ⟨hnil, hM0⟩ | ⟨g, cap, cur, he, hbase, hb, h1, h2, h3, h4⟩
      · simp only [Value.slice.injEq] at hnil
        obtain ⟨rfl, -, rfl⟩ := hnil
        subst hM0
        have HS := Lib.hid (HSO.out.none_ none 0 wr)
        clear hrow
        go_wp2_with (go_at_call 49; refine HS.out.mono ?_; rintro ee w3 ⟨rfl, rfl⟩)
        go_ret
        rw [HU.out.2]
        have hnl : usersL S k = [] := List.length_eq_zero_iff.1 HU.out.2
        rw [hnl]
        exact ⟨none, 0, rfl, ⟨_, _, rfl, by simp, .inl rfl⟩, HB.out⟩
      · simp only [Value.slice.injEq] at he
        obtain ⟨rfl, -, rfl⟩ := he
        have hH : Holds encStr wr g 0 (ss.filter (usersP S k)).toArray := holds_of_block hb (by rw [HM.out, HXS.out]; simpa using h4)
        have hgl : g < wr.heap.size := (Array.getElem?_eq_some_iff.1 hb).1
        have hc := HSO.out.some_ g 0 c5 (ss.filter (usersP S k)) wr hH hgl (by rw [HM.out]; omega)
        rw [HM.out] at hc
        have HS := Lib.hid hc
        have HBK := Lib.hid hb
        have H123 := Lib.hid (And.intro h1 (And.intro h2 (And.intro h3 hbase)))
        clear hc hH hrow hb h1 h2 h3 h4
        go_wp2_with (go_at_call 49; refine HS.out.mono ?_; rintro ee w3 ⟨rfl, nn, os, rfl⟩)
        go_ret
        rw [HU.out.2, HU.out.1]
        obtain ⟨h1, h2, h3, hbase⟩ := H123.out
        have hown9 := ownsRow_sorted (n := nn) (os := os) (ts := (ss.filter (usersP S k)).mergeSort (fun x y => decide (x ≤ y))) (ss := ss.filter (usersP S k)) (by rw [List.length_mergeSort]) hbase HBK.out (by rw [HM.out]; exact h1) h2 h3
        rw [HM.out] at hown9
        exact ⟨some ⟨g, 0, none⟩, c5, rfl, Row.of_owns hown9, HB.out.grown (grownBy_sorted _) HB.out.size (fun j hj => by cases hj; exact hbase)⟩
    · intro x c kl yd yp w2 cnt2 hkey hlk hv hat hrg2 hlt hg2 hs2 hen
      obtain ⟨rfl, hin, hsl, rfl⟩ := HC.out.entry hkey hv hat
      have hrow2 := hrow.kept hg2 (Or.inr (row_ne_iter hrow hrg).symm)
      have hb2 : Below w.heap.size w w2 := HB.out.grown hg2 HB.out.size (fun j hj => by cases hj; exact Nat.le_refl _)
      have hcol : Collected Dv (fun z => left z && !z.sameKey (.string x)) (ss ++ [x]) := HCo.out.step hlk hat
      obtain ⟨r1, r2, r3⟩ := HC.out.rv _ hin
      have HCol := Lib.hid hcol
      have HB2 := Lib.hid hb2
      have hfe : (fv (bA x)).val = .agg #[.slice (fv (bA x)).a (fv (bA x)).n (fv (bA x)).c] := rfl
      rw [hfe] at hen
      generalize fv (bA x) = y at *
      obtain ⟨ya, yn, yc⟩ := y
      dsimp only at r1 r2 hen
      have HR2 := Lib.hid r2
      have HCT := Lib.hid (fun (W : World) (hb : Below w.heap.size w W) => contains_any ya yn yc (S.vu (bA x)) r1.symm (by rw [r1]; exact HUS.out _ hin) k W (r2.later hb))
      clear r1 r2 r3 hs2 hfe hv hkey hat hcol hb2
      obtain ⟨Bo, hBo⟩ : ∃ B, isIn k (S.vu (bA x)) = B := ⟨_, rfl⟩
      rw [hBo] at HCT
      have hp : usersP S k x = Bo := hBo
      have hb3 : Below w.heap.size w (w2.alloc (.cells #[.slice ya yn yc] TVi)) := HB2.out.alloc HB2.out.size _
      have hrg3 := hrg2.alloc (.cells #[.slice ya yn yc] TVi)
      have hrow3 : (w2.alloc (.cells #[.slice ya yn yc] TVi)).ownsRow w.heap.size TK 1 (.slice a5 M c5) M xs := owns_below hrow2 ((Below.refl _ _).alloc (Nat.le_refl _) _)
      clear hBo
      cases Bo with
      | false =>
        have hfl : (ss ++ [x]).filter (usersP S k) = ss.filter (usersP S k) := by rw [List.filter_append]; simp [hp]
        have HFL := Lib.hid hfl
        clear hfl
        go_wp2_with (go_at_call 48; refine (HCT.out _ hb3).mono ?_; rintro ee w3 ⟨rfl, rfl⟩)
        go_roundw
        case rel => exact ⟨_, cnt2, ss ++ [x], hrg3, by simp; omega, by rw [HFL.out, HM.out, HXS.out]; exact hrow3, HCol, Lib.hid hb3⟩
        case measure => rw [hrg3.left_eq, hrg.left_eq]; exact hlt
      | true =>
        have hfl : (ss ++ [x]).filter (usersP S k) = ss.filter (usersP S k) ++ [x] := by rw [List.filter_append]; simp [hp]
        have HFL := Lib.hid hfl
        clear hfl
        obtain ⟨W3, hW3⟩ : ∃ W, w2.alloc (.cells #[.slice ya yn yc] TVi) = W := ⟨_, rfl⟩
        rw [hW3] at hb3 hrg3 hrow3
        have hsz3 : W3.heap.size = w2.heap.size + 1 := by rw [← hW3, World.size_alloc]
        have hbx : Flds W3 w2.heap.size TVi [.slice ya yn yc] := by rw [← hW3]; exact Flds.new w2 TVi _
        have c0 := hbx.cell 0
        have cl := hbx.lt
        simp only [List.getElem?_cons_zero] at c0
        clear hbx
        have HF4 : Hid (Row (W3.alloc (.cells #[encStr x] TK)) (.slice (some ⟨W3.heap.size, 0, none⟩) 1 1) 1 1 [encStr x]) := Lib.hid (Row.of_flds (Flds.new W3 TK [encStr x]) rfl 1)
        have HO4 : Hid ((W3.alloc (.cells #[encStr x] TK)).ownsRow w.heap.size TK 1 (.slice a5 M c5) M xs) := Lib.hid (owns_below hrow3 ((Below.refl _ _).alloc (Nat.le_refl _) _))
        have HB3 := Lib.hid hb3; have HS3 := Lib.hid hsz3
        clear hsz3 hb3
        go_wp2_with (first
          | (go_at_call 48; refine (HCT.out _ (by first | exact HB3.out | (rw [hW3]; exact HB3.out))).mono ?_; rintro ee w3 ⟨rfl, hw3⟩; obtain rfl : W3 = w3 := hw3.symm)
          | (at_builtin; refine wpList_append_row _ rfl (.tmp 24) (.tmp 26) 31 (by rfl) w.heap.size TK i0 _ 1 16 Try.underlying31 hi hz0 hz1 hz2 rfl (by decide) (.slice a5 M c5) M xs (by rfl) HO4.out (.slice (some ⟨W3.heap.size, 0, none⟩) 1 1) 1 [encStr x] (by rfl) HF4.out (by intro u hu; simp only [List.mem_singleton] at hu; subst hu; rfl) (by unfold maxLen; omega) (by omega) (by rw [World.size_alloc]; exact Nat.le_trans HB3.out.size (Nat.le_succ _)) ?_; intro a9 c9 w9 hap; have HAP := Lib.hid hap; clear hap)
          | go_in)
        have hrg4 := (hrg3.alloc (.cells #[encStr x] TK)).kept HAP.out.grown (row_ne_low HO4.out hbv) (row_ne_iter HO4.out (hrg3.alloc (.cells #[encStr x] TK)))
        have hlen : ((ss ++ [x]).filter (usersP S k)).length = M + 1 := by rw [HFL.out, List.length_append, HM.out]; rfl
        have hmap : ((ss ++ [x]).filter (usersP S k)).map encStr = xs ++ [encStr x] := by rw [HFL.out, List.map_append, HXS.out]; rfl
        have hb4 : Below w.heap.size w (W3.alloc (.cells #[encStr x] TK)) := HB3.out.alloc HB3.out.size _
        refine ⟨⟨_, cnt2, ss ++ [x], hrg4, by simp; omega, by rw [hlen, hmap]; exact HAP.out.own, HCol, Lib.hid (hb4.grown HAP.out.grown hb4.size (fun j hj => (HO4.out.lt j hj).1))⟩, ?_⟩
        rw [hrg4.left_eq, hrg.left_eq]; exact hlt
end
end Go.Proofs.Ythhcjmikkiiahaa.cat
