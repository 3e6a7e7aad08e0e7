/- A catalog's acts, as a law sees them; what layer 19's law begins with; walked. -/
import Derived.Test.YthhcjmikkiiahaaCatG
import Derived.Test.YthhcjmikkiiahaaCatH
import Derived.Test.YthhcjmikkiiahaaCatI
namespace Go.Proofs.Ythhcjmikkiiahaa.cat
set_option linter.unusedVariables false
open Go.RowKit Go.WideShapes Go.MapKept
/-- a catalog behind a world's blocks -/
def CatAt (B bs bt bv m : Nat) (S : CatS) (W : World) : Prop := (B ≤ bs ∧ B ≤ bt ∧ B ≤ bv) ∧ ∃ Dt Dv ft fv, Cat bs bt bv m S W Dt Dv ft fv
/-- an act's answer -/
def ActPost (B bs bt bv m : Nat) (S' : CatS) (err : Int) (w : World) (e : Ending) (w' : World) : Prop := e = .returned (.int .i64 err) ∧ CatAt B bs bt bv m S' w' ∧ Below B w w'
section
variable {B bs bt bv m : Nat} {S : CatS} {w w' : World}
theorem CatAt.later (h : CatAt B bs bt bv m S w) (hb : Below w.heap.size w w') : CatAt B bs bt bv m S w' := by
  obtain ⟨h1, Dt, Dv, ft, fv, h2⟩ := h
  exact ⟨h1, Dt, Dv, ft, fv, h2.later hb⟩
theorem CatAt.mono (h : CatAt B bs bt bv m S w) {m' : Nat} (hm : m ≤ m') : CatAt B bs bt bv m' S w := by
  obtain ⟨h1, Dt, Dv, ft, fv, h2⟩ := h
  exact ⟨h1, Dt, Dv, ft, fv, h2.mono hm⟩
theorem act_of {S' : CatS} {err : Int} {m' : Nat} (hB : B ≤ w.heap.size) (h1 : B ≤ bs ∧ B ≤ bt ∧ B ≤ bv) {e : Ending} (h : CatPost bs bt bv m' S' w err e w') : ActPost B bs bt bv m' S' err w e w' := by
  obtain ⟨he, ho, Dt, Dv, ft, fv, h2⟩ := h
  exact ⟨he, ⟨h1, Dt, Dv, ft, fv, h2⟩, ho.below hB (fun k hk => by rcases hk with rfl | rfl | rfl <;> omega)⟩
theorem new_at (w : World) : Calls Try.prog 7 #[] w fun e w' => ∃ bs bt bv, e = .returned (.pointer (some ⟨bs, 0, none⟩)) ∧ CatAt w.heap.size bs bt bv 0 CatS.no w' ∧ Below w.heap.size w w' := by
  refine (new_any w).mono ?_
  rintro e w' ⟨bs, bt, bv, he, h1, h2, h3, hc, hb⟩
  exact ⟨bs, bt, bv, he, ⟨⟨h1, h2, h3⟩, _, _, _, _, hc⟩, hb⟩
theorem make_at (h : CatAt B bs bt bv m S w) (hB : B ≤ w.heap.size) (hm : m ≤ 1000000) (k : ByteArray) (hk : k.size ≤ maxLen) (a : Option Addr) (n c : Nat) (l : List Cn) (hn : l.length = n) (hn1 : n ≤ 1000000) (hr : Row w (.slice a n c) 3 n (cnCells l)) (hnil : a = none → n = 0 ∧ c = 0) :
    Calls Try.prog 16 #[.pointer (some ⟨bs, 0, none⟩), .string k, .slice a n c] w (ActPost B bs bt bv (m + 1) (S.make k l) (makeErr S k l) w) := by
  obtain ⟨h1, Dt, Dv, ft, fv, h2⟩ := h
  exact (make_any h2 hm k hk a n c l hn hn1 hr hnil).mono (fun e w' hp => act_of hB h1 hp)
theorem view_at (h : CatAt B bs bt bv m S w) (hB : B ≤ w.heap.size) (hm : m ≤ 1000000) (k : ByteArray) (a : Option Addr) (n c : Nat) (us : List ByteArray) (hk : k.size ≤ maxLen ∨ ∃ u ∈ us, u ∉ S.tn) (hn : us.length = n) (hn1 : n ≤ 1000000) (hr : Row w (.slice a n c) 1 n (us.map Value.string)) (hnil : a = none → n = 0 ∧ c = 0) :
    Calls Try.prog 10 #[.pointer (some ⟨bs, 0, none⟩), .string k, .slice a n c] w (ActPost B bs bt bv (m + 1) (S.view k us) (viewErr S k us) w) := by
  obtain ⟨h1, Dt, Dv, ft, fv, h2⟩ := h
  exact (view_any h2 hm k a n c us hk hn hn1 hr hnil).mono (fun e w' hp => act_of hB h1 hp)
theorem drop_at (h : CatAt B bs bt bv m S w) (hB : B ≤ w.heap.size) (hm : m ≤ 1000000) (hus : ∀ s ∈ S.vn, (S.vu s).length ≤ 1000000) (k : ByteArray) (hk : k.size ≤ maxLen) :
    Calls Try.prog 8 #[.pointer (some ⟨bs, 0, none⟩), .string k] w (ActPost B bs bt bv m (S.drop k) (dropErr S k) w) := by
  obtain ⟨h1, Dt, Dv, ft, fv, h2⟩ := h
  exact (drop_any sortC h2 hm hus k hk).mono (fun e w' hp => act_of hB h1 hp)
theorem dropView_at (h : CatAt B bs bt bv m S w) (hB : B ≤ w.heap.size) (k : ByteArray) (hk : k.size ≤ maxLen) :
    Calls Try.prog 12 #[.pointer (some ⟨bs, 0, none⟩), .string k] w (ActPost B bs bt bv m { S with vn := delN S.vn k } (if isIn k S.vn then 0 else 6) w) := by
  obtain ⟨h1, Dt, Dv, ft, fv, h2⟩ := h
  refine (dropView_any h2 k hk).mono ?_
  rintro e w' ⟨he, ho, Dv', fv', hc⟩
  exact act_of hB h1 ⟨he, ho, _, _, _, _, hc⟩
theorem users_at (h : CatAt B bs bt bv m S w) (hm : m ≤ 1000000) (hus : ∀ s ∈ S.vn, (S.vu s).length ≤ 1000000) (k : ByteArray) (hk : k.size ≤ maxLen) :
    Calls Try.prog 20 #[.pointer (some ⟨bs, 0, none⟩), .string k] w fun e w' => ∃ (a : Option Addr) (c : Nat), e = .returned (.slice a (usersL S k).length c) ∧ Row w' (.slice a (usersL S k).length c) 1 (usersL S k).length ((usersL S k).map encStr) ∧ Below w.heap.size w w' := by
  obtain ⟨h1, Dt, Dv, ft, fv, h2⟩ := h
  exact users_any sortC h2 hm hus k hk
theorem table_at (h : CatAt B bs bt bv m S w) (hcol : ∀ s ∈ S.tn, (S.tb s).1.length ≤ 1000000) (k : ByteArray) : Calls Try.prog 14 #[.pointer (some ⟨bs, 0, none⟩), .string k] w (TablePost S k w) := by
  obtain ⟨h1, Dt, Dv, ft, fv, h2⟩ := h
  exact table_any h2 hcol k
end
/-- a table of one column, its key -/
theorem checkE_one (c : Cn) (h1 : 1 ≤ c.k) (h2 : c.k ≤ 3) (h3 : c.key = true) : checkE [c] = 0 := by
  unfold checkE
  have hk : keysN [c] = 1 := by unfold keysN; simp [h3]
  rw [if_neg (by rw [hk]; simp), if_neg (by unfold kindB; simp; omega), if_neg]
  rintro ⟨i, q, x, y, hi, hq, -⟩
  simp at hi
  omega
def nT : ByteArray := ⟨#[116]⟩
def nV : ByteArray := ⟨#[118]⟩
def spC : List Cn := [⟨⟨#[97]⟩, 2, true⟩]
noncomputable def spS1 : CatS := { CatS.no with tn := [nT], tb := upd CatS.no.tb nT (spC, 0) }
noncomputable def spS2 : CatS := { spS1 with vn := [nV], vu := upd CatS.no.vu nV [nT] }
theorem sp_make : makeErr CatS.no nT spC = 0 ∧ CatS.no.make nT spC = spS1 := by
  have h : makeErr CatS.no nT spC = 0 := by
    unfold makeErr
    rw [if_neg (by decide), if_neg (by decide)]
    exact checkE_one _ (by decide) (by decide) rfl
  refine ⟨h, ?_⟩
  unfold CatS.make
  rw [h, if_pos rfl]
  rfl
theorem sp_view : viewErr spS1 nV [nT] = 0 ∧ spS1.view nV [nT] = spS2 := by
  have h : viewErr spS1 nV [nT] = 0 := by
    unfold viewErr
    rw [if_neg (by decide), if_neg (by decide), if_pos (by decide)]
  refine ⟨h, ?_⟩
  unfold CatS.view
  rw [h, if_pos rfl]
  rfl
theorem usersL_len (S : CatS) (k : ByteArray) : (usersL S k).length = ((S.vn.map (fun s => s.data.toList)).filter (usersP S k)).length := by
  unfold usersL
  rw [List.length_mergeSort]
theorem sp_drop : dropErr spS2 nT = 15 := by
  have hu : (usersL spS2 nT).length = 1 := by
    rw [usersL_len]
    show ([[118]].filter (usersP spS2 nT)).length = _
    have : usersP spS2 nT [118] = true := by
      unfold usersP
      show isIn nT (upd CatS.no.vu nV [nT] (bA [118])) = true
      rw [show bA [118] = nV from rfl, upd_same]
      decide
    rw [List.filter_cons, if_pos this]
    rfl
  unfold dropErr
  rw [if_pos (by decide), hu]
  rfl
theorem sp_us : ∀ s ∈ spS2.vn, (spS2.vu s).length ≤ 1000000 := by
  intro s hs
  have hs' : s = nV := by simpa [spS2] using hs
  subst hs'
  show (upd CatS.no.vu nV [nT] nV).length ≤ _
  rw [upd_same]; decide
theorem sp_tb : spS2.cols nT = spC ∧ (spS2.tb nT).2 = 0 ∧ isIn nT spS2.tn = true := by
  have h : isIn nT spS2.tn = true := by show isIn nT [nT] = true; decide
  have h2 : spS2.tb nT = (spC, 0) := by show upd CatS.no.tb nT (spC, 0) nT = _; rw [upd_same]
  refine ⟨?_, by rw [h2], h⟩
  unfold CatS.cols
  rw [h, if_pos rfl, h2]
theorem sp_cols : ∀ s ∈ spS2.tn, (spS2.tb s).1.length ≤ 1000000 := by
  intro s hs
  have hs' : s = nT := by simpa [spS2, spS1] using hs
  subst hs'
  show (upd CatS.no.tb nT (spC, 0) nT).1.length ≤ _
  rw [upd_same]; decide
set_option maxRecDepth 100000 in
set_option maxHeartbeats 4000000 in
theorem speaks_any (w : World) : Calls Try.prog 6 #[] w fun en w' => en = .returned (.bool true) ∧ Below w.heap.size w w' := by
  go_enter Try.func6, Try.ntmps6
  go_upto_region 2 with (go_at_call 7; refine (new_at w).mono ?_; rintro ee w1 ⟨bs, bt, bv, rfl, hc1, hb1⟩; have HC1 := Lib.hid hc1; have HB1 := Lib.hid hb1; clear hc1 hb1)
  have hbA : Below w1.heap.size w1 (w1.alloc (.cells #[.string ⟨#[97]⟩, .int .i64 2, .bool true] TCo)) := (Below.refl _ _).alloc (Nat.le_refl _) _
  have hmk := make_at (HC1.out.later hbA) (Nat.le_trans HB1.out.size hbA.size) (by decide) nT (by decide) (some ⟨w1.heap.size, 0, none⟩) 1 1 spC rfl (by decide) (Row.of_flds (Flds.new w1 TCo [.string ⟨#[97]⟩, .int .i64 2, .bool true]) rfl 1) (fun e => by cases e)
  rw [sp_make.1, sp_make.2] at hmk
  have HMK := Lib.hid hmk
  have HBA := Lib.hid (HB1.out.trans (hbA.mono HB1.out.size))
  clear hmk hbA
  go_upto_region 3 with (go_at_call 16; refine HMK.out.mono ?_; rintro ee w2 ⟨rfl, hc2, hb2⟩; have HC2 := Lib.hid hc2; have HB2 := Lib.hid (HBA.out.trans hb2); clear hc2 hb2)
  have hbB : Below w2.heap.size w2 (w2.alloc (.cells #[.string ⟨#[116]⟩] TK)) := (Below.refl _ _).alloc (Nat.le_refl _) _
  have hvw := view_at (HC2.out.later hbB) (Nat.le_trans HB2.out.size hbB.size) (by decide) nV (some ⟨w2.heap.size, 0, none⟩) 1 1 [nT] (.inl (by decide)) rfl (by decide) (Row.of_flds (Flds.new w2 TK [.string ⟨#[116]⟩]) rfl 1) (fun e => by cases e)
  rw [sp_view.1, sp_view.2] at hvw
  have HVW := Lib.hid hvw
  have HBB := Lib.hid (HB2.out.trans (hbB.mono HB2.out.size))
  clear hvw hbB
  go_upto_region 4 with (go_at_call 10; refine HVW.out.mono ?_; rintro ee w3 ⟨rfl, hc3, hb3⟩; have HC3 := Lib.hid hc3; have HB3 := Lib.hid (HBB.out.trans hb3); clear hc3 hb3)
  have htb := table_at HC3.out sp_cols nT
  unfold TablePost at htb
  rw [sp_tb.1, sp_tb.2.1, sp_tb.2.2] at htb
  have HTB := Lib.hid htb
  clear htb
  go_upto_region 5 with (go_at_call 14; refine HTB.out.mono ?_; rintro ee w4 ⟨ta, tc, tn, tk, rfl, -, ht, hb4⟩; obtain ⟨rfl, rfl⟩ := ht (isIn_iff.1 sp_tb.2.2); have HB4 := Lib.hid hb4; clear hb4 ht)
  rw [show spC.length = 1 from rfl]
  have hb5 : Below w3.heap.size w3 (w4.alloc (.cells #[.string nT, .slice ta 1 tc, .int .i64 0] TTb)) := HB4.out.alloc HB4.out.size _
  have hdr := drop_at (HC3.out.later hb5) (Nat.le_trans HB3.out.size hb5.size) (by decide) sp_us nT (by decide)
  rw [sp_drop] at hdr
  have HDR := Lib.hid hdr
  have HB5 := Lib.hid (HB3.out.trans (hb5.mono HB3.out.size))
  clear hdr hb5
  go_wp2_with (go_at_call 8; refine HDR.out.mono ?_; rintro ee w6 ⟨rfl, -, hb6⟩; have HB6 := Lib.hid hb6; clear hb6)
  go_ret
  exact ⟨rfl, HB5.out.trans HB6.out⟩
end Go.Proofs.Ythhcjmikkiiahaa.cat
