/- A store of cells, its own blocks aside from some that are to be kept. -/
import Derived.Test.YtfaoeajaahnooaaCellK
namespace Go.Proofs.Ytfaoeajaahnooaa.cel
set_option linter.unusedVariables false
open Go.RowKit Go.WideShapes Go.MapKept

/-- a store; none of its blocks is one of 'pr' -/
def Cx (bs bt bw mm : Nat) (S : CS) (Dt : Dat) (pr : Nat → Prop) (wr : World) : Prop := ∃ (own : Nat → Prop) (m : Nat) (Dw : Dat) (bk : ByteArray → Option Nat), Cel own bs m S wr bt bw Dt Dw bk ∧ m ≤ mm ∧ (∀ j, own j → ¬ pr j) ∧ (∀ j, pr j → j < wr.heap.size)
section
variable {bs bt bw mm : Nat} {S : CS} {Dt : Dat} {pr : Nat → Prop} {wr : World}
theorem Cx.later {wq : World} (h : Cx bs bt bw mm S Dt pr wr) (hb : Below wr.heap.size wr wq) : Cx bs bt bw mm S Dt pr wq := by
  obtain ⟨own, m, Dw, bk, hC, hm, ho, hp⟩ := h
  exact ⟨own, m, Dw, bk, hC.later hb, hm, ho, fun j hj => Nat.lt_of_lt_of_le (hp j hj) hb.size⟩
theorem Cel.shrink {own : Nat → Prop} {m : Nat} {Dw : Dat} {bk : ByteArray → Option Nat} (h : Cel own bs m S wr bt bw Dt Dw bk) : Cel (fun j => own j ∧ j < wr.heap.size) bs m S wr bt bw Dt Dw bk :=
  ⟨h.fl, ⟨h.obs, h.fl.lt⟩, ⟨h.obt, h.mt.lt⟩, ⟨h.obw, h.mw.lt⟩, h.ne, h.mt, h.at_t, h.has_t, h.mw, h.at_w, h.nil_w, fun s b hs hb => by obtain ⟨h1, h2, h3, h4⟩ := h.sets s b hs hb; exact ⟨⟨h1, by obtain ⟨D, h5, -⟩ := h4; exact h5.lt⟩, h2, h3, h4⟩, h.inj⟩
/-- what is new is not the store's -/
theorem Cx.more {wq : World} (h : Cx bs bt bw mm S Dt pr wr) (hb : Below wr.heap.size wr wq) (pr' : Nat → Prop) (hp1 : ∀ j, pr' j → pr j ∨ wr.heap.size ≤ j) (hp2 : ∀ j, pr' j → j < wq.heap.size) : Cx bs bt bw mm S Dt pr' wq := by
  obtain ⟨own, m, Dw, bk, hC, hm, ho, hp⟩ := h
  exact ⟨_, m, Dw, bk, hC.shrink.later hb, hm, fun j hj hpj => (hp1 j hpj).elim (ho j hj.1) (fun h => by have := hj.2; omega), hp2⟩
/-- one of the blocks aside turns -/
theorem Cx.kept {wq : World} {r : Nat} (h : Cx bs bt bw mm S Dt pr wr) (hg : wr.grownBy wq (some r)) (hr : pr r) : Cx bs bt bw mm S Dt pr wq := by
  obtain ⟨own, m, Dw, bk, hC, hm, ho, hp⟩ := h
  exact ⟨own, m, Dw, bk, hC.kept hg (fun k e _ hk => ho k hk (by simp only [Option.some.injEq] at e; rw [← e]; exact hr)), hm, ho, fun j hj => Nat.lt_of_lt_of_le (hp j hj) hg.size⟩
theorem Cx.watch (h : Cx bs bt bw mm S Dt pr wr) (hm1 : mm < 1000000) (s : ByteArray) (hs : s.size ≤ maxLen) (i : Int) (hi : -9223372036854775808 ≤ i ∧ i ≤ 9223372036854775807) (hn0 : 0 ≤ S.n) (hn1 : S.n ≤ 1000000) (S' : CS) (hS : S' = @ite _ (i ∈ S.wh s) (Classical.propDecidable _) S (S.watched s (insI (S.wh s) i) (S.n + 1))) :
    Calls Try.prog 8 #[.pointer (some ⟨bs, 0, none⟩), .string s, .int .i64 i] wr fun e w' => e = .returned (.bool (!decide (i ∈ S.wh s))) ∧ Cx bs bt bw (mm + 2) S' Dt pr w' ∧ Only (fun j => ¬ pr j) wr w' := by
  obtain ⟨own, m, Dw, bk, hC, hm, ho, hp⟩ := h
  refine (watch_any hC (by omega) s hs i hi hn0 hn1 S' hS).mono ?_
  rintro e w' ⟨rfl, Dw', bk', h1, h2⟩
  exact ⟨rfl, ⟨_, _, _, _, h1, by omega, fun j hj hpj => hj.elim (fun h => ho j h hpj) (fun h => by have := hp j hpj; omega), fun j hj => Nat.lt_of_lt_of_le (hp j hj) h2.size⟩, h2.mono (fun j _ hj => ho j hj)⟩
theorem Cx.unwatch (h : Cx bs bt bw mm S Dt pr wr) (hm1 : mm < 1000000) (s : ByteArray) (hs : s.size ≤ maxLen) (i : Int) (hi : -9223372036854775808 ≤ i ∧ i ≤ 9223372036854775807) (hn0 : 0 ≤ S.n) (hn1 : S.n ≤ 1000000) (S' : CS) (hS : S' = @ite _ (i ∈ S.wh s) (Classical.propDecidable _) (S.watched s (delI (S.wh s) i) (S.n - 1)) S) :
    Calls Try.prog 10 #[.pointer (some ⟨bs, 0, none⟩), .string s, .int .i64 i] wr fun e w' => e = .returned (.bool (decide (i ∈ S.wh s))) ∧ Cx bs bt bw mm S' Dt pr w' ∧ Only (fun j => ¬ pr j) wr w' := by
  obtain ⟨own, m, Dw, bk, hC, hm, ho, hp⟩ := h
  refine (unwatch_any hC (by omega) s hs i hi hn0 hn1 S' hS).mono ?_
  rintro e w' ⟨rfl, Dw', bk', h1, h2⟩
  exact ⟨rfl, ⟨_, _, _, _, h1, hm, ho, fun j hj => Nat.lt_of_lt_of_le (hp j hj) h2.size⟩, h2.mono (fun j _ hj => ho j hj)⟩
theorem Cx.count (h : Cx bs bt bw mm S Dt pr wr) : Calls Try.prog 16 #[.pointer (some ⟨bs, 0, none⟩)] wr fun e w' => e = .returned (.int .i64 S.n) ∧ w' = wr := by
  obtain ⟨own, m, Dw, bk, hC, hm, ho, hp⟩ := h
  exact watches_any hC
theorem Cx.size (h : Cx bs bt bw mm S Dt pr wr) : Calls Try.prog 17 #[.pointer (some ⟨bs, 0, none⟩)] wr fun e w' => e = .returned (.int .i64 (Go.Maps.size Dt)) ∧ w' = wr := by
  obtain ⟨own, m, Dw, bk, hC, hm, ho, hp⟩ := h
  exact len_any hC
theorem Cx.who (h : Cx bs bt bw mm S Dt pr wr) (hm1 : mm ≤ 1000000) (s : ByteArray) (hs : s.size ≤ maxLen) :
    Calls Try.prog 14 #[.pointer (some ⟨bs, 0, none⟩), .string s] wr fun e w' => ∃ v, e = .returned v ∧ w'.ownsRow wr.heap.size TI 1 v (S.wh s).length ((S.wh s).map encZ) ∧ Below wr.heap.size wr w' := by
  obtain ⟨own, m, Dw, bk, hC, hm, ho, hp⟩ := h
  exact watched_any hC (by omega) s hs
theorem Cx.rising (h : Cx bs bt bw mm S Dt pr wr) (s : ByteArray) (hs : s.size ≤ maxLen) : (S.wh s).Pairwise (· < ·) := by
  obtain ⟨own, m, Dw, bk, hC, hm, ho, hp⟩ := h
  exact hC.rising s hs
end
theorem tot_nonneg (f : ByteArray → List Int) (ns : List ByteArray) : 0 ≤ tot f ns := by
  induction ns with
  | nil => exact Int.le_refl _
  | cons a ns ih =>
    have : tot f (a :: ns) = ((f a).length : Int) + tot f ns := by unfold tot; simp
    omega
theorem tot_ge (f : ByteArray → List Int) (k : ByteArray) (ns : List ByteArray) (h : k ∈ ns) : ((f k).length : Int) ≤ tot f ns := by
  induction ns with
  | nil => cases h
  | cons a ns ih =>
    have e : tot f (a :: ns) = ((f a).length : Int) + tot f ns := by unfold tot; simp
    have h0 := tot_nonneg f ns
    rcases List.mem_cons.1 h with rfl | h
    · omega
    · have := ih h; omega
open Classical in
theorem Inv.len {S : CS} {ns : List ByteArray} (h : Inv S ns) (k : ByteArray) : ((S.wh k).length : Int) ≤ S.n := by
  rw [h.n]
  by_cases hk : k ∈ ns
  · exact tot_ge _ k ns hk
  · rw [h.wh k hk]; exact tot_nonneg _ _
/-- watched and not any more: as it was -/
theorem watched_back (S : CS) (s : ByteArray) (i : Int) (h : i ∉ S.wh s) (hs : (S.wh s).Pairwise (· < ·)) : ((S.watched s (insI (S.wh s) i) (S.n + 1)).watched s (delI ((S.watched s (insI (S.wh s) i) (S.n + 1)).wh s) i) ((S.watched s (insI (S.wh s) i) (S.n + 1)).n - 1)) = S := by
  have e1 : (S.watched s (insI (S.wh s) i) (S.n + 1)).wh s = insI (S.wh s) i := upd_same _ _ _
  rw [e1, delI_insI h hs]
  unfold CS.watched
  simp only
  have e2 : upd (upd S.wh s (insI (S.wh s) i)) s (S.wh s) = S.wh := by
    funext x
    by_cases e : x = s
    · rw [e, upd_same]
    · rw [upd_other _ _ e, upd_other _ _ e]
  have e3 : S.n + 1 - 1 = S.n := by omega
  rw [e2, e3]
end Go.Proofs.Ytfaoeajaahnooaa.cel
