/- The law CellCounts: its first loop; walked. -/
import Derived.Test.YtfaoeajaahnooaaOpenCell
import Derived.StillTailTactics
namespace Go.Proofs.Ytfaoeajaahnooaa.cel
set_option linter.unusedVariables false
open Go.RowKit Go.WideShapes Go.MapKept
attribute [local go_sem] Go.RowKit.run_makeMap

abbrev TB : TypeId := 4
abbrev M4 : TypeId := 43
/-- what is at hand in the law: the store and the names that were used; 'ex': a name that is not noted yet -/
structure Ct (w : World) (g6 bs bt bw bn mm nn cc : Nat) (ex : ByteArray → Prop) (wr : World) : Prop where
  go : ∃ (own : Nat → Prop) (m : Nat) (S : CS) (Dt Dw : Dat) (bk : ByteArray → Option Nat) (Dn : Dat) (ns : List ByteArray), Cel own bs m S wr bt bw Dt Dw bk ∧ m ≤ mm ∧ (∀ j, own j → g6 < j ∧ j ≠ bn) ∧ Inv S ns ∧ (∀ s ∈ ns, s.size ≤ maxLen) ∧ ns.length ≤ nn ∧ (∀ s, s ∉ ns → S.tx s = ByteArray.empty) ∧
    (0 ≤ S.n ∧ S.n ≤ cc) ∧ wr.ownsMap Try.prog TK (plainElem Try.prog TB) bn nn Dn ∧ (∀ s, s.size ≤ maxLen → ((Go.Maps.has Dn (nm s) = true ∨ ex s) ↔ s ∈ ns))
  f6 : Flds wr g6 TB [.bool false]
  n6 : g6 < bn
  w6 : w.heap.size ≤ g6
  bel : Below w.heap.size w wr
  bnl : bn < wr.heap.size
theorem Ct.later {w wr wq : World} {g6 bs bt bw bn mm nn cc : Nat} {ex : ByteArray → Prop} (h : Ct w g6 bs bt bw bn mm nn cc ex wr) (hb : Below wr.heap.size wr wq) : Ct w g6 bs bt bw bn mm nn cc ex wq := by
  obtain ⟨⟨own, m, S, Dt, Dw, bk, Dn, ns, hC, hm, ho, hI, hns, hnl, htx, hs, hM, hh⟩, f6, n6, w6, hbel, hbn⟩ := h
  exact ⟨⟨own, m, S, Dt, Dw, bk, Dn, ns, hC.later hb, hm, ho, hI, hns, hnl, htx, hs, ownsMap_only hM (Only.of_below (own := fun _ => False) hb) id, hh⟩, f6.later hb, n6, w6, hbel.trans (hb.mono hbel.size), Nat.lt_of_lt_of_le hbn hb.size⟩
theorem Ct.set {w wr : World} {g6 bs bt bw bn mm nn cc : Nat} (h : Ct w g6 bs bt bw bn mm nn cc (fun _ => False) wr) (hm1 : mm < 1000000) (s t : ByteArray) (hs : s.size ≤ maxLen) :
    Calls Try.prog 11 #[.pointer (some ⟨bs, 0, none⟩), .string s, .string t] wr fun e w' => (∃ v, e = .returned v) ∧ Ct w g6 bs bt bw bn (mm + 1) (nn + 1) cc (fun x => x = s) w' := by
  obtain ⟨⟨own, m, S, Dt, Dw, bk, Dn, ns, hC, hm, ho, hI, hns, hnl, htx, hn, hM, hh⟩, f6, n6, w6, hbel, hbn⟩ := h
  refine (set_any hC (by omega) s t hs _ rfl).mono ?_
  rintro e w' ⟨v, Dt', rfl, h1, h2, -⟩
  have hlen : (addN ns s).length ≤ ns.length + 1 := by unfold addN; split <;> simp
  refine ⟨⟨v, rfl⟩, ⟨own, m + 1, _, Dt', Dw, bk, Dn, addN ns s, h1, by omega, ho, (hI.add s).text _, fun x hx => ?_, by omega, fun x hx => ?_, hn, (ownsMap_only hM h2 (fun hb => (ho bn hb).2 rfl)).mono (by omega), fun x hx => ?_⟩, f6.only h2 (fun hb => by have := (ho g6 hb).1; omega), n6, w6, hbel.trans (h2.below hbel.size (fun j hj => by have := (ho j hj).1; omega)), Nat.lt_of_lt_of_le hbn h2.size⟩
  · rcases (addN_mem ..).1 hx with hx | rfl
    · exact hns x hx
    · exact hs
  · have hx' : x ∉ ns ∧ x ≠ s := ⟨fun h => hx ((addN_mem ..).2 (.inl h)), fun h => hx ((addN_mem ..).2 (.inr h))⟩
    show upd S.tx s t x = _
    rw [upd_other _ _ hx'.2]
    exact htx x hx'.1
  · rw [addN_mem, ← hh x hx]; simp
theorem Ct.watch {w wr : World} {g6 bs bt bw bn mm nn cc : Nat} {s : ByteArray} (h : Ct w g6 bs bt bw bn mm nn cc (fun x => x = s) wr) (hm1 : mm < 1000000) (hc1 : cc < 1000000) (hs : s.size ≤ maxLen) (i : Int) (hi : -9223372036854775808 ≤ i ∧ i ≤ 9223372036854775807) :
    Calls Try.prog 8 #[.pointer (some ⟨bs, 0, none⟩), .string s, .int .i64 i] wr fun e w' => (∃ b, e = .returned (.bool b)) ∧ Ct w g6 bs bt bw bn (mm + 2) nn (cc + 1) (fun x => x = s) w' := by
  obtain ⟨⟨own, m, S, Dt, Dw, bk, Dn, ns, hC, hm, ho, hI, hns, hnl, htx, hn, hM, hh⟩, f6, n6, w6, hbel, hbn⟩ := h
  have hsn : s ∈ ns := (hh s hs).1 (.inr rfl)
  refine (watch_any hC (by omega) s hs i hi hn.1 (by omega) _ rfl).mono ?_
  rintro e w' ⟨rfl, Dw', bk', h1, h2⟩
  have hz := f6.lt
  refine ⟨⟨_, rfl⟩, ⟨ownNew own wr w', m + 2, _, Dt, Dw', bk', Dn, ns, h1, by omega, fun j hj => hj.elim (ho j) (fun h => ⟨by omega, by omega⟩), ?_, hns, hnl, fun x hx => ?_, ?_, ownsMap_only hM h2 (fun hb => (ho bn hb).2 rfl), hh⟩, f6.only h2 (fun hb => by have := (ho g6 hb).1; omega), n6, w6, hbel.trans (h2.below hbel.size (fun j hj => by have := (ho j hj).1; omega)), Nat.lt_of_lt_of_le hbn h2.size⟩
  · split
    · exact hI
    · exact hI.watch s hsn i (by assumption)
  · split
    · exact htx x hx
    · exact htx x hx
  · split
    · omega
    · show 0 ≤ S.n + 1 ∧ S.n + 1 ≤ _
      omega
theorem Ct.note {w wr : World} {g6 bs bt bw bn mm nn cc : Nat} {s : ByteArray} (h : Ct w g6 bs bt bw bn mm nn cc (fun x => x = s) wr) (hn1 : nn < 1000000) (hs : s.size ≤ maxLen) :
    ∃ w', (Instr.mapUpdate M4 (.map (some bn)) (.string s) (.bool true)).run Try.prog wr = .ok () w' ∧ Ct w g6 bs bt bw bn mm (nn + 1) cc (fun _ => False) w' := by
  obtain ⟨⟨own, m, S, Dt, Dw, bk, Dn, ns, hC, hm, ho, hI, hns, hnl, htx, hn, hM, hh⟩, f6, n6, w6, hbel, hbn⟩ := h
  obtain ⟨w', h1, h2, h3⟩ := hM.store keyedS Try.underlying43 (by unfold maxLen; omega) (keyS hs) (plainElem_bool Try.underlying4 true)
  have hg := h3.grown
  have hmap := hM.isMap
  refine ⟨w', h1, ⟨own, m, S, Dt, Dw, bk, _, ns, hC.kept hg (fun j e _ hj => (ho j hj).2 (by simpa using e.symm)), hm, ho, hI, hns, by omega, htx, hn, h2, fun x hx => ?_⟩, f6.grown hg (by simp; omega), n6, w6, hbel.grown hg hbel.size (fun j e => by simp only [Option.some.injEq] at e; omega), Nat.lt_of_lt_of_le hbn hg.size⟩
  rw [← hh x hx]
  by_cases e : x = s
  · subst e
    rw [Go.Maps.has_put_same hmap (nm_key x)]
    simp
  · rw [Go.Maps.has_put_other (fun e' => e (nm_inj e'))]
    simp [e]
theorem below_alloc1' (W : World) (o : Go.Obj) : Below W.heap.size W (W.alloc o) := (Below.refl _ _).alloc (Nat.le_refl _) _
end Go.Proofs.Ytfaoeajaahnooaa.cel
