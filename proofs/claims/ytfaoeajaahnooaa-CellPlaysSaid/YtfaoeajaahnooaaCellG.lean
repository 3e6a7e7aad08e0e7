/- A store of cells: which names are told; the law's 'same'. -/
import Derived.Test.YtfaoeajaahnooaaCellF
namespace Go.Proofs.Ytfaoeajaahnooaa.cel
set_option linter.unusedVariables false
open Go.RowKit Go.WideShapes Go.MapKept
attribute [local go_sem] fieldT

/-- The cells of a store, in the words of a range over a function. -/
theorem all_seq (n : Nat) (hn : 1 ≤ n) (Bs : Nat) {own : Nat → Prop} {bs m : Nat} {S : CS} {w : World} {bt bw : Nat} {Dt Dw : Dat} {bk : ByteArray → Option Nat} (h : Cel own bs m S w bt bw Dt Dw bk) (hm : m ≤ 1000000) (ks : List (List UInt8)) (hks : ks = (strKeys Dt).mergeSort leB)
    (P : Nat → Prop) (hP : ∀ k, P k → k < w.heap.size ∧ ¬ own k ∧ k ≠ Bs) (hBs : w.cell? ⟨Bs, 0, none⟩ = some (.pointer (some ⟨bs, 0, none⟩))) :
    SeqArg Fence.wide n Try.prog 21 #[.pointer (some ⟨Bs, 0, none⟩)] (AllA S ks) (OnlyX w.heap.size P) ks.length w :=
  fun l J Jx W hW hJ hJx hY h0 => all1_in n hn l Bs h hm ks hks W P hP (OnlyX.of_below hW) J Jx hJ hY hBs h0
theorem AllA.size {S : CS} {ks : List (List UInt8)} {k : Nat} {W : World} {xs : Array Value} (h : AllA S ks k W xs) : xs.size = 2 := by
  obtain ⟨x, -, rfl⟩ := h; rfl
section
variable {own : Nat → Prop} {bs m : Nat} {S : CS} {w : World} {bt bw : Nat} {Dt Dw : Dat} {bk : ByteArray → Option Nat}
theorem Cel.names (h : Cel own bs m S w bt bw Dt Dw bk) (ns : List ByteArray) (hnd : ns.Nodup) (hsz : ∀ s ∈ ns, s.size ≤ maxLen) (hns : ∀ s, s.size ≤ maxLen → (s ∈ ns ↔ S.tx s ≠ ByteArray.empty)) : (ns.map (fun s => s.data.toList)).Perm (strKeys Dt) := by
  have hkl := strKeys_le h.mt Try.underlying9
  obtain ⟨es, hD, hpw, -⟩ := h.mt.entries keyedS
  obtain ⟨es', hD', hko⟩ := h.mt.keysOf
  obtain rfl : es = es' := by rw [hD] at hD'; simpa using hD'
  have hst : ∀ p ∈ es, ∃ x, p.1 = .string x := fun p hp => by obtain ⟨v, hv⟩ := hko p hp; obtain ⟨x, _, hx, _⟩ := Go.Maps.keyOf_str Try.underlying9 hv; exact ⟨x, hx⟩
  have hat := h.has_t
  subst hD
  refine perm_strKeys hpw hst (List.pairwise_map.2 (hnd.imp fun hne e => hne (ByteArray.ext (Array.toList_inj.1 e)))) (fun x => ?_)
  rw [List.mem_map]
  constructor
  · rintro ⟨s, hs, rfl⟩
    have := hat s (hsz s hs)
    unfold nm at this
    rw [this]
    exact decide_eq_true ((hns s (hsz s hs)).1 hs)
  · intro hx
    have hxm : x ∈ strKeys (DataW.map es) := by
      rw [Go.Maps.has_eq, List.any_eq_true] at hx
      obtain ⟨p, hp, hs⟩ := hx
      obtain ⟨a, ha⟩ := hst p hp
      rw [ha] at hs
      refine List.mem_map.2 ⟨p, hp, ?_⟩
      rw [ha]
      simpa [Lit.sameKey, strOf] using hs
    have hxl : (⟨x.toArray⟩ : ByteArray).size ≤ maxLen := hkl x hxm
    have := hat ⟨x.toArray⟩ hxl
    unfold nm at this
    rw [show (⟨x.toArray⟩ : ByteArray).data.toList = x from rfl, hx] at this
    exact ⟨⟨x.toArray⟩, (hns _ hxl).2 (of_decide_eq_true this.symm), rfl⟩
theorem Cel.sizeD (h : Cel own bs m S w bt bw Dt Dw bk) (ns : List ByteArray) (hnd : ns.Nodup) (hsz : ∀ s ∈ ns, s.size ≤ maxLen) (hns : ∀ s, s.size ≤ maxLen → (s ∈ ns ↔ S.tx s ≠ ByteArray.empty)) : Go.Maps.size Dt = ns.length := by
  have hp := (h.names ns hnd hsz hns).length_eq
  obtain ⟨es, hD, -⟩ := h.mt.entries keyedS
  rw [hD] at hp ⊢
  have h2 : (strKeys (DataW.map es)).length = es.length := by show (es.map _).length = _; simp
  have h3 : Go.Maps.size (DataW.map es) = es.length := rfl
  rw [List.length_map] at hp
  omega
end
end Go.Proofs.Ytfaoeajaahnooaa.cel
