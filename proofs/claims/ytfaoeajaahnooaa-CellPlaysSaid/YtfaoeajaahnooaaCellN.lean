/- A range over a map of texts to truths: the step. -/
import Derived.Test.YtfaoeajaahnooaaCellM
import Derived.Maps.RangeWalk
namespace Go.Proofs.Ytfaoeajaahnooaa.cel
set_option linter.unusedVariables false
open Go.RowKit Go.WideShapes Go.MapKept

theorem plainElem_bool_inv {P : Program} {e : TypeId} (he : P.underlying e = some .bool) {v : Value} {z : Dat × List MemPlace} (h : plainElem P e v = some z) : ∃ c : Bool, v = .bool c := by
  unfold plainElem at h
  rw [he] at h
  cases v <;> simp at h
  exact ⟨_, rfl⟩
theorem wpList_next_sb {P : Program} (w : World) {ops : Array Oper} {rest : List Oper} {o : Oper} {a : Act} {Q : Exit → Act → World → Prop}
    (hg : o.guard = none) (it : Operand) (hop : o.op = Op.next it false) (k e : TypeId) (K : Go.Maps.Keyed P k) (hk : P.underlying k = some .string) (he : P.underlying e = some .bool)
    (b r n : Nat) (D : Dat) (left : Lit → Bool) (cnt : Nat) (hit : a.eval it = .pointer (some ⟨r, 0, none⟩)) (h : w.ranges P k (plainElem P e) b r n D left cnt)
    (hDone : cnt = 0 → (∀ kl, left kl = false) → wpList P ops Q rest (a.put o.dst (.tuple #[.bool false])) w)
    (hMore : ∀ (x : List UInt8) (c : Bool) (w' : World) (cnt' : Nat), x.length ≤ maxLen → left (.string x) = true → (∃ y, ∀ zd, D.atKey (.string x) zd = y) → w'.ranges P k (plainElem P e) b r n D (fun z => left z && !z.sameKey (.string x)) cnt' → cnt' < cnt →
      w.grownBy w' (some r) → w'.heap.size = w.heap.size → (Instr.entry (.pointer (some ⟨r, 0, none⟩))).run P w' = .ok (.tuple #[encStr x, .bool c]) w' → wpList P ops Q rest (a.put o.dst (.tuple #[.bool true, encStr x, .bool c])) w') :
    wpList P ops Q (o :: rest) a w :=
  wpList_next_ranges w hg it hop k K (plainElem P e) encStr Value.bool (fun key kl hkey => by obtain ⟨x, rfl, _⟩ := Go.Maps.keyOf_str hk hkey; exact ⟨x, rfl⟩) (fun v y hv => plainElem_bool_inv he hv)
    b r n D left cnt hit h hDone (fun x c kl y w' cnt' hkey hlk hv hat hrg hlt hgr hsz hen => by
      obtain ⟨x', ex, rfl, hwx⟩ := Go.Maps.keyOf_str hk hkey
      have ex' := encStr_inj ex
      subst ex'
      exact hMore x c w' cnt' hwx hlk ⟨_, hat⟩ hrg hlt hgr hsz hen)
abbrev bA (x : List UInt8) : ByteArray := ⟨x.toArray⟩
/-- the names that came are the names that were noted -/
theorem collected_names {D : Dat} {left : Lit → Bool} {vs : List (List UInt8)} {ns : List ByteArray} (h : Collected D left vs) (hl : ∀ kl, left kl = false) (hnd : ns.Nodup) (hns : ∀ s ∈ ns, s.size ≤ maxLen) (hvs : ∀ x ∈ vs, x.length ≤ maxLen)
    (hh : ∀ s, s.size ≤ maxLen → ((Go.Maps.has D (nm s) = true ∨ False) ↔ s ∈ ns)) : (vs.map bA).Perm ns := by
  have inj : ∀ x y : List UInt8, bA x = bA y → x = y := fun x y e => by
    have := congrArg (fun b : ByteArray => b.data.toList) e
    exact this
  refine (List.perm_ext_iff_of_nodup (List.pairwise_map.2 (h.1.imp fun hne e => hne (inj _ _ e))) hnd).2 fun s => ?_
  rw [List.mem_map]
  constructor
  · rintro ⟨x, hx, rfl⟩
    exact (hh (bA x) (hvs x hx)).1 (.inl ((h.2 x).1 hx).1)
  · intro hs
    have h1 := (hh s (hns s hs)).2 hs
    exact ⟨s.data.toList, (h.2 _).2 ⟨h1.resolve_right id, hl _⟩, rfl⟩
theorem collected_tot {D : Dat} {left : Lit → Bool} {vs : List (List UInt8)} {ns : List ByteArray} (f : ByteArray → List Int) (h : Collected D left vs) (hl : ∀ kl, left kl = false) (hnd : ns.Nodup) (hns : ∀ s ∈ ns, s.size ≤ maxLen) (hvs : ∀ x ∈ vs, x.length ≤ maxLen)
    (hh : ∀ s, s.size ≤ maxLen → ((Go.Maps.has D (nm s) = true ∨ False) ↔ s ∈ ns)) : tot f (vs.map bA) = tot f ns := tot_perm f (collected_names h hl hnd hns hvs hh)
end Go.Proofs.Ytfaoeajaahnooaa.cel
