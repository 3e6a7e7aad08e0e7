/- Two slices of unlike elements that a region appends to. Laws of no program. -/
import Derived.Test.YthhcjmikkiiahaaAgT
namespace Go.Proofs.Ythhcjmikkiiahaa.ag
set_option linter.unusedVariables false
open Go.RowKit
section
variable {P : Program}
/-- an append to what has N already: of the rows of this element no longer one turns, of another element none -/
def tk2 (B : Nat) (e : TypeId) (sz N : Nat) : (Nat → Value) → World → World → Prop := fun _ W W' => Below B W W' ∧ (∀ u m zs, m ≤ N → W.ownsRow B e sz u m zs → W'.ownsRow B e sz u m zs) ∧ (∀ e' sz' u m zs, e' ≠ e → W.ownsRow B e' sz' u m zs → W'.ownsRow B e' sz' u m zs) ∧ (N = 0 → Below W.heap.size W W')
theorem Ch.stays2 {B : Nat} {e : TypeId} {sz n N : Nat} {xs : List Value} {f : Nat → Value} {v : Value} {W W' : World} (h : Ch B e sz n xs v W) (ht : tk2 B e sz N f W W') (hn : n ≤ N ∨ N = 0) : Ch B e sz n xs v W' := by
  refine ⟨h.1, ?_⟩
  rcases hn with hn | hn
  · exact ht.2.1 _ _ _ hn h.2
  · exact owns_below h.2 (ht.2.2.2 hn)
theorem Ch.apart {B : Nat} {e e' : TypeId} {sz sz' n N : Nat} {xs : List Value} {f : Nat → Value} {v : Value} {W W' : World} (h : Ch B e' sz' n xs v W) (ht : tk2 B e sz N f W W') (hne : e' ≠ e) : Ch B e' sz' n xs v W' := ⟨h.1, ht.2.2.1 _ _ _ _ _ hne h.2⟩
theorem does_chain2 {o : Oper} {a : Act} {W : World} {f : Nat → Value} (s x : Operand) (t : TypeId) (ho : o.op = .call { callee := .builtin .append, args := #[s, x], argTypes := #[t, t] })
    (B : Nat) (e : TypeId) (i : TypeInfo) (z : Value) (size bytes : Nat) (ht : P.underlying t = some (.slice e)) (hi : P.info? e = some i) (hz : i.zero = some z)
    (hsize : i.size = size) (hby : i.bytes = bytes) (hzs : z.cells.size = size) (hsz : 0 < size)
    (v : Value) (n : Nat) (xs : List Value) (hs : a.eval s = v) (hown : Ch B e size n xs v W)
    (vx : Value) (m : Nat) (news : List Value) (hx : a.eval x = vx) (hrow : Row W vx size m news) (h1 : ∀ u ∈ news, u.oneCell' = true)
    (h63 : n + m ≤ maxLen) (hbytes : (n + m) * bytes ≤ 140737488355328) (hbase : B ≤ W.heap.size) (R : List Spec) (k : Nat) (D : List (Nat × Value)) :
    does P o a W (fun v' W' => Ch B e size (n + m) (xs ++ news) v' W' ∧ tk2 B e size n f W W' ∧ News (fun _ _ _ _ => True) k v' W D 0 R) := by
  obtain ⟨⟨av, cv, rfl, hc0⟩, hown⟩ := hown
  refine does_append s x t ho B e i z size bytes ht hi hz hsize hby hzs hsz _ n xs hs hown vx m news hx hrow h1 h63 hbytes hbase (fun v' W' hap => ?_)
  obtain ⟨a', c', rfl⟩ := hap.form
  have hb : Below B W W' := (Below.refl B W).grown hap.grown hbase (fun k hk => (hown.lt k hk).1)
  refine ⟨⟨⟨_, _, rfl, fun h0 => ?_⟩, hap.own⟩, ⟨hb, hap.keep, fun e' sz' u m' zs hne h => ?_, fun h0 => ?_⟩, News.none (fun _ _ => trivial) _ _⟩
  · have hm0 : m = 0 := by omega
    have hn0 : n = 0 := by omega
    have h := (hap.same hm0).1
    simp only [Value.slice.injEq] at h
    rw [h.2.2]; exact hc0 hn0
  · exact h.kept hap.grown (owns_ne_owns h hown hne)
  · exact hap.full (fun a c h => by simp only [Value.slice.injEq] at h; rw [← h.2.2, hc0 h0]; omega)
/-- two slices that are appended to in turn -/
def TwoL (B : Nat) (T1 T2 : TypeId) (s1 s2 j : Nat) (xs ys : List Value) (v1 v2 : Value) (W0 W : World) : Prop := Below B W0 W ∧ B ≤ W0.heap.size ∧ Ch B T1 s1 j xs v1 W ∧ Ch B T2 s2 j ys v2 W
section
variable {B : Nat} {T1 T2 : TypeId} {s1 s2 j : Nat} {xs ys : List Value} {v1 v2 : Value} {W0 W W' : World} {f : Nat → Value}
theorem TwoL.hB (h : TwoL B T1 T2 s1 s2 j xs ys v1 v2 W0 W) : B ≤ W.heap.size := Nat.le_trans h.2.1 h.1.size
theorem TwoL.grew (h : TwoL B T1 T2 s1 s2 j xs ys v1 v2 W0 W) (hb : ag.grew f W W') : TwoL B T1 T2 s1 s2 j xs ys v1 v2 W0 W' :=
  ⟨h.1.trans (Below.mono hb h.hB), h.2.1, Ch.lasts _ _ _ h.2.2.1 hb, Ch.lasts _ _ _ h.2.2.2 hb⟩
theorem TwoL.drew (h : TwoL B T1 T2 s1 s2 j xs ys v1 v2 W0 W) : TwoL B T1 T2 s1 s2 j xs ys v1 v2 W0 W.drew := TwoL.grew (f := fun _ => v1) h ((Below.refl W.heap.size W).drew)
theorem TwoL.k1 (h : TwoL B T1 T2 s1 s2 j xs ys v1 v2 W0 W) (hne : T2 ≠ T1) (ht : tk2 B T1 s1 j f W W') : TwoL B T1 T2 s1 s2 j xs ys v1 v2 W0 W' :=
  ⟨h.1.trans ht.1, h.2.1, h.2.2.1.stays2 ht (.inl (Nat.le_refl _)), h.2.2.2.apart ht hne⟩
theorem TwoL.k2 (h : TwoL B T1 T2 s1 s2 j xs ys v1 v2 W0 W) (hne : T1 ≠ T2) (ht : tk2 B T2 s2 j f W W') : TwoL B T1 T2 s1 s2 j xs ys v1 v2 W0 W' :=
  ⟨h.1.trans ht.1, h.2.1, h.2.2.1.apart ht hne, h.2.2.2.stays2 ht (.inl (Nat.le_refl _))⟩
end
end
end Go.Proofs.Ythhcjmikkiiahaa.ag
