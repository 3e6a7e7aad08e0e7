/- What the law BagHolds says of rows, plain. -/
import Derived.Test.YtpkkhbmlclicfaaBagJ
import Derived.Test.YtpkkhbmlclicfaaMD
import Derived.Test.YtpkkhbmlclicfaaBagV
import Derived.Test.YtpkkhbmlclicfaaMF
namespace Go.Proofs.Ytpkkhbmlclicfaa.val
set_option linter.unusedVariables false
theorem exists_sorted : ∀ l : List (List V), ∃ ms : List (List V), ms.Perm l ∧ SortedL ms
  | [] => ⟨[], List.Perm.refl _, List.Pairwise.nil⟩
  | x :: l => by
    obtain ⟨ms, hp, hs⟩ := exists_sorted l
    have key : ∀ ms : List (List V), SortedL ms → ∃ A B, ms = A ++ B ∧ (∀ a ∈ A, beforeL x a = false) ∧ (∀ b ∈ B, beforeL b x = false) := by
      intro ms
      induction ms with
      | nil => intro _; exact ⟨[], [], rfl, fun _ h => (by cases h), fun _ h => (by cases h)⟩
      | cons y ms ih =>
        intro h
        have h' := List.pairwise_cons.1 h
        cases hb : beforeL x y with
        | true =>
          refine ⟨[], y :: ms, rfl, fun _ h => (by cases h), fun b hbm => ?_⟩
          rcases List.mem_cons.1 hbm with rfl | hbm
          · exact beforeL_asymm _ _ hb
          · cases hx : beforeL b x with
            | false => rfl
            | true => have := h'.1 b hbm; rw [beforeL_trans _ _ _ hx hb] at this; cases this
        | false =>
          obtain ⟨A, B, e, h1, h2⟩ := ih h'.2
          refine ⟨y :: A, B, by rw [e]; rfl, fun a ha => ?_, h2⟩
          rcases List.mem_cons.1 ha with rfl | ha
          · exact hb
          · exact h1 a ha
    obtain ⟨A, B, e, h1, h2⟩ := key ms hs
    refine ⟨A ++ x :: B, (List.perm_middle).trans ((by rw [← e]; exact hp : (A ++ B).Perm l).cons x), ?_⟩
    have hs' : (A ++ B).Pairwise (fun x y => beforeL y x = false) := by rw [← e]; exact hs
    rw [List.pairwise_append] at hs'
    obtain ⟨sA, sB, sAB⟩ := hs'
    refine List.pairwise_append.2 ⟨sA, List.pairwise_cons.2 ⟨fun b hb => h2 b hb, sB⟩, fun a ha b hb => ?_⟩
    rcases List.mem_cons.1 hb with rfl | hb
    · exact h1 a ha
    · exact sAB a ha b hb
theorem sorted_adj {ms : List (List V)} (h : SortedL ms) : Adj ms := by
  intro j x y h1 h2
  obtain ⟨h3, rfl⟩ := List.getElem?_eq_some_iff.1 h1
  obtain ⟨h4, rfl⟩ := List.getElem?_eq_some_iff.1 h2
  exact (List.pairwise_iff_getElem.1 h) j (j + 1) h3 h4 (by omega)
theorem enc_all8 (l : List V) (h : ∀ v ∈ l, Good v) : (l.map encS).all shapeB = true := by
  rw [List.all_eq_true]
  intro x hx
  obtain ⟨v, hv, rfl⟩ := List.mem_map.1 hx
  exact enc_shape (h v hv)
theorem errR_key {r : List V} (h : Goods r) : errR (kB r) = 0 := by
  have hs := split_key r h
  unfold errR kB
  rw [hs, if_neg (by simp), if_neg (by rw [enc_all8 r h]; simp)]
theorem keyRows_kB {ms : List (List V)} (h : ∀ l ∈ ms, Goods l) : KeyRows (ms.map kB) ms := by
  refine ⟨by simp, fun j r k h1 h2 => ?_⟩
  rw [List.getElem?_map, h1] at h2
  simp only [Option.map_some, Option.some.injEq] at h2
  subst h2
  have hg := h r (List.mem_of_getElem? h1)
  exact ⟨hg, by unfold kB; rw [split_key r hg]⟩
theorem kB_size {r : List V} (h : Goods r ∧ r.length ≤ 4) : (kB r).size < 4294967296 := by
  have h3 := keyB_len r h.1
  have h4 : (kB r).size = (keyB r).length := by unfold kB; show (keyB r).toArray.size = _; simp
  have := h.2
  omega
theorem packB_inj {ms ns : List (List V)} (hm : ∀ l ∈ ms, Goods l ∧ l.length ≤ 4) (hn : ∀ l ∈ ns, Goods l ∧ l.length ≤ 4) (h : (⟨(packB (ms.map kB)).toArray⟩ : ByteArray) = ⟨(packB (ns.map kB)).toArray⟩) : ms = ns := by
  have small : ∀ ms : List (List V), (∀ l ∈ ms, Goods l ∧ l.length ≤ 4) → ∀ s ∈ ms.map kB, s.size < 4294967296 := by
    intro ms hm s hs
    obtain ⟨l, hl, rfl⟩ := List.mem_map.1 hs
    exact kB_size (hm l hl)
  have h1 := splitS_packB (ms.map kB) (small ms hm)
  have h2 := splitS_packB (ns.map kB) (small ns hn)
  rw [h, h2] at h1
  have e : ns.map kB = ms.map kB := congrArg Prod.fst h1
  have inj : ∀ (ms ns : List (List V)), (∀ l ∈ ms, Goods l) → (∀ l ∈ ns, Goods l) → ns.map kB = ms.map kB → ms = ns := by
    intro ms
    induction ms with
    | nil => intro ns _ _ h; cases ns with
      | nil => rfl
      | cons a l => simp at h
    | cons a l ih => intro ns hm hn h; cases ns with
      | nil => simp at h
      | cons b m =>
        simp only [List.map_cons, List.cons.injEq] at h
        rw [kB_inj (hn b (List.mem_cons_self ..)) (hm a (List.mem_cons_self ..)) h.1, ih m (fun x hx => hm x (List.mem_cons_of_mem _ hx)) (fun x hx => hn x (List.mem_cons_of_mem _ hx)) h.2]
  exact inj ms ns (fun l hl => (hm l hl).1) (fun l hl => (hn l hl).1) e
/-- the rows in order, each once, so far -/
def Dd (ms : List (List V)) (k : Nat) (dd : List (List V)) : Prop := ∃ o : BL, Gat o ((once ms).take k) ∧ expB o = ms.take k ∧ dd = o.map (·.1)
theorem Dd.zero (ms : List (List V)) : Dd ms 0 [] := ⟨[], Gat.nil, rfl, rfl⟩
theorem gat_last_row {o p : BL} {ms : List (List V)} {k : Nat} {ro : List V} {co : Nat} (h : Gat o ((once ms).take k)) (he : expB o = ms.take k) (ho : o = p ++ [(ro, co)]) (hk : 0 < k) (hkl : k ≤ ms.length) : ms[k - 1]? = some ro := by
  have hc : 0 < co := h.1.2 (ro, co) (by rw [ho]; simp)
  have hl := expB_at o p.length (co - 1) (by rw [ho]; simp) (by simp [ho]; omega)
  have e1 : o.take p.length = p := by rw [ho]; simp
  have e2 : (o[p.length]'(by rw [ho]; simp)).1 = ro := by simp [ho]
  rw [e1, e2, he] at hl
  have hlen : total o = k := by rw [← expB_len, he, List.length_take]; omega
  rw [ho, total_snoc] at hlen
  rw [List.getElem?_take_of_lt (by simp only at hlen; omega)] at hl
  rw [show k - 1 = total p + (co - 1) by simp only at hlen; omega]
  exact hl
theorem Dd.same {ms dd : List (List V)} {k : Nat} (h : Dd ms k dd) (hk : 0 < k) (hkl : k < ms.length) (he : ms[k]? = ms[k - 1]?) : Dd ms (k + 1) dd := by
  obtain ⟨o, h1, h2, h3⟩ := h
  have hko : k < (once ms).length := by rw [once_len]; exact hkl
  have et : (once ms).take (k + 1) = (once ms).take k ++ [(ms[k], 1)] := by rw [List.take_succ_eq_append_getElem hko, once_get ms k hko hkl]
  have el : ms.take (k + 1) = ms.take k ++ [ms[k]] := List.take_succ_eq_append_getElem hkl
  rcases List.eq_nil_or_concat o with rfl | ⟨p, z, rfl⟩
  · have : (expB []).length = k := by rw [h2, List.length_take]; omega
    simp [expB] at this; omega
  · obtain ⟨ro, co⟩ := z
    rw [List.concat_eq_append] at *
    have hl := gat_last_row h1 h2 rfl hk (by omega)
    rw [← he, List.getElem?_eq_getElem hkl] at hl
    simp only [Option.some.injEq] at hl
    refine ⟨p ++ [(ro, co + 1)], by rw [et, hl]; exact h1.same, by rw [el, hl, expB_add, h2], ?_⟩
    rw [h3]; simp
theorem Dd.more {ms dd : List (List V)} {k : Nat} (h : Dd ms k dd) (hg : ∀ l ∈ ms, Goods l) (hs : SortedL ms) (hkl : k < ms.length) (hne : k = 0 ∨ ms[k]? ≠ ms[k - 1]?) : Dd ms (k + 1) (dd ++ [ms[k]]) := by
  obtain ⟨o, h1, h2, h3⟩ := h
  have hko : k < (once ms).length := by rw [once_len]; exact hkl
  have et : (once ms).take (k + 1) = (once ms).take k ++ [(ms[k], 1)] := by rw [List.take_succ_eq_append_getElem hko, once_get ms k hko hkl]
  have el : ms.take (k + 1) = ms.take k ++ [ms[k]] := List.take_succ_eq_append_getElem hkl
  rcases List.eq_nil_or_concat o with rfl | ⟨p, z, rfl⟩
  · refine ⟨[] ++ [(ms[k], 1)], by rw [et]; exact h1.more (by decide) (.inl rfl), by rw [el, expB_snoc, h2]; rfl, by rw [h3]; rfl⟩
  · obtain ⟨ro, co⟩ := z
    rw [List.concat_eq_append] at *
    have hc : 0 < co := h1.1.2 (ro, co) (by simp)
    have hk : 0 < k := by
      have : (expB (p ++ [(ro, co)])).length = k := by rw [h2, List.length_take]; omega
      rw [expB_len, total_snoc] at this
      simp only at this; omega
    have hl := gat_last_row h1 h2 rfl hk (by omega)
    have hne' : ms[k]? ≠ ms[k - 1]? := by rcases hne with h | h; · omega
                                          · exact h
    rw [hl, List.getElem?_eq_getElem hkl] at hne'
    have hle : beforeL ms[k] ro = false := by
      have hk1 : k - 1 < ms.length := by omega
      have := (List.pairwise_iff_getElem.1 hs) (k - 1) k hk1 hkl (by omega)
      rw [List.getElem?_eq_getElem hk1] at hl
      simp only [Option.some.injEq] at hl
      rw [hl] at this; exact this
    have hb : beforeL ro ms[k] = true := by
      cases hb : beforeL ro ms[k] with
      | true => rfl
      | false =>
        have hro : Goods ro := hg ro (List.mem_of_getElem? hl)
        exact absurd (congrArg some (beforeL_total ro ms[k] hro (hg _ (List.getElem_mem hkl)) hb hle).symm) hne'
    refine ⟨p ++ [(ro, co)] ++ [(ms[k], 1)], by rw [et]; exact h1.more (by decide) (.inr ⟨p, _, rfl, hb⟩), by rw [el, expB_snoc, h2]; rfl, by rw [h3]; simp⟩
theorem Dd.ones {ms dd : List (List V)} {o : BL} (h : Dd ms ms.length dd) (ho : Strict o) (hc : ∀ r, cnt o r = cnt (once ms) r) : once dd = ones o := by
  obtain ⟨p, h1, h2, h3⟩ := h
  rw [List.take_of_length_le (by rw [once_len]; exact Nat.le_refl _)] at h1
  have : o = p := strict_unique o p ho h1.1 (fun r => by rw [hc, h1.2.1])
  rw [h3, this]
  unfold once Go.Proofs.Ytpkkhbmlclicfaa.val.ones
  rw [List.map_map]; rfl
theorem Dd.mem {ms dd : List (List V)} {k : Nat} (h : Dd ms k dd) : ∀ x ∈ dd, x ∈ ms := by
  obtain ⟨o, h1, h2, rfl⟩ := h
  intro x hx
  obtain ⟨y, hy, rfl⟩ := List.mem_map.1 hx
  obtain ⟨z, hz, e⟩ := h1.2.2.2.1 y hy
  have := List.mem_of_mem_take hz
  unfold once at this
  obtain ⟨r, hr, rfl⟩ := List.mem_map.1 this
  rw [← e]; exact hr
end Go.Proofs.Ytpkkhbmlclicfaa.val
/- What was told, as a bag; small laws on rows. -/
namespace Go.Proofs.Ytpkkhbmlclicfaa.val
set_option linter.unusedVariables false
open Go.RowKit Go.Sort
theorem Ins.later {W W' : World} {vs : List Value} {xss : List (List Pl)} (h : Ins W vs xss) (hb : Below W.heap.size W W') : Ins W' vs xss := ⟨h.1, fun j u x h1 h2 => ⟨(h.2 j u x h1 h2).1.later hb, (h.2 j u x h1 h2).2⟩⟩
theorem told_row {B n : Nat} {sa sb : Value} {ra rb : List Value} {ls : List (List V)} {W w : World} (h : Told B n sa sb ra rb ls W) (hn : n ≤ 12) (hb : Below W.heap.size W w) :
    Calls Try.prog 8 #[sa] w fun e w' => ∃ b, e = .returned b ∧ IsB (cnt (once ls)) n b w' ∧ Below w.heap.size w w' := by
  have h' := h.later hb
  obtain ⟨e1, e2, e3, e4, e5, e6, e7, e8⟩ := h'
  have hr : Row w sa 1 ra.length ra := by rw [e3]; exact Row.of_owns e5
  have := of_isB (by omega) e2 hr e7
  rw [e1] at this
  exact this
theorem infoR7' : (Try.prog.info? 35).map (fun i => (i.zero, i.size, i.bytes)) = some (some (.slice none 0 0), 1, 24) := by kernel_rfl
/-- an append of the document's rows, whole -/
def apQ (args : Array Value) : Sem Value := Builtin.append_ #[25, 25] 25 args
theorem apQ_eq (args : Array Value) : Builtin.append_ #[25, 25] 25 args = apQ args := rfl
/-- what an append of rows leaves -/
theorem apQ_rows {w : World} {B C : Nat} {a : Option Addr} {c n m : Nat} {us : List Value} {ls : List (List V)} {v : Value} {vs : List Value} {ms : List (List V)} (hn : n ≤ 1000) (hm : m ≤ 1000) (ho : w.ownsRow B 35 1 (.slice a n c) n us) (hB : B ≤ w.heap.size) (hr : RwT TR C w us ls) (hv : Row w v 1 m vs) (hs : RwT TR C w vs ms) :
    ∃ (a5 : Option Addr) (c5 : Nat) (w5 : World), (apQ #[.slice a n c, v]).run Try.prog w = .ok (.slice a5 (n + m) c5) w5 ∧ w5.ownsRow B 35 1 (.slice a5 (n + m) c5) (n + m) (us ++ vs) ∧ Below B w w5 ∧ RwT TR C w5 (us ++ vs) (ls ++ ms) := by
  obtain ⟨i0, hi, hz0, hz1, hz2⟩ := info_parts infoR7'
  have h1 : ∀ u ∈ vs, u.oneCell' = true := hs.rws.one
  obtain ⟨v', w', hrun, hap⟩ := run_append_row (P := Try.prog) w B 25 25 35 i0 (.slice none 0 0) 1 24 Try.underlying25 hi hz0 hz1 hz2 rfl (by decide) (.slice a n c) n us ho v m vs hv h1 (by unfold maxLen; omega) (by omega) hB
  obtain ⟨a', cap, rfl⟩ := hap.form
  refine ⟨a', cap, w', hrun, hap.own, (Below.refl _ _).grown hap.grown hB (fun k hk => (ho.lt k hk).1), ?_⟩
  have h2 := hr.grown hap.grown (hr.apart ho (by decide))
  have h3 := hs.grown hap.grown (hs.apart ho (by decide))
  refine ⟨by rw [List.length_append, List.length_append, h2.1, h3.1], fun j u l e1 e2 => ?_⟩
  have hl := h2.1
  by_cases hj : j < us.length
  · rw [List.getElem?_append_left hj] at e1
    rw [List.getElem?_append_left (by omega)] at e2
    exact h2.2 j u l e1 e2
  · rw [List.getElem?_append_right (by omega)] at e1 e2
    rw [hl] at e1
    exact h3.2 _ u l e1 e2
theorem apQ_one {w : World} {B : Nat} {a : Option Addr} {c n : Nat} {us : List Value} {x : Option Addr} {y z : Nat} (hn : n ≤ 1000) (ho : w.ownsRow B 35 1 (.slice a n c) n us) (hB : B ≤ w.heap.size) :
    ∃ (a5 : Option Addr) (c5 : Nat) (w5 : World), (apQ #[.slice a n c, .slice (some ⟨w.heap.size, 0, none⟩) 1 1]).run Try.prog (w.alloc (.cells #[.slice x y z] 35)) = .ok (.slice a5 (n + 1) c5) w5 ∧ w5.ownsRow B 35 1 (.slice a5 (n + 1) c5) (n + 1) (us ++ [.slice x y z]) ∧ Below B w w5 := by
  obtain ⟨i0, hi, hz0, hz1, hz2⟩ := info_parts infoR7'
  have hz : (w.alloc (.cells #[.slice x y z] 35)).heap.size = w.heap.size + 1 := World.size_alloc _ _
  obtain ⟨v', w', hrun, hap⟩ := run_append_row (P := Try.prog) (w.alloc (.cells #[.slice x y z] 35)) B 25 25 35 i0 (.slice none 0 0) 1 24 Try.underlying25 hi hz0 hz1 hz2 rfl (by decide) (.slice a n c) n us (ho.alloc _) (.slice (some ⟨w.heap.size, 0, none⟩) 1 1) 1 [.slice x y z] (Row.of_flds (Flds.new w 35 [.slice x y z]) rfl 1) (fun u hu => by rw [List.mem_singleton.1 hu]; rfl) (by unfold maxLen; omega) (by omega) (by rw [hz]; omega)
  obtain ⟨a', cap, rfl⟩ := hap.form
  exact ⟨a', cap, w', hrun, hap.own, ((Below.refl _ w).alloc hB _).grown hap.grown (by rw [hz]; omega) (fun k hk => (ho.lt k hk).1)⟩
end Go.Proofs.Ytpkkhbmlclicfaa.val
