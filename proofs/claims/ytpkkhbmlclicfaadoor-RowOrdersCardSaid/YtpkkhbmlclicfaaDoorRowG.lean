/- The row of a key, walked. -/
import Derived.Test.YtpkkhbmlclicfaaDoorRowK
namespace Go.Proofs.YtpkkhbmlclicfaaDoor.val
set_option linter.unusedVariables false
open Go.RowKit

theorem split_len : ∀ (f : Nat) (s : ByteArray), s.size ≤ f → (splitS s).1.length ≤ s.size ∧ ∀ x ∈ (splitS s).1, x.size ≤ s.size := by
  intro f
  induction f with
  | zero =>
    intro s hs
    rw [splitS_stop s (.inl (by omega))]
    exact ⟨by simp, by simp⟩
  | succ f ih =>
    intro s hs
    by_cases hc : s.size < 4 ∨ s.size < 4 + cutN s
    · rw [splitS_stop s hc]
      exact ⟨by simp, by simp⟩
    · have hz : (s.extract (4 + cutN s) s.size).size = s.size - (4 + cutN s) := by rw [ByteArray.size_extract]; omega
      have hz1 : (s.extract 4 (4 + cutN s)).size = cutN s := by rw [ByteArray.size_extract]; omega
      rw [splitS_step s (by omega) (by omega)]
      obtain ⟨h1, h2⟩ := ih (s.extract (4 + cutN s) s.size) (by rw [hz]; omega)
      refine ⟨by simp only [List.length_cons]; omega, fun x hx => ?_⟩
      rcases List.mem_cons.1 hx with rfl | hx
      · omega
      · have := h2 x hx; omega
theorem infoV : (Tryd.prog.info? 26).map (fun i => (i.zero, i.size, i.bytes)) = some (some (ag3 0 0 ⟨#[]⟩), 3, 32) := by kernel_rfl
theorem cells_new_add (w : World) (vs : List Value) (T : TypeId) : ∀ j u, vs[j]? = some u → (w.alloc (.cells vs.toArray T)).cell? ((⟨w.heap.size, 0, none⟩ : Addr).add j) = some u := by
  intro j u h
  have e : (⟨w.heap.size, 0, none⟩ : Addr).add j = ⟨w.heap.size, j, none⟩ := by unfold Addr.add; split <;> simp_all
  rw [e, cells_new, h]
theorem decode_ok (s : ByteArray) (hs : s.size ≤ 1099511627776) (h : shapeB s = true) (W : World) : Calls Tryd.prog 62 #[.string s] W fun e w' => ∃ k n t, e = .returned (.tuple #[ag3 k n t, .bool true]) ∧ Hid (Good ⟨k, n, t⟩ ∧ encS ⟨k, n, t⟩ = s) ∧ Below W.heap.size W w' := by
  refine (decode_any s hs W).mono ?_
  rintro e w' ⟨k, n, t, he, h1, hb⟩
  obtain ⟨h2, h3⟩ := h1 h
  exact ⟨k, n, t, by rw [he, h], Lib.hid ⟨h2, bytes_data (by simpa [encS] using h3)⟩, hb⟩
theorem decode_bad (s : ByteArray) (hs : s.size ≤ 1099511627776) (h : shapeB s = false) (W : World) : Calls Tryd.prog 62 #[.string s] W fun e w' => ∃ k n t, e = .returned (.tuple #[ag3 k n t, .bool false]) ∧ Below W.heap.size W w' := by
  refine (decode_any s hs W).mono ?_
  rintro e w' ⟨k, n, t, he, h1, hb⟩
  exact ⟨k, n, t, by rw [he, h], hb⟩

/-- what has been read of some texts -/
def GI (ss : List ByteArray) (k : Nat) (l : List V) : Prop := (∀ x ∈ l, Good x) ∧ l.map encS = ss.take k
/-- what Get tells -/
def GetPost (s : ByteArray) (W : World) (e : Ending) (w' : World) : Prop :=
  (if (splitS s).2 = false then e = .returned (.tuple #[.slice none 0 0, .int .i64 2])
   else if (splitS s).1.all shapeB = false then e = .returned (.tuple #[.slice none 0 0, .int .i64 4])
   else ∃ v l, e = .returned (.tuple #[v, .int .i64 0]) ∧ w'.ownsRow W.heap.size TV 3 v l.length (vCells l) ∧ (∀ x ∈ l, Good x) ∧ l.map encS = (splitS s).1) ∧ Below W.heap.size W w'

set_option maxRecDepth 100000 in
set_option maxHeartbeats 2000000 in
theorem get_any (s : ByteArray) (hs : s.size ≤ 1099511627776) (w : World) : Calls Tryd.prog 36 #[.string s] w (GetPost s w) := by
  obtain ⟨i0, hi, hz0, hz1, hz2⟩ := info_parts infoV
  obtain ⟨hsl, hsm⟩ := split_len _ s (Nat.le_refl _)
  obtain ⟨ss, hss⟩ : ∃ ss, (splitS s).1 = ss := ⟨_, rfl⟩
  obtain ⟨wh, hwh⟩ : ∃ wh, (splitS s).2 = wh := ⟨_, rfl⟩
  have HSS := Lib.hid hss; have HWH := Lib.hid hwh
  rw [hss] at hsl hsm
  have HSM := Lib.hid hsm
  have hl40 : ss.length ≤ 1099511627776 := by omega
  clear hss hwh hsl hsm
  have hsp : Calls Tryd.prog 61 #[.string s] w fun e w' => ∃ v, e = .returned (.tuple #[v, .int .i64 (if wh then 0 else 2)]) ∧ (if wh then w'.ownsRow w.heap.size 9 1 v ss.length (ss.map Value.string) else v = .slice none 0 0) ∧ Below w.heap.size w w' := by
    refine (split_any s w hs).mono ?_
    rintro e w' ⟨v, h1, h2, h3⟩
    rw [HWH.out, HSS.out] at *
    exact ⟨v, h1, h2, h3⟩
  have HSP := Lib.hid hsp
  clear hsp
  cases wh with
  | false =>
    go_enter Tryd.func36, Tryd.ntmps36
    go_wp2_with (go_at_call 61; (with_reducible refine (HSP.out).mono ?_); rintro e w1 ⟨v, rfl, hv, hb1⟩; simp only [Bool.false_eq_true, if_false] at hv; subst hv; have HB1 := Lib.hid hb1; clear hb1)
    go_ret2
    exact ⟨by rw [if_pos HWH.out]; rfl, HB1.out⟩
  | true =>
    go_enter Tryd.func36, Tryd.ntmps36
    go_wp2_with (first | (go_at_call 61; (with_reducible refine (HSP.out).mono ?_); rintro e w1 ⟨v, rfl, hv, hb1⟩; simp only [if_true] at hv; have HV := Lib.hid (Row.of_owns hv); obtain ⟨av, cv, rfl⟩ := owns_shape hv; have HB1 := Lib.hid hb1; clear hv hb1) | (at_make; refine wpList_make_own _ rfl _ _ 54 rfl w1.heap.size TV i0 (ag3 0 0 ⟨#[]⟩) 3 Tryd.underlying54 hi hz0 hz1 .i64 .i64 _ ss.length rfl rfl rfl (by rw [hz2]; omega) (by unfold maxLen; omega) (Nat.le_refl _) ?_; intro w2 hown2 hgrow2))
    have hB2 := below_grown hgrow2
    go_loopw [6, 24] (fun rv i wr => ∃ (k : Nat) (l : List V), i = .int .i64 (k : Int) ∧ k ≤ ss.length ∧ Hid (wr.ownsRow w1.heap.size TV 3 rv k (vCells l)) ∧ Hid (GI ss k l) ∧ Hid (Below w1.heap.size w1 wr)) (fun _ i _ => ss.length - (intOf i).toNat)
    case atStart => exact ⟨0, [], rfl, by omega, Lib.hid hown2, Lib.hid ⟨by simp, rfl⟩, Lib.hid hB2⟩
    case round =>
      obtain ⟨k, l, rfl, hk, HO, HI, HB⟩ := hrel
      clear hown2 hgrow2 hB2
      have hd0 : (0 : Int) ≤ (k : Int) := by omega
      by_cases h1 : k < ss.length
      · have d1 : (k : Int) < (ss.length : Int) := by omega
        obtain ⟨b, off, cap', ea, hcell⟩ := (HV.out.later HB.out).pos (by omega)
        simp only [Value.slice.injEq] at ea
        obtain ⟨rfl, -, rfl⟩ := ea
        have g0 : wr.cell? ⟨b, off + k, none⟩ = some (.string ss[k]) := by
          have := hcell k (by omega)
          rw [List.getElem?_map, List.getElem?_eq_getElem h1] at this
          exact this
        have hsz := HSM.out _ (List.getElem_mem h1)
        have HT := Lib.hid (List.take_succ_eq_append_getElem h1)
        have HMEM := Lib.hid (List.getElem_mem h1)
        generalize ss[k] = x at *
        have hx40 : x.size ≤ 1099511627776 := by omega
        clear hcell hsz
        by_cases hsh : shapeB x = true
        · have HD := Lib.hid (decode_ok x hx40 hsh)
          clear hsh
          go_wp2_with (first | (go_at_call 62; (with_reducible refine (HD.out _).mono ?_); rintro e w3 ⟨xk, xn, xs, rfl, HX, hb3⟩; have hown3 := owns_below HO.out hb3) | (at_builtin; refine wpList_append_own _ rfl _ _ 54 rfl w1.heap.size TV i0 (ag3 0 0 ⟨#[]⟩) 3 32 Tryd.underlying54 hi hz0 hz1 hz2 rfl (by decide) _ _ _ rfl ((hown3.alloc _).alloc _) ⟨w3.heap.size + 1, 0, none⟩ 1 1 [.int .i64 xk, .int .i64 xn, .string xs] rfl rfl ?c1 ?c2 ?c3 ?c4 ?c5 ?_))
          case c1 =>
            intro j u hu
            have := cells_new_add (w3.alloc (.cells #[.int .i64 xk, .int .i64 xn, .string xs] TV)) [.int .i64 xk, .int .i64 xn, .string xs] TV j u hu
            rwa [World.size_alloc] at this
          case c2 => intro u hu; simp at hu; rcases hu with rfl | rfl | rfl <;> rfl
          case c3 => unfold maxLen; omega
          case c4 => omega
          case c5 => have := hb3.size; have := HB.out.size; simp only [World.size_alloc]; omega
          intro v' w5 hown' hgrow _
          have hB5 : Below w1.heap.size w1 w5 := (((HB.out.trans (hb3.mono HB.out.size)).alloc (by have := hb3.size; have := HB.out.size; omega) _).alloc (by have := hb3.size; have := HB.out.size; simp only [World.size_alloc]; omega) _).grown hgrow (by have := hb3.size; have := HB.out.size; simp only [World.size_alloc]; omega) (fun k hk => (hown3.lt k hk).1)
          have HO2 := Lib.hid hown'
          have HB5 := Lib.hid hB5
          clear hown3 hown' hgrow hb3 hB5
          go_wp2
          go_roundw
          case rel => exact ⟨k + 1, l ++ [⟨xk, xn, xs⟩], by go_num, by omega, Lib.hid (by rw [vCells_snoc]; exact HO2.out), Lib.hid ⟨fun y hy => by rcases List.mem_append.1 hy with hy | hy; exact HI.out.1 y hy; rw [List.mem_singleton.1 hy]; exact HX.out.1, by rw [List.map_append, HI.out.2, HT.out, List.map_singleton, HX.out.2]⟩, HB5⟩
          case measure => simp [intOf]; omega
        · have hsh' : shapeB x = false := by simpa using hsh
          have HD := Lib.hid (decode_bad x hx40 hsh')
          have HSH := Lib.hid hsh'
          clear hsh hsh'
          go_wp2_with (go_at_call 62; (with_reducible refine (HD.out _).mono ?_); rintro e w3 ⟨xk, xn, xs, rfl, hb3⟩; have HB3 := Lib.hid hb3; clear hb3)
          go_ret2
          refine ⟨?_, ?_⟩
          · rw [if_neg (by rw [HWH.out]; simp), if_pos (by rw [HSS.out, List.all_eq_false]; exact ⟨x, HMEM.out, by rw [HSH.out]; simp⟩)]; rfl
          · exact (HB1.out.trans ((HB.out.trans (HB3.out.mono HB.out.size)).mono HB1.out.size)).alloc (by have := HB1.out.size; have := HB.out.size; have := HB3.out.size; omega) _
      · have d1 : ¬ (k : Int) < (ss.length : Int) := by omega
        have hk2 : k = ss.length := by omega
        subst hk2
        go_wp2_with fail
        go_ret2
        refine ⟨?_, HB1.out.trans (HB.out.mono HB1.out.size)⟩
        obtain ⟨q1, q2⟩ := HI.out
        rw [List.take_length] at q2
        have ql : l.length = ss.length := by rw [← q2, List.length_map]
        have hall : ss.all shapeB = true := by
          rw [List.all_eq_true]
          intro x hx
          rw [← q2] at hx
          obtain ⟨v, hv, rfl⟩ := List.mem_map.1 hx
          exact enc_shape (q1 v hv)
        rw [if_neg (by rw [HWH.out]; simp), if_neg (by rw [HSS.out, hall]; simp)]
        have ho := HO.out
        rw [← ql] at ho
        exact ⟨_, l, rfl, owns_base ho (fun g hg => by have := (ho.lt g hg).1; have := HB1.out.size; omega), q1, by rw [HSS.out]; exact q2⟩
end Go.Proofs.YtpkkhbmlclicfaaDoor.val
