/- Rows sorted by the document's text, walked. -/
import Derived.Test.YtpkkhbmlclicfaaMG
import Derived.Deep.RegionWith
import Derived.OwnWalk
namespace Go.Proofs.Ytpkkhbmlclicfaa.val
set_option linter.unusedVariables false
open Go.RowKit
attribute [local go_sem] ag.upon_value ag.upon_skip ag.upon_enter
attribute [local go_sem] Oper.semAt_some
/-- a row of values, newer than X -/
def tFrm (X : World) (e : TypeId) (n : Nat) (xs : List Value) (v : Value) (W : World) : Prop := (∃ a c, v = .slice a n c ∧ (n = 0 → c = 0)) ∧ W.ownsRow X.heap.size e 1 v n xs
/-- an append that keeps rows of at most so many -/
def tKp (X : World) (e : TypeId) (N : Nat) (W W' : World) : Prop := (∀ u m zs, m ≤ N → W.ownsRow X.heap.size e 1 u m zs → W'.ownsRow X.heap.size e 1 u m zs) ∧ (N = 0 → Below W.heap.size W W') ∧ (Below X.heap.size X W → Below X.heap.size X W')
theorem tFrm.later {X W W' : World} {e : TypeId} {n : Nat} {xs : List Value} {v : Value} (h : tFrm X e n xs v W) (hb : Below W.heap.size W W') : tFrm X e n xs v W' := ⟨h.1, owns_below h.2 hb⟩
theorem tFrm.kp {X W W' : World} {e : TypeId} {n N : Nat} {xs : List Value} {v : Value} (h : tFrm X e n xs v W) (ht : tKp X e N W W') (hn : n ≤ N ∨ N = 0) : tFrm X e n xs v W' := by
  rcases hn with hn | hn
  · exact ⟨h.1, ht.1 _ _ _ hn h.2⟩
  · exact h.later (ht.2.1 hn)
theorem Row.pre {w : World} {a : Option Addr} {n c m : Nat} {us : List Value} (h : Row w (.slice a n c) 1 n us) (hm : m ≤ n) : Row w (.slice a m c) 1 m (us.take m) := by
  obtain ⟨a', c', e, hl, h⟩ := h
  simp only [Value.slice.injEq] at e
  obtain ⟨rfl, -, rfl⟩ := e
  refine ⟨_, _, rfl, by rw [List.length_take]; omega, ?_⟩
  rcases h with h | ⟨b, off, rfl, hc⟩
  · exact .inl (by omega)
  · exact .inr ⟨b, off, rfl, fun j hj => by rw [hc j (by omega), List.getElem?_take_of_lt (by omega)]⟩
theorem tFrm.appended {X w w' : World} {e : TypeId} {n m : Nat} {a : Option Addr} {c : Nat} {v' : Value} {xs news : List Value} (h : Appended X.heap.size e 1 (.slice a n c) n m xs news w v' w') (hc : n = 0 → c = 0) (hX : Below X.heap.size X w) (ho : w.ownsRow X.heap.size e 1 (.slice a n c) n xs) : tFrm X e (n + m) (xs ++ news) v' w' ∧ tKp X e n w w' := by
  obtain ⟨a', c', e'⟩ := h.form
  refine ⟨⟨⟨a', c', e', fun h0 => ?_⟩, h.own⟩, h.keep, fun h0 => h.full (fun a2 c2 e2 => by simp only [Value.slice.injEq] at e2; rw [← e2.2.2, hc h0]; exact Nat.zero_le _), fun hb => hb.grown h.grown hX.size (fun k hk => (ho.lt k hk).1)⟩
  obtain ⟨e1, -⟩ := h.same (by omega)
  rw [e'] at e1
  simp only [Value.slice.injEq] at e1
  rw [e1.2.2]; exact hc (by omega)
/-- what a sort leaves -/
def SortPost (n : Nat) (ls : List (List V)) (w : World) (e : Ending) (w' : World) : Prop := ∃ (a : Option Addr) (cap : Nat) (vs' : List Value) (ls' : List (List V)), e = .returned (.slice a n cap) ∧ vs'.length = n ∧ Row w' (.slice a n cap) 1 n vs' ∧ Rws w' vs' ls' ∧ ls'.Perm ls ∧ SortedL ls' ∧ Below w.heap.size w w'
set_option maxRecDepth 100000 in
set_option maxHeartbeats 4000000 in
theorem refsort_any (v : Value) (vs : List Value) (ls : List (List V)) (hn : vs.length ≤ 1000) (hg : ∀ l ∈ ls, Goods l) (hl : ∀ l ∈ ls, l.length ≤ 1000000) (w : World) (hv : Row w v 1 vs.length vs) (hr : Rws w vs ls) :
    Calls Try.prog 9 #[v] w (SortPost vs.length ls w) := by
  obtain ⟨i0, hi, hz0, hz1, hz2⟩ := info_parts infoRow7
  have HV := Lib.hid hv
  have HR := Lib.hid hr
  have HG := Lib.hid hg
  have HL := Lib.hid hl
  have HLL := Lib.hid hr.1
  obtain ⟨a, cap, rfl, -⟩ := hv
  obtain ⟨n, hnn⟩ : ∃ n, vs.length = n := ⟨_, rfl⟩
  have HN := Lib.hid hnn
  have hn' : n ≤ 1000 := by omega
  rw [hnn]
  have HV2 : Hid (Row w (.slice a n cap) 1 n vs) := Lib.hid (by rw [← hnn]; exact HV.out)
  have hn0 : (0 : Int) ≤ (n : Int) := by omega
  have hn1 : (n : Int) ≤ 1000 := by omega
  clear hg hl hr hn hnn HV
  go_enter Try.func9, Try.ntmps9
  go_wp2
  go_loopw [3, 4] (fun sv i wr => ∃ (k : Nat) (a2 : Option Addr) (c2 : Nat) (us : List Value) (ms : List (List V)), sv = .slice a2 k c2 ∧ i = .int .i64 (k : Int) ∧ k ≤ n ∧ Hid (us.length = k ∧ (k = 0 → a2 = none ∧ c2 = 0)) ∧ Hid (wr.ownsRow w.heap.size 35 1 sv k us) ∧ Hid (Rws wr us ms) ∧ Hid (ms.Perm (ls.take k) ∧ SortedL ms) ∧ Hid (Below w.heap.size w wr)) (fun _ i _ => n - (intOf i).toNat)
  case atStart => exact ⟨0, none, 0, [], [], rfl, rfl, by omega, Lib.hid ⟨rfl, fun _ => ⟨rfl, rfl⟩⟩, Lib.hid (World.ownsRow_nil _ _ _ _), Lib.hid (Rws.nil _), Lib.hid ⟨.refl _, List.Pairwise.nil⟩, Lib.hid (Below.refl _ _)⟩
  case round =>
    obtain ⟨k, a2, c2, us, ms, rfl, rfl, hk, HU, HO, HM, HS, HB⟩ := hrel
    obtain ⟨wo, rfl⟩ : ∃ wo : World, wo = wr := ⟨_, rfl⟩
    have hd0 : (0 : Int) ≤ (k : Int) := by omega
    by_cases h1 : k < n
    · have d1 : (k : Int) < (n : Int) := by omega
      obtain ⟨b, off, cap', ea, hcell⟩ := (HV2.out.later HB.out).pos (by omega)
      simp only [Value.slice.injEq] at ea
      obtain ⟨rfl, -, rfl⟩ := ea
      have hkv : k < vs.length := by rw [HN.out]; exact h1
      have g0 : wo.cell? ⟨b, off + k, none⟩ = some vs[k] := (hcell k (by omega)).trans (List.getElem?_eq_getElem hkv)
      clear hcell
      have hkl : k < ls.length := by rw [← HLL.out]; exact hkv
      have HXr := Lib.hid ((HR.out.2 k _ _ (List.getElem?_eq_getElem hkv) (List.getElem?_eq_getElem hkl)).later HB.out)
      have HXg := Lib.hid (HG.out _ (List.getElem_mem hkl))
      have hXl := HL.out _ (List.getElem_mem hkl)
      have HTK := Lib.hid (List.take_succ_eq_append_getElem hkl)
      have HMg : Hid (∀ m ∈ ms, Goods m ∧ m.length ≤ 1000000) := Lib.hid (fun m hm => by
        have h := List.mem_of_mem_take (HS.out.1.subset hm)
        exact ⟨HG.out m h, HL.out m h⟩)
      generalize vs[k] = U at *
      generalize ls[k] = X at *
      have lb := World.block_lt_of_cell? wo _ g0
      dsimp only at lb
      go_upto_block 2 with fail
      go_cut [5] from 6 to 29 (fun s5 wx => ∃ q : Nat, s5 = .int .i64 (q : Int) ∧ q ≤ k ∧ Hid ((q = 0 ∨ ∃ h : q - 1 < ms.length, beforeL X ms[q - 1] = false) ∧ ∀ j (h : j < ms.length), q ≤ j → beforeL X ms[j] = true) ∧ Hid (Below wo.heap.size wo wx))
      case first =>
        go_wp2_with fail
        go_loopw [5] (fun s5 wx => ∃ q : Nat, s5 = .int .i64 (q : Int) ∧ q ≤ k ∧ Hid (∀ j (h : j < ms.length), q ≤ j → beforeL X ms[j] = true) ∧ Hid (Below wo.heap.size wo wx)) (fun s5 _ => (intOf s5).toNat)
        case atStart => exact ⟨k, rfl, Nat.le_refl _, Lib.hid (fun j h hj => by have h2 := HM.out.1; rw [HU.out.1] at h2; omega), Lib.hid (Below.refl _ _)⟩
        case round =>
          obtain ⟨q, rfl, hq, HQ, HW⟩ := hrel
          have hq0 : (0 : Int) ≤ (q : Int) := by omega
          by_cases h2 : 0 < q
          · have d2 : (q : Int) > 0 := by omega
            have hkp : 0 < k := by omega
            have hul : us.length = k := HU.out.1
            have hml : ms.length = k := by rw [← HM.out.1]; exact hul
            have hqu : q - 1 < us.length := by omega
            have hqm : q - 1 < ms.length := by omega
            obtain ⟨g, rfl, hBg, hgl, hcell, hfz⟩ := owns_cellAt HO.out hkp
            have k0 : wo.cell? ⟨g, q - 1, none⟩ = some us[q - 1] := (hcell (q - 1) (by omega)).trans (List.getElem?_eq_getElem hqu)
            have HYr := Lib.hid (HM.out.2 (q - 1) _ _ (List.getElem?_eq_getElem hqu) (List.getElem?_eq_getElem hqm))
            have HYg := Lib.hid (HMg.out _ (List.getElem_mem hqm))
            obtain ⟨p, hp⟩ : ∃ p, beforeL X ms[q - 1] = p := ⟨_, rfl⟩
            have HPP := Lib.hid hp
            have HBF := Lib.hid (fun W' (hb : Below wo.heap.size wo W') => by have h := refbefore_any U us[q - 1] X ms[q - 1] HXg.out HYg.out.1 hXl HYg.out.2 W' (HXr.out.later hb) (HYr.out.later hb); rwa [hp] at h)
            have e1 : ((q : Int) - 1).toNat = q - 1 := by omega
            have W0 := Lib.hid (cell_later HW.out g0)
            have WY := Lib.hid (cell_later HW.out k0)
            have e2 : (0 : Int) ≤ (q : Int) - 1 := by omega
            have e3 : (q : Int) - 1 < (k : Int) := by omega
            have e5 : (1 : Int) ≤ (q : Int) := by omega
            have e4 : IntKind.i64.wrap ((q : Int) - 1) = (q : Int) - 1 := IntWalk.i64_in _ ⟨by omega, by omega⟩
            generalize us[q - 1] = Y at *
            clear hp hcell hfz hul hml hqu g0 k0 HXr HYr HYg
            go_wp2_with fail
            refine ag.region_ag (fun W1 => Below wr.heap.size wr W1) (fun _ _ _ _ => True)
              [.val (.int .i64 (q : Int)), .val (.bool true), .val (.bool true), .val (.slice (some ⟨b, off, none⟩) n cap), .val (.int .i64 (k : Int)), .val (.pointer (some ⟨b, off + k, none⟩)), .val (U), .val (.slice (some ⟨g, 0, none⟩) k c2), .val (.int .i64 (q : Int)), .val (.int .i64 ((q : Int) - 1)), .val (.pointer (some ⟨g, q - 1, none⟩)), .val (Y), .sat (fun v _ => v = .bool p) (fun _ w w' => Below w.heap.size w w'), .val (.bool p)]
              (by kernel_rfl) (by kernel_rfl) rfl (⟨rfl, rfl, rfl, Nat.le_refl _, fun _ _ => rfl⟩) ?hsti ?hki ?hwalki
            case hsti =>
              simp only [ag.Stab, ag.Row2, ag.Ok2, and_true]
              repeat' apply And.intro
              all_goals first
                | exact fun h => absurd rfl h
                | exact fun _ _ f v W W' hS hv _ ht => hv
                | trivial
            case hki =>
              simp only [ag.Keeps, and_true]
              exact fun f W1 W2 hS _ ht => hS.trans (ht.mono hS.size)
            case hwalki =>
              refine ag.walk_val (by rfl) (fun W1 hS hE => ?_) ?_
              rotate_left; simp only [Act.put, List.setIfInBounds_toArray, List.set_cons_zero, List.set_cons_succ]; rotate_left
              · clear hS hE
                unfold ag.does
                go_simp
                try exact ⟨rfl, rfl⟩
              refine ag.walk_val (by rfl) (fun W1 hS hE => ?_) ?_
              rotate_left; simp only [Act.put, List.setIfInBounds_toArray, List.set_cons_zero, List.set_cons_succ]; rotate_left
              · clear hS hE
                unfold ag.does
                go_simp
                try exact ⟨rfl, rfl⟩
              refine ag.walk_val (by rfl) (fun W1 hS hE => ?_) ?_
              rotate_left; simp only [Act.put, List.setIfInBounds_toArray, List.set_cons_zero, List.set_cons_succ]; rotate_left
              · clear hS hE
                unfold ag.does
                go_simp
                try exact ⟨rfl, rfl⟩
              refine ag.walk_val (by rfl) (fun W1 hS hE => ?_) ?_
              rotate_left; simp only [Act.put, List.setIfInBounds_toArray, List.set_cons_zero, List.set_cons_succ]; rotate_left
              · clear hS hE
                unfold ag.does
                go_simp
                try exact ⟨rfl, rfl⟩
              refine ag.walk_val (by rfl) (fun W1 hS hE => ?_) ?_
              rotate_left; simp only [Act.put, List.setIfInBounds_toArray, List.set_cons_zero, List.set_cons_succ]; rotate_left
              · clear hS hE
                unfold ag.does
                go_simp
                try exact ⟨rfl, rfl⟩
              refine ag.walk_val (by rfl) (fun W1 hS hE => ?_) ?_
              rotate_left; simp only [Act.put, List.setIfInBounds_toArray, List.set_cons_zero, List.set_cons_succ]; rotate_left
              · clear hS hE
                unfold ag.does
                go_simp
                try exact ⟨rfl, rfl⟩
              refine ag.walk_val (by rfl) (fun W1 hS hE => ?_) ?_
              rotate_left; simp only [Act.put, List.setIfInBounds_toArray, List.set_cons_zero, List.set_cons_succ]; rotate_left
              · have c0 := cell_later hS W0.out
                clear hS hE
                unfold ag.does
                go_simp
                try exact ⟨rfl, rfl⟩
              refine ag.walk_val (by rfl) (fun W1 hS hE => ?_) ?_
              rotate_left; simp only [Act.put, List.setIfInBounds_toArray, List.set_cons_zero, List.set_cons_succ]; rotate_left
              · clear hS hE
                unfold ag.does
                go_simp
                try exact ⟨rfl, rfl⟩
              refine ag.walk_val (by rfl) (fun W1 hS hE => ?_) ?_
              rotate_left; simp only [Act.put, List.setIfInBounds_toArray, List.set_cons_zero, List.set_cons_succ]; rotate_left
              · clear hS hE
                unfold ag.does
                go_simp
                try exact ⟨rfl, rfl⟩
              refine ag.walk_val (by rfl) (fun W1 hS hE => ?_) ?_
              rotate_left; simp only [Act.put, List.setIfInBounds_toArray, List.set_cons_zero, List.set_cons_succ]; rotate_left
              · clear hS hE
                unfold ag.does
                go_simp
                try exact ⟨rfl, rfl⟩
              refine ag.walk_val (by rfl) (fun W1 hS hE => ?_) ?_
              rotate_left; simp only [Act.put, List.setIfInBounds_toArray, List.set_cons_zero, List.set_cons_succ]; rotate_left
              · clear hS hE
                unfold ag.does
                go_simp
                try exact ⟨rfl, rfl⟩
              refine ag.walk_val (by rfl) (fun W1 hS hE => ?_) ?_
              rotate_left; simp only [Act.put, List.setIfInBounds_toArray, List.set_cons_zero, List.set_cons_succ]; rotate_left
              · have c0 := cell_later hS WY.out
                clear hS hE
                unfold ag.does
                go_simp
                try exact ⟨rfl, rfl⟩
              refine ag.walk_sat (by rfl) (fun W1 hS hE => ?_) (fun y1 => ?_)
              rotate_left; simp only [Act.put, List.setIfInBounds_toArray, List.set_cons_zero, List.set_cons_succ]; rotate_left
              · have hc := HBF.out W1 (HW.out.trans (hS.mono HW.out.size))
                clear hS hE
                unfold ag.does
                go_simp
                refine (hc).mono ?_
                rintro e W2 ⟨rfl, hb⟩
                exact ⟨_, rfl, rfl, hb, ag.News.none (fun _ _ => trivial) _ _⟩
              refine ag.walk_val (by rfl) (fun W1 hS hE => ?_) ?_
              rotate_left; simp only [Act.put, List.setIfInBounds_toArray, List.set_cons_zero, List.set_cons_succ]; rotate_left
              · have hy1 : y1 = .bool p := hE.get (by kernel_rfl)
                subst hy1
                clear hS hE
                unfold ag.does
                go_simp
                try exact ⟨rfl, rfl⟩
              refine ag.walk_nil (fun w7 hS hF' hP => ?_)
              clear hF' hP
              have HS := Lib.hid hS
              clear hS
              have HWB := Lib.hid (HW.out.trans (HS.out.mono HW.out.size))
              cases p
              · go_wp2_with fail
                go_meet
                exact ⟨q, rfl, hq, Lib.hid ⟨.inr ⟨hqm, HPP.out⟩, HQ.out⟩, HWB⟩
              · go_wp2_with fail
                go_roundw
                case rel => exact ⟨q - 1, by go_num, by omega, Lib.hid (fun j h hj => by
                  by_cases e : j = q - 1
                  · subst e; exact HPP.out
                  · exact HQ.out j h (by omega)), HWB⟩
                case measure => simp [intOf]; omega
          · have d2 : ¬ (q : Int) > 0 := by omega
            have hqz : q = 0 := by omega
            subst hqz
            go_wp2_with fail
            go_quiet (fail)
            go_wp2_with fail
            go_meet
            exact ⟨0, rfl, Nat.zero_le _, Lib.hid ⟨.inl rfl, HQ.out⟩, Lib.hid (below_drewN HW.out _)⟩
      case rest =>
        obtain ⟨q, rfl, hq, HQ, HBX⟩ := hcut
        have hq0 : (0 : Int) ≤ (q : Int) := by omega
        obtain ⟨aU, cU, hUe⟩ : ∃ (a : Option Addr) (c : Nat), U = .slice a X.length c := by
          obtain ⟨a, c, e, -⟩ := HXr.out
          exact ⟨a, c, e⟩
        subst hUe
        have hul := HU.out.1
        have HRO := Lib.hid ((Row.of_owns HO.out).later HBX.out)
        have W0 := Lib.hid (cell_later HBX.out g0)
        have HXB : w.heap.size ≤ wc.heap.size := Nat.le_trans HB.out.size HBX.out.size
        have HUc : Hid ((Value.slice aU X.length cU).oneCell' = true) := Lib.hid rfl
        have HUS : Hid (∀ u ∈ us, u.oneCell' = true) := Lib.hid HM.out.one
        have HRP := Lib.hid (Row.pre HRO.out hq)
        have hq0' : (q : Int) ≤ (k : Int) := by omega
        have hXl2 := Lib.hid hXl
        have H71 : Hid (0 + q ≤ maxLen) := Lib.hid (by unfold maxLen; omega)
        have H72 : Hid ((0 + q) * 24 ≤ 140737488355328) := Lib.hid (by omega)
        have H73 : Hid (q + 1 ≤ maxLen) := Lib.hid (by unfold maxLen; omega)
        have H74 : Hid ((q + 1) * 24 ≤ 140737488355328) := Lib.hid (by omega)
        have H75 : Hid (q + 1 + (k - q) ≤ maxLen) := Lib.hid (by unfold maxLen; omega)
        have H76 : Hid ((q + 1 + (k - q)) * 24 ≤ 140737488355328) := Lib.hid (by omega)
        have HTKU : Hid (∀ u ∈ us.take q, u.oneCell' = true) := Lib.hid (fun u hu => HUS.out u (List.mem_of_mem_take hu))
        have HDKU : Hid (∀ u ∈ us.drop q, u.oneCell' = true) := Lib.hid (fun u hu => HUS.out u (List.mem_of_mem_drop hu))
        by_cases hk0 : k = 0
        · obtain ⟨rfl, rfl⟩ := HU.out.2 hk0
          have HRD : Hid (Row wc (.slice none (k - q) 0) 1 (k - q) (us.drop q)) := Lib.hid ⟨none, 0, rfl, by simp [hul], .inl (by omega)⟩
          subst hk0
          obtain rfl : q = 0 := by omega
          have W0 := Lib.hid (show wc.cell? ⟨b, off, none⟩ = some (.slice aU X.length cU) by have h := W0.out; rwa [Nat.add_zero] at h)
          have H83 : Hid (0 + 0 + 1 ≤ maxLen) := Lib.hid (by unfold maxLen; omega)
          have H84 : Hid ((0 + 0 + 1) * 24 ≤ 140737488355328) := Lib.hid (by omega)
          have H85 : Hid (0 + 0 + 1 + (0 - 0) ≤ maxLen) := Lib.hid (by unfold maxLen; omega)
          have H86 : Hid ((0 + 0 + 1 + (0 - 0)) * 24 ≤ 140737488355328) := Lib.hid (by omega)
          clear hul hXl
          go_wp2_with fail
          refine ag.region_ag (fun W1 => Below wc.heap.size wc W1) (fun _ _ _ _ => True)
            [.sat (tFrm wc 35 0 []) (fun _ w w' => Below w.heap.size w w'), .val (.slice none 0 0), .val (.int .i64 0), .val (.slice none 0 0), .sat (tFrm wc 35 (0 + 0) ([] ++ (us.take 0))) (fun _ w w' => Below w.heap.size w w'), .val (.slice (some ⟨b, off, none⟩) n cap), .val (.int .i64 0), .val (.pointer (some ⟨b, off, none⟩)), .val (.slice aU X.length cU), .sat (tFrm wc 35 1 [(.slice aU X.length cU)]) (fun _ w w' => Below w.heap.size w w'), .sat (tFrm wc 35 (0 + 0 + 1) ([] ++ (us.take 0) ++ [(.slice aU X.length cU)])) (fun _ => tKp wc 35 (0 + 0)), .val (.slice none 0 0), .val (.int .i64 0), .val (.slice none 0 0), .sat (tFrm wc 35 (0 + 0 + 1 + (0 - 0)) ([] ++ (us.take 0) ++ [(.slice aU X.length cU)] ++ us.drop 0)) (fun _ => tKp wc 35 (0 + 0 + 1)), .cpy 14]
            (by kernel_rfl) (by kernel_rfl) rfl (⟨rfl, rfl, rfl, Nat.le_refl _, fun _ _ => rfl⟩) ?hst8a ?hk8a ?hwalk8a
          case hst8a =>
            simp only [ag.Stab, ag.Row2, ag.Ok2, and_true]
            repeat' apply And.intro
            all_goals first
              | exact fun h => absurd rfl h
              | exact fun _ _ f v W W' hS hv _ ht => hv.later ht
              | exact fun _ _ f v W W' hS hv _ ht => hv.kp ht (by omega)
              | exact fun _ h => absurd (h.symm.trans (show _ = true by kernel_rfl)) (by decide)
              | trivial
          case hk8a =>
            simp only [ag.Keeps, and_true]
            repeat' apply And.intro
            all_goals first
              | exact fun f W W' hS _ ht => hS.trans (ht.mono hS.size)
              | exact fun f W W' hS _ ht => ht.2.2 hS
          case hwalk8a =>
            refine ag.walk_sat (by rfl) (fun Wq hS hE => ?_) (fun z0 => ?_)
            rotate_left; simp only [Act.put, List.setIfInBounds_toArray, List.set_cons_zero, List.set_cons_succ]; rotate_left
            · have hz := hS.size
              clear hE
              unfold ag.does
              go_simp
              exact ⟨⟨⟨_, _, rfl, fun _ => rfl⟩, owns_of_flds (m := 0) (Flds.new Wq 35 []) rfl hz (by decide)⟩, (Below.refl _ _).alloc (Nat.le_refl _) _, ag.News.none (fun _ _ => trivial) _ _⟩
            refine ag.walk_val (by rfl) (fun Wq hS hE => ?_) ?_
            rotate_left; simp only [Act.put, List.setIfInBounds_toArray, List.set_cons_zero, List.set_cons_succ]; rotate_left
            · clear hS hE
              unfold ag.does
              go_simp
              try exact ⟨rfl, rfl⟩
            refine ag.walk_val (by rfl) (fun Wq hS hE => ?_) ?_
            rotate_left; simp only [Act.put, List.setIfInBounds_toArray, List.set_cons_zero, List.set_cons_succ]; rotate_left
            · clear hS hE
              unfold ag.does
              go_simp
              try exact ⟨rfl, rfl⟩
            refine ag.walk_val (by rfl) (fun Wq hS hE => ?_) ?_
            rotate_left; simp only [Act.put, List.setIfInBounds_toArray, List.set_cons_zero, List.set_cons_succ]; rotate_left
            · clear hS hE
              unfold ag.does
              go_simp
              try exact ⟨rfl, rfl⟩
            refine ag.walk_sat (by rfl) (fun Wq hS hE => ?_) (fun z4 => ?_)
            rotate_left; simp only [Act.put, List.setIfInBounds_toArray, List.set_cons_zero, List.set_cons_succ]; rotate_left
            · obtain ⟨⟨a3, c3, e3, hc3⟩, ho3⟩ : tFrm wc 35 0 [] z0 Wq := hE.get (by kernel_rfl)
              subst e3
              clear hE
              refine does_append (.tmp 30) (.tmp 33) 25 (by rfl) wc.heap.size 35 i0 (.slice none 0 0) 1 24 Try.underlying25 hi hz0 hz1 hz2 rfl (by decide) (.slice a3 (0) c3) (0) ([]) (by rfl) ho3
                (.slice none 0 0) (0) (us.take 0) (by rfl) (HRP.out.later hS) HTKU.out H71.out H72.out hS.size (fun v' W' hap => ?_)
              obtain ⟨q1, q2⟩ := tFrm.appended hap hc3 hS ho3
              exact ⟨q1, q2.2.1 rfl, ag.News.none (fun _ _ => trivial) _ _⟩
            refine ag.walk_val (by rfl) (fun Wq hS hE => ?_) ?_
            rotate_left; simp only [Act.put, List.setIfInBounds_toArray, List.set_cons_zero, List.set_cons_succ]; rotate_left
            · clear hS hE
              unfold ag.does
              go_simp
              try exact ⟨rfl, rfl⟩
            refine ag.walk_val (by rfl) (fun Wq hS hE => ?_) ?_
            rotate_left; simp only [Act.put, List.setIfInBounds_toArray, List.set_cons_zero, List.set_cons_succ]; rotate_left
            · clear hS hE
              unfold ag.does
              go_simp
              try exact ⟨rfl, rfl⟩
            refine ag.walk_val (by rfl) (fun Wq hS hE => ?_) ?_
            rotate_left; simp only [Act.put, List.setIfInBounds_toArray, List.set_cons_zero, List.set_cons_succ]; rotate_left
            · clear hS hE
              unfold ag.does
              go_simp
              try exact ⟨rfl, rfl⟩
            refine ag.walk_val (by rfl) (fun Wq hS hE => ?_) ?_
            rotate_left; simp only [Act.put, List.setIfInBounds_toArray, List.set_cons_zero, List.set_cons_succ]; rotate_left
            · have c0 := cell_later hS W0.out
              clear hS hE
              unfold ag.does
              go_simp
              try exact ⟨rfl, rfl⟩
            refine ag.walk_sat (by rfl) (fun Wq hS hE => ?_) (fun z9 => ?_)
            rotate_left; simp only [Act.put, List.setIfInBounds_toArray, List.set_cons_zero, List.set_cons_succ]; rotate_left
            · have hz := hS.size
              clear hE
              unfold ag.does
              go_simp
              exact ⟨⟨⟨_, _, rfl, (fun h => absurd h (by decide))⟩, owns_of_flds (m := 1) (Flds.new Wq 35 [(.slice aU X.length cU)]) rfl hz (by decide)⟩, (Below.refl _ _).alloc (Nat.le_refl _) _, ag.News.none (fun _ _ => trivial) _ _⟩
            refine ag.walk_sat (by rfl) (fun Wq hS hE => ?_) (fun z10 => ?_)
            rotate_left; simp only [Act.put, List.setIfInBounds_toArray, List.set_cons_zero, List.set_cons_succ]; rotate_left
            · obtain ⟨⟨a9, c9, e9, -⟩, ho9⟩ : tFrm wc 35 1 [(.slice aU X.length cU)] z9 Wq := hE.get (by kernel_rfl)
              obtain ⟨⟨a3, c3, e3, hc3⟩, ho3⟩ : tFrm wc 35 (0 + 0) ([] ++ (us.take 0)) z4 Wq := hE.tail.get (by kernel_rfl)
              subst e3 e9
              clear hE
              refine does_append (.tmp 34) (.tmp 39) 25 (by rfl) wc.heap.size 35 i0 (.slice none 0 0) 1 24 Try.underlying25 hi hz0 hz1 hz2 rfl (by decide) (.slice a3 (0 + 0) c3) (0 + 0) ([] ++ (us.take 0)) (by rfl) ho3
                (.slice a9 1 c9) (1) ([(.slice aU X.length cU)]) (by rfl) (Row.of_owns ho9) (fun u hu => by rw [List.mem_singleton.1 hu]; exact HUc.out) H83.out H84.out hS.size (fun v' W' hap => ?_)
              obtain ⟨q1, q2⟩ := tFrm.appended hap hc3 hS ho3
              exact ⟨q1, q2, ag.News.none (fun _ _ => trivial) _ _⟩
            refine ag.walk_val (by rfl) (fun Wq hS hE => ?_) ?_
            rotate_left; simp only [Act.put, List.setIfInBounds_toArray, List.set_cons_zero, List.set_cons_succ]; rotate_left
            · clear hS hE
              unfold ag.does
              go_simp
              try exact ⟨rfl, rfl⟩
            refine ag.walk_val (by rfl) (fun Wq hS hE => ?_) ?_
            rotate_left; simp only [Act.put, List.setIfInBounds_toArray, List.set_cons_zero, List.set_cons_succ]; rotate_left
            · clear hS hE
              unfold ag.does
              go_simp
              try exact ⟨rfl, rfl⟩
            refine ag.walk_val (by rfl) (fun Wq hS hE => ?_) ?_
            rotate_left; simp only [Act.put, List.setIfInBounds_toArray, List.set_cons_zero, List.set_cons_succ]; rotate_left
            · clear hS hE
              unfold ag.does
              go_simp
              try exact ⟨rfl, rfl⟩
            refine ag.walk_sat (by rfl) (fun Wq hS hE => ?_) (fun z14 => ?_)
            rotate_left; simp only [Act.put, List.setIfInBounds_toArray, List.set_cons_zero, List.set_cons_succ]; rotate_left
            · obtain ⟨⟨a3, c3, e3, hc3⟩, ho3⟩ : tFrm wc 35 (0 + 0 + 1) ([] ++ (us.take 0) ++ [(.slice aU X.length cU)]) z10 Wq := hE.get (by kernel_rfl)
              subst e3
              clear hE
              refine does_append (.tmp 40) (.tmp 43) 25 (by rfl) wc.heap.size 35 i0 (.slice none 0 0) 1 24 Try.underlying25 hi hz0 hz1 hz2 rfl (by decide) (.slice a3 (0 + 0 + 1) c3) (0 + 0 + 1) ([] ++ (us.take 0) ++ [(.slice aU X.length cU)]) (by rfl) ho3
                (.slice none 0 0) (0 - 0) (us.drop 0) (by rfl) (HRD.out.later hS) HDKU.out H85.out H86.out hS.size (fun v' W' hap => ?_)
              obtain ⟨q1, q2⟩ := tFrm.appended hap hc3 hS ho3
              exact ⟨q1, q2, ag.News.none (fun _ _ => trivial) _ _⟩
            refine ag.walk_cpy (by kernel_rfl) (by rfl) (by rfl) (fun Wq hS hE => ?_) ?_
            rotate_left; simp only [Act.put, List.setIfInBounds_toArray, List.set_cons_zero, List.set_cons_succ]; rotate_left
            · clear hS hE
              unfold ag.does
              go_simp
              rfl
            simp only [ag.lookX, Nat.reduceAdd, Nat.reduceEqDiff, if_false, if_true]
            refine ag.walk_nil (fun W2 hS hF' hP => ?_)
            obtain ⟨-, f14, -⟩ := hF'
            obtain ⟨⟨a9, c9, e9, -⟩, ho9⟩ := f14
            subst e9
            have HO9 := Lib.hid ho9; have HS9 := Lib.hid hS
            clear hS hP ho9
            go_wp2_with fail
            have hlen : 0 + 0 + 1 + (0 - 0) = 0 + 1 := by omega
            rw [hlen] at HO9
            have HBW := Lib.hid (HB.out.trans ((HBX.out.trans (HS9.out.mono HBX.out.size)).mono HB.out.size))
            have hbwo := Lib.hid (HBX.out.trans (HS9.out.mono HBX.out.size))
            rw [hlen]
            go_roundw
            case rel =>
              obtain ⟨hpm, hsm⟩ := HS.out
              have hml : ms.length = 0 := by rw [← HM.out.1]; exact HU.out.1
              obtain ⟨hs1, hs2⟩ := sorted_insert (ls := ms) (x := X) (k := 0) (fun m hm => (HMg.out m hm).1) HXg.out hsm (by omega) (.inl rfl) HQ.out.2
              refine ⟨0 + 1, a9, c9, us.take 0 ++ [(.slice aU X.length cU)] ++ us.drop 0, ms.take 0 ++ [X] ++ ms.drop 0, rfl, by go_num, by omega, Lib.hid ⟨?_, fun h => by omega⟩, Lib.hid ?_, Lib.hid ?_, Lib.hid ⟨?_, hs1⟩, HBW⟩
              · have hu1 := HU.out.1
                rw [List.length_append, List.length_append, List.length_take, List.length_drop, List.length_singleton]; omega
              · have h := owns_base HO9.out (fun g hg => Nat.le_trans HXB (HO9.out.lt g hg).1)
                simpa using h
              · exact ((((HM.out.take 0).snoc HXr.out).append (HM.out.drop 0))).later hbwo.out
              · refine hs2.trans ?_
                rw [HTK.out]
                exact hpm.append_right _
            case measure => simp [intOf]; omega
        · obtain ⟨g, rfl, hBg, hgl, hcell, hfz⟩ := owns_cellAt HO.out (by omega)
          have hkc : k ≤ c2 := by
            rcases HO.out.2 with ⟨e, h⟩ | ⟨g', cap', cur, e, _, _, h, _⟩
            · exact absurd h hk0
            · simp only [Value.slice.injEq] at e
              rw [e.2.2]; exact h
          have e1 : (q : Int) ≤ (c2 : Int) := by omega
          have HRD : Hid (Row wc (.slice (if c2 = q then some ⟨g, 0, none⟩ else some ⟨g, q, none⟩) (k - q) (c2 - q)) 1 (k - q) (us.drop q)) := Lib.hid ⟨_, _, rfl, by simp [hul], by
            by_cases hz : k - q = 0
            · exact .inl hz
            · refine .inr ⟨g, q, by rw [if_neg (by omega)], fun j hj => ?_⟩
              rw [cell_later HBX.out (v := us[q + j]'(by omega)) ((hcell (q + j) (by omega)).trans (List.getElem?_eq_getElem (by omega))), List.getElem?_drop, List.getElem?_eq_getElem]⟩
          have H83 : Hid (0 + q + 1 ≤ maxLen) := Lib.hid (by unfold maxLen; omega)
          have H84 : Hid ((0 + q + 1) * 24 ≤ 140737488355328) := Lib.hid (by omega)
          have H85 : Hid (0 + q + 1 + (k - q) ≤ maxLen) := Lib.hid (by unfold maxLen; omega)
          have H86 : Hid ((0 + q + 1 + (k - q)) * 24 ≤ 140737488355328) := Lib.hid (by omega)
          clear hul hXl hcell hfz hkc
          go_wp2_with fail
          refine ag.region_ag (fun W1 => Below wc.heap.size wc W1) (fun _ _ _ _ => True)
            [.sat (tFrm wc 35 0 []) (fun _ w w' => Below w.heap.size w w'), .val (.slice (some ⟨g, 0, none⟩) k c2), .val (.int .i64 (q : Int)), .val (.slice (some ⟨g, 0, none⟩) q c2), .sat (tFrm wc 35 (0 + q) ([] ++ (us.take q))) (fun _ w w' => Below w.heap.size w w'), .val (.slice (some ⟨b, off, none⟩) n cap), .val (.int .i64 (k : Int)), .val (.pointer (some ⟨b, off + k, none⟩)), .val (.slice aU X.length cU), .sat (tFrm wc 35 1 [(.slice aU X.length cU)]) (fun _ w w' => Below w.heap.size w w'), .sat (tFrm wc 35 (0 + q + 1) ([] ++ (us.take q) ++ [(.slice aU X.length cU)])) (fun _ => tKp wc 35 (0 + q)), .val (.slice (some ⟨g, 0, none⟩) k c2), .val (.int .i64 (q : Int)), .val (.slice (if c2 = q then some ⟨g, 0, none⟩ else some ⟨g, q, none⟩) (k - q) (c2 - q)), .sat (tFrm wc 35 (0 + q + 1 + (k - q)) ([] ++ (us.take q) ++ [(.slice aU X.length cU)] ++ us.drop q)) (fun _ => tKp wc 35 (0 + q + 1)), .cpy 14]
            (by kernel_rfl) (by kernel_rfl) rfl (⟨rfl, rfl, rfl, Nat.le_refl _, fun _ _ => rfl⟩) ?hst8b ?hk8b ?hwalk8b
          case hst8b =>
            simp only [ag.Stab, ag.Row2, ag.Ok2, and_true]
            repeat' apply And.intro
            all_goals first
              | exact fun h => absurd rfl h
              | exact fun _ _ f v W W' hS hv _ ht => hv.later ht
              | exact fun _ _ f v W W' hS hv _ ht => hv.kp ht (by omega)
              | exact fun _ h => absurd (h.symm.trans (show _ = true by kernel_rfl)) (by decide)
              | trivial
          case hk8b =>
            simp only [ag.Keeps, and_true]
            repeat' apply And.intro
            all_goals first
              | exact fun f W W' hS _ ht => hS.trans (ht.mono hS.size)
              | exact fun f W W' hS _ ht => ht.2.2 hS
          case hwalk8b =>
            refine ag.walk_sat (by rfl) (fun Wq hS hE => ?_) (fun z0 => ?_)
            rotate_left; simp only [Act.put, List.setIfInBounds_toArray, List.set_cons_zero, List.set_cons_succ]; rotate_left
            · have hz := hS.size
              clear hE
              unfold ag.does
              go_simp
              exact ⟨⟨⟨_, _, rfl, fun _ => rfl⟩, owns_of_flds (m := 0) (Flds.new Wq 35 []) rfl hz (by decide)⟩, (Below.refl _ _).alloc (Nat.le_refl _) _, ag.News.none (fun _ _ => trivial) _ _⟩
            refine ag.walk_val (by rfl) (fun Wq hS hE => ?_) ?_
            rotate_left; simp only [Act.put, List.setIfInBounds_toArray, List.set_cons_zero, List.set_cons_succ]; rotate_left
            · clear hS hE
              unfold ag.does
              go_simp
              try exact ⟨rfl, rfl⟩
            refine ag.walk_val (by rfl) (fun Wq hS hE => ?_) ?_
            rotate_left; simp only [Act.put, List.setIfInBounds_toArray, List.set_cons_zero, List.set_cons_succ]; rotate_left
            · clear hS hE
              unfold ag.does
              go_simp
              try exact ⟨rfl, rfl⟩
            refine ag.walk_val (by rfl) (fun Wq hS hE => ?_) ?_
            rotate_left; simp only [Act.put, List.setIfInBounds_toArray, List.set_cons_zero, List.set_cons_succ]; rotate_left
            · clear hS hE
              unfold ag.does
              go_simp
              try exact ⟨rfl, rfl⟩
            refine ag.walk_sat (by rfl) (fun Wq hS hE => ?_) (fun z4 => ?_)
            rotate_left; simp only [Act.put, List.setIfInBounds_toArray, List.set_cons_zero, List.set_cons_succ]; rotate_left
            · obtain ⟨⟨a3, c3, e3, hc3⟩, ho3⟩ : tFrm wc 35 0 [] z0 Wq := hE.get (by kernel_rfl)
              subst e3
              clear hE
              refine does_append (.tmp 30) (.tmp 33) 25 (by rfl) wc.heap.size 35 i0 (.slice none 0 0) 1 24 Try.underlying25 hi hz0 hz1 hz2 rfl (by decide) (.slice a3 (0) c3) (0) ([]) (by rfl) ho3
                (.slice (some ⟨g, 0, none⟩) q c2) (q) (us.take q) (by rfl) (HRP.out.later hS) HTKU.out H71.out H72.out hS.size (fun v' W' hap => ?_)
              obtain ⟨q1, q2⟩ := tFrm.appended hap hc3 hS ho3
              exact ⟨q1, q2.2.1 rfl, ag.News.none (fun _ _ => trivial) _ _⟩
            refine ag.walk_val (by rfl) (fun Wq hS hE => ?_) ?_
            rotate_left; simp only [Act.put, List.setIfInBounds_toArray, List.set_cons_zero, List.set_cons_succ]; rotate_left
            · clear hS hE
              unfold ag.does
              go_simp
              try exact ⟨rfl, rfl⟩
            refine ag.walk_val (by rfl) (fun Wq hS hE => ?_) ?_
            rotate_left; simp only [Act.put, List.setIfInBounds_toArray, List.set_cons_zero, List.set_cons_succ]; rotate_left
            · clear hS hE
              unfold ag.does
              go_simp
              try exact ⟨rfl, rfl⟩
            refine ag.walk_val (by rfl) (fun Wq hS hE => ?_) ?_
            rotate_left; simp only [Act.put, List.setIfInBounds_toArray, List.set_cons_zero, List.set_cons_succ]; rotate_left
            · clear hS hE
              unfold ag.does
              go_simp
              try exact ⟨rfl, rfl⟩
            refine ag.walk_val (by rfl) (fun Wq hS hE => ?_) ?_
            rotate_left; simp only [Act.put, List.setIfInBounds_toArray, List.set_cons_zero, List.set_cons_succ]; rotate_left
            · have c0 := cell_later hS W0.out
              clear hS hE
              unfold ag.does
              go_simp
              try exact ⟨rfl, rfl⟩
            refine ag.walk_sat (by rfl) (fun Wq hS hE => ?_) (fun z9 => ?_)
            rotate_left; simp only [Act.put, List.setIfInBounds_toArray, List.set_cons_zero, List.set_cons_succ]; rotate_left
            · have hz := hS.size
              clear hE
              unfold ag.does
              go_simp
              exact ⟨⟨⟨_, _, rfl, (fun h => absurd h (by decide))⟩, owns_of_flds (m := 1) (Flds.new Wq 35 [(.slice aU X.length cU)]) rfl hz (by decide)⟩, (Below.refl _ _).alloc (Nat.le_refl _) _, ag.News.none (fun _ _ => trivial) _ _⟩
            refine ag.walk_sat (by rfl) (fun Wq hS hE => ?_) (fun z10 => ?_)
            rotate_left; simp only [Act.put, List.setIfInBounds_toArray, List.set_cons_zero, List.set_cons_succ]; rotate_left
            · obtain ⟨⟨a9, c9, e9, -⟩, ho9⟩ : tFrm wc 35 1 [(.slice aU X.length cU)] z9 Wq := hE.get (by kernel_rfl)
              obtain ⟨⟨a3, c3, e3, hc3⟩, ho3⟩ : tFrm wc 35 (0 + q) ([] ++ (us.take q)) z4 Wq := hE.tail.get (by kernel_rfl)
              subst e3 e9
              clear hE
              refine does_append (.tmp 34) (.tmp 39) 25 (by rfl) wc.heap.size 35 i0 (.slice none 0 0) 1 24 Try.underlying25 hi hz0 hz1 hz2 rfl (by decide) (.slice a3 (0 + q) c3) (0 + q) ([] ++ (us.take q)) (by rfl) ho3
                (.slice a9 1 c9) (1) ([(.slice aU X.length cU)]) (by rfl) (Row.of_owns ho9) (fun u hu => by rw [List.mem_singleton.1 hu]; exact HUc.out) H83.out H84.out hS.size (fun v' W' hap => ?_)
              obtain ⟨q1, q2⟩ := tFrm.appended hap hc3 hS ho3
              exact ⟨q1, q2, ag.News.none (fun _ _ => trivial) _ _⟩
            refine ag.walk_val (by rfl) (fun Wq hS hE => ?_) ?_
            rotate_left; simp only [Act.put, List.setIfInBounds_toArray, List.set_cons_zero, List.set_cons_succ]; rotate_left
            · clear hS hE
              unfold ag.does
              go_simp
              try exact ⟨rfl, rfl⟩
            refine ag.walk_val (by rfl) (fun Wq hS hE => ?_) ?_
            rotate_left; simp only [Act.put, List.setIfInBounds_toArray, List.set_cons_zero, List.set_cons_succ]; rotate_left
            · clear hS hE
              unfold ag.does
              go_simp
              try exact ⟨rfl, rfl⟩
            refine ag.walk_val (by rfl) (fun Wq hS hE => ?_) ?_
            rotate_left; simp only [Act.put, List.setIfInBounds_toArray, List.set_cons_zero, List.set_cons_succ]; rotate_left
            · clear hS hE
              unfold ag.does
              go_simp
              try exact ⟨rfl, rfl⟩
            refine ag.walk_sat (by rfl) (fun Wq hS hE => ?_) (fun z14 => ?_)
            rotate_left; simp only [Act.put, List.setIfInBounds_toArray, List.set_cons_zero, List.set_cons_succ]; rotate_left
            · obtain ⟨⟨a3, c3, e3, hc3⟩, ho3⟩ : tFrm wc 35 (0 + q + 1) ([] ++ (us.take q) ++ [(.slice aU X.length cU)]) z10 Wq := hE.get (by kernel_rfl)
              subst e3
              clear hE
              refine does_append (.tmp 40) (.tmp 43) 25 (by rfl) wc.heap.size 35 i0 (.slice none 0 0) 1 24 Try.underlying25 hi hz0 hz1 hz2 rfl (by decide) (.slice a3 (0 + q + 1) c3) (0 + q + 1) ([] ++ (us.take q) ++ [(.slice aU X.length cU)]) (by rfl) ho3
                (.slice (if c2 = q then some ⟨g, 0, none⟩ else some ⟨g, q, none⟩) (k - q) (c2 - q)) (k - q) (us.drop q) (by rfl) (HRD.out.later hS) HDKU.out H85.out H86.out hS.size (fun v' W' hap => ?_)
              obtain ⟨q1, q2⟩ := tFrm.appended hap hc3 hS ho3
              exact ⟨q1, q2, ag.News.none (fun _ _ => trivial) _ _⟩
            refine ag.walk_cpy (by kernel_rfl) (by rfl) (by rfl) (fun Wq hS hE => ?_) ?_
            rotate_left; simp only [Act.put, List.setIfInBounds_toArray, List.set_cons_zero, List.set_cons_succ]; rotate_left
            · clear hS hE
              unfold ag.does
              go_simp
              rfl
            simp only [ag.lookX, Nat.reduceAdd, Nat.reduceEqDiff, if_false, if_true]
            refine ag.walk_nil (fun W2 hS hF' hP => ?_)
            obtain ⟨-, f14, -⟩ := hF'
            obtain ⟨⟨a9, c9, e9, -⟩, ho9⟩ := f14
            subst e9
            have HO9 := Lib.hid ho9; have HS9 := Lib.hid hS
            clear hS hP ho9
            go_wp2_with fail
            have hlen : 0 + q + 1 + (k - q) = k + 1 := by omega
            rw [hlen] at HO9
            have HBW := Lib.hid (HB.out.trans ((HBX.out.trans (HS9.out.mono HBX.out.size)).mono HB.out.size))
            have hbwo := Lib.hid (HBX.out.trans (HS9.out.mono HBX.out.size))
            rw [hlen]
            go_roundw
            case rel =>
              obtain ⟨hpm, hsm⟩ := HS.out
              have hml : ms.length = k := by rw [← HM.out.1]; exact HU.out.1
              obtain ⟨hs1, hs2⟩ := sorted_insert (ls := ms) (x := X) (k := q) (fun m hm => (HMg.out m hm).1) HXg.out hsm (by omega) HQ.out.1 HQ.out.2
              refine ⟨k + 1, a9, c9, us.take q ++ [(.slice aU X.length cU)] ++ us.drop q, ms.take q ++ [X] ++ ms.drop q, rfl, by go_num, by omega, Lib.hid ⟨?_, fun h => by omega⟩, Lib.hid ?_, Lib.hid ?_, Lib.hid ⟨?_, hs1⟩, HBW⟩
              · have hu1 := HU.out.1
                rw [List.length_append, List.length_append, List.length_take, List.length_drop, List.length_singleton]; omega
              · have h := owns_base HO9.out (fun g hg => Nat.le_trans HXB (HO9.out.lt g hg).1)
                simpa using h
              · exact ((((HM.out.take q).snoc HXr.out).append (HM.out.drop q))).later hbwo.out
              · refine hs2.trans ?_
                rw [HTK.out]
                exact hpm.append_right _
            case measure => simp [intOf]; omega
    · have d1 : ¬ (k : Int) < (n : Int) := by omega
      have hk2 : k = n := by omega
      subst hk2
      go_wp2_with fail
      go_ret
      obtain ⟨hp, hs⟩ := HS.out
      rw [List.take_of_length_le (by rw [← HLL.out, HN.out]; exact Nat.le_refl _)] at hp
      exact ⟨a2, c2, us, ms, rfl, HU.out.1, Row.of_owns HO.out, HM.out, hp, hs, HB.out⟩
end Go.Proofs.Ytpkkhbmlclicfaa.val
