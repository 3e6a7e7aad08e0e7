/- A store of cells: Watch and Unwatch. -/
import Derived.Test.YtfaoeajaahnooaaCellC
namespace Go.Proofs.Ytfaoeajaahnooaa.cel
set_option linter.unusedVariables false
open Go.RowKit Go.WideShapes Go.MapKept
attribute [local go_sem] fieldT
theorem eqN (w : World) : (binOp .eql M3 (.map none) (.map none)).run Try.prog w = .ok (.bool true) w := by kernel_rfl
theorem eqS (b : Nat) (w : World) : (binOp .eql M3 (.map (some b)) (.map none)).run Try.prog w = .ok (.bool false) w := by kernel_rfl
attribute [local go_sem] eqN eqS Go.RowKit.run_makeMap
section
variable {own : Nat → Prop} {bs m : Nat} {S : CS} {w : World} {bt bw : Nat} {Dt Dw : Dat} {bk : ByteArray → Option Nat}
/-- who watches, and how many, behind a Watch or an Unwatch -/
noncomputable def CS.watched (S : CS) (k : ByteArray) (l : List Int) (n : Int) : CS := { S with wh := upd S.wh k l, n := n }
theorem Cel.lastCell (h : Cel own bs m S w bt bw Dt Dw bk) : bs < w.heap.size ∧ w.cell? ⟨bs, 2, none⟩ = some (.int .i64 S.n) ∧ w.frozen? ⟨bs, 2, none⟩ = false := ⟨h.fl.lt, h.fl.cell 2, h.fl.frozen 2⟩
theorem Cel.midCell (h : Cel own bs m S w bt bw Dt Dw bk) : bs < w.heap.size ∧ w.cell? ⟨bs, 1, none⟩ = some (.map (some bw)) := ⟨h.fl.lt, h.fl.cell 1⟩
theorem Cel.pathB (h : Cel own bs m S w bt bw Dt Dw bk) (k : ByteArray) (hk : k.size ≤ maxLen) {b : Nat} (hb : bk k = some b) (i : Int) (hi : -9223372036854775808 ≤ i ∧ i ≤ 9223372036854775807) (hm : m < maxLen) (w1 : World) (hb1 : Below w.heap.size w w1) :
    ∃ w2, (bs < w1.heap.size ∧ w1.cell? ⟨bs, 1, none⟩ = some (.map (some bw)) ∧ (Instr.lookup M2 (.map (some bw)) (.string k) false).run Try.prog w1 = .ok (.map (some b)) w1 ∧ (Instr.mapUpdate M3 (.map (some b)) (.int .i64 i) (.agg #[])).run Try.prog w1 = .ok () w2) ∧ (bs < w2.heap.size ∧ w2.cell? ⟨bs, 2, none⟩ = some (.int .i64 S.n) ∧ w2.frozen? ⟨bs, 2, none⟩ = false) ∧
      Hid (Cel own bs (m + 1) (S.watched k (insI (S.wh k) i) (S.n + 1)) (w2.setCell ⟨bs, 2, none⟩ (.int .i64 (S.n + 1))) bt bw Dt Dw bk ∧ Only own w (w2.setCell ⟨bs, 2, none⟩ (.int .i64 (S.n + 1)))) := by
  have h1 := h.later hb1
  obtain ⟨w2, e2, h2, o2⟩ := h1.watch k hk hb i hi hm
  obtain ⟨h3, o3⟩ := h2.count (S.n + 1)
  have hl := h1.set k hk
  rw [hb] at hl
  exact ⟨w2, ⟨h1.midCell.1, h1.midCell.2, hl, e2⟩, h2.lastCell, Lib.hid ⟨h3, ((Only.of_below hb1).trans o2 (fun _ _ ho => ho)).trans o3 (fun _ _ ho => ho)⟩⟩
theorem Cel.pathA (h : Cel own bs m S w bt bw Dt Dw bk) (k : ByteArray) (hk : k.size ≤ maxLen) (hb : bk k = none) (i : Int) (hi : -9223372036854775808 ≤ i ∧ i ≤ 9223372036854775807) (hm : m + 1 < maxLen) (w1 : World) (hb1 : Below w.heap.size w w1) :
    ∃ w2 w3, (bs < w1.heap.size ∧ w1.cell? ⟨bs, 1, none⟩ = some (.map (some bw)) ∧ (Instr.lookup M2 (.map (some bw)) (.string k) false).run Try.prog w1 = .ok (.map none) w1 ∧ (Instr.mapUpdate M2 (.map (some bw)) (.string k) (.map (some w1.heap.size))).run Try.prog (w1.alloc (.map #[] 0)) = .ok () w2) ∧
      (bs < w2.heap.size ∧ w2.cell? ⟨bs, 1, none⟩ = some (.map (some bw)) ∧ (Instr.lookup M2 (.map (some bw)) (.string k) false).run Try.prog w2 = .ok (.map (some w1.heap.size)) w2 ∧ (Instr.mapUpdate M3 (.map (some w1.heap.size)) (.int .i64 i) (.agg #[])).run Try.prog w2 = .ok () w3) ∧ (bs < w3.heap.size ∧ w3.cell? ⟨bs, 2, none⟩ = some (.int .i64 S.n) ∧ w3.frozen? ⟨bs, 2, none⟩ = false) ∧
      Hid (Cel (ownNew own w (w3.setCell ⟨bs, 2, none⟩ (.int .i64 (S.n + 1)))) bs (m + 2) (S.watched k (insI (S.wh k) i) (S.n + 1)) (w3.setCell ⟨bs, 2, none⟩ (.int .i64 (S.n + 1))) bt bw Dt (Dw.put (nm k) (wsD (some w1.heap.size))) (upd bk k (some w1.heap.size)) ∧ Only own w (w3.setCell ⟨bs, 2, none⟩ (.int .i64 (S.n + 1)))) := by
  have h1 := h.later hb1
  obtain ⟨w2, e2, h2, o2⟩ := h1.lay k hk hb (by omega)
  obtain ⟨w3, e3, h3, o3⟩ := h2.watch k hk (upd_same _ _ _) i hi hm
  obtain ⟨h4, o4⟩ := h3.count (S.n + 1)
  have hl := h1.set k hk
  rw [hb] at hl
  have hl2 := h2.set k hk
  rw [upd_same] at hl2
  have hz := o4.size
  have hz3 := o3.size
  have hz1 := hb1.size
  have hnew : ∀ j, j < w1.heap.size → ownNew own w1 w2 j → own j := fun j hj ho => ho.elim id fun h => by omega
  refine ⟨w2, w3, ⟨h1.midCell.1, h1.midCell.2, hl, e2⟩, ⟨h2.midCell.1, h2.midCell.2, hl2, e3⟩, h3.lastCell, Lib.hid ⟨h4.grow fun j ho => ho.imp id fun h => ⟨by omega, by omega⟩, (Only.of_below hb1).trans ((o2.trans o3 hnew).trans o4 hnew) (fun _ _ ho => ho)⟩⟩
set_option maxRecDepth 100000 in
set_option maxHeartbeats 400000 in
theorem watch_any (h : Cel own bs m S w bt bw Dt Dw bk) (hm : m < 1000000) (k : ByteArray) (hk : k.size ≤ maxLen) (i : Int) (hi : -9223372036854775808 ≤ i ∧ i ≤ 9223372036854775807) (hn0 : 0 ≤ S.n) (hn1 : S.n ≤ 1000000) (S' : CS) (hS : S' = @ite _ (i ∈ S.wh k) (Classical.propDecidable _) S (S.watched k (insI (S.wh k) i) (S.n + 1))) :
    Calls Try.prog 8 #[.pointer (some ⟨bs, 0, none⟩), .string k, .int .i64 i] w fun e w' => e = .returned (.bool (!decide (i ∈ S.wh k))) ∧ ∃ Dw' bk', Cel (ownNew own w w') bs (m + 2) S' w' bt bw Dt Dw' bk' ∧ Only own w w' := by
  have HW := Lib.hid (watched1_any h k hk i hi)
  have l0 := h.fl.lt
  by_cases hin : i ∈ S.wh k
  · rw [if_pos hin] at hS
    rw [decide_eq_true hin] at HW ⊢
    have HF : Hid (∀ w1, Below w.heap.size w w1 → Cel (ownNew own w w1) bs (m + 2) S' w1 bt bw Dt Dw bk) := Lib.hid fun w1 hb => hS ▸ ((h.later hb).mono (by omega)).grow (fun j ho => .inl ho)
    clear h hS
    go_enter Try.func8, Try.ntmps8
    go_wp2_with (go_at_call 18; refine HW.out.mono ?_; rintro e w1 ⟨rfl, hb⟩)
    go_ret
    exact ⟨rfl, _, _, HF.out w1 hb, Only.of_below hb⟩
  · rw [if_neg hin] at hS
    rw [decide_eq_false hin] at HW ⊢
    cases hb : bk k with
    | none =>
      have HF := Lib.hid (h.pathA k hk hb i hi (by unfold maxLen; omega))
      obtain ⟨n, hn⟩ : ∃ n, S.n = n := ⟨_, rfl⟩
      rw [hn] at HF hn0 hn1 hS
      clear h hn
      go_enter Try.func8, Try.ntmps8
      go_wp2_with (go_at_call 18; refine HW.out.mono ?_; rintro e w1 ⟨rfl, hb⟩; obtain ⟨w2, w3, ⟨a1, a2, a3, a4⟩, ⟨b1, b2, b3, b4⟩, ⟨c1, c2, c3⟩, HQ⟩ := HF.out w1 hb)
      go_ret
      exact ⟨rfl, _, _, hS ▸ HQ.out.1, HQ.out.2⟩
    | some b =>
      have HF := Lib.hid (h.pathB k hk hb i hi (by unfold maxLen; omega))
      obtain ⟨n, hn⟩ : ∃ n, S.n = n := ⟨_, rfl⟩
      rw [hn] at HF hn0 hn1 hS
      clear h hn
      go_enter Try.func8, Try.ntmps8
      go_wp2_with (go_at_call 18; refine HW.out.mono ?_; rintro e w1 ⟨rfl, hb⟩; obtain ⟨w2, ⟨a1, a2, a3, a4⟩, ⟨c1, c2, c3⟩, HQ⟩ := HF.out w1 hb)
      go_ret
      exact ⟨rfl, _, _, hS ▸ ((HQ.out.1.mono (Nat.le_succ _)).grow (fun j ho => Or.inl ho)), HQ.out.2⟩
theorem Cel.lenSet (h : Cel own bs m S w bt bw Dt Dw bk) (k : ByteArray) (hk : k.size ≤ maxLen) {b : Nat} (hb : bk k = some b) (ty : TypeId) : (Builtin.len_ #[M3] ty #[.map (some b)]).run Try.prog w = .ok (.int .i64 ((S.wh k).length : Int)) w := by
  obtain ⟨-, -, -, D, h1, h2, h3⟩ := h.sets k b hk hb
  rw [h1.len Try.underlying49 ty, SetAt.len h1 h2 h3]
theorem Cel.pathC (h : Cel own bs m S w bt bw Dt Dw bk) (k : ByteArray) (hk : k.size ≤ maxLen) {b : Nat} (hb : bk k = some b) (i : Int) (hi : -9223372036854775808 ≤ i ∧ i ≤ 9223372036854775807) (w1 : World) (hb1 : Below w.heap.size w w1) :
    ∃ w2, (bs < w1.heap.size ∧ w1.cell? ⟨bs, 1, none⟩ = some (.map (some bw)) ∧ (Instr.lookup M2 (.map (some bw)) (.string k) false).run Try.prog w1 = .ok (.map (some b)) w1 ∧ (Builtin.delete_ #[M3, TI] 0 #[.map (some b), .int .i64 i]).run Try.prog w1 = .ok (.tuple #[]) w2) ∧
      (bs < w2.heap.size ∧ w2.cell? ⟨bs, 1, none⟩ = some (.map (some bw)) ∧ (Instr.lookup M2 (.map (some bw)) (.string k) false).run Try.prog w2 = .ok (.map (some b)) w2 ∧ (Builtin.len_ #[M3] TI #[.map (some b)]).run Try.prog w2 = .ok (.int .i64 ((delI (S.wh k) i).length : Int)) w2) ∧
      ((delI (S.wh k) i = [] → ∃ w3, (Builtin.delete_ #[M2, TK] 0 #[.map (some bw), .string k]).run Try.prog w2 = .ok (.tuple #[]) w3 ∧ bs < w3.heap.size ∧ w3.cell? ⟨bs, 2, none⟩ = some (.int .i64 S.n) ∧ w3.frozen? ⟨bs, 2, none⟩ = false ∧
        Hid (∃ Dw' bk', Cel own bs m (S.watched k (delI (S.wh k) i) (S.n - 1)) (w3.setCell ⟨bs, 2, none⟩ (.int .i64 (S.n - 1))) bt bw Dt Dw' bk' ∧ Only own w (w3.setCell ⟨bs, 2, none⟩ (.int .i64 (S.n - 1))))) ∧
      (delI (S.wh k) i ≠ [] → w2.cell? ⟨bs, 2, none⟩ = some (.int .i64 S.n) ∧ w2.frozen? ⟨bs, 2, none⟩ = false ∧
        Hid (∃ Dw' bk', Cel own bs m (S.watched k (delI (S.wh k) i) (S.n - 1)) (w2.setCell ⟨bs, 2, none⟩ (.int .i64 (S.n - 1))) bt bw Dt Dw' bk' ∧ Only own w (w2.setCell ⟨bs, 2, none⟩ (.int .i64 (S.n - 1)))))) := by
  have h1 := h.later hb1
  obtain ⟨w2, e2, h2, o2⟩ := h1.unwatch k hk hb i hi 0
  have hl := h1.set k hk
  have hl2 := h2.set k hk
  rw [hb] at hl hl2
  have hle := h2.lenSet k hk hb TI
  simp only [upd_same] at hle
  have o12 : Only own w w2 := (Only.of_below hb1).trans o2 (fun _ _ ho => ho)
  refine ⟨w2, ⟨h1.midCell.1, h1.midCell.2, hl, e2⟩, ⟨h2.midCell.1, h2.midCell.2, hl2, hle⟩, fun hz => ?_, fun _ => ?_⟩
  · obtain ⟨w3, e3, h3, o3⟩ := h2.drop k hk (by simp only [upd_same]; exact hz) 0
    obtain ⟨h4, o4⟩ := h3.count (S.n - 1)
    exact ⟨w3, e3, h3.lastCell.1, h3.lastCell.2.1, h3.lastCell.2.2, Lib.hid ⟨_, _, h4, (o12.trans o3 (fun _ _ ho => ho)).trans o4 (fun _ _ ho => ho)⟩⟩
  · obtain ⟨h4, o4⟩ := h2.count (S.n - 1)
    exact ⟨h2.lastCell.2.1, h2.lastCell.2.2, Lib.hid ⟨_, _, h4, o12.trans o4 (fun _ _ ho => ho)⟩⟩
set_option maxRecDepth 100000 in
set_option maxHeartbeats 400000 in
theorem unwatch_any (h : Cel own bs m S w bt bw Dt Dw bk) (hm : m < 1000000) (k : ByteArray) (hk : k.size ≤ maxLen) (i : Int) (hi : -9223372036854775808 ≤ i ∧ i ≤ 9223372036854775807) (hn0 : 0 ≤ S.n) (hn1 : S.n ≤ 1000000) (S' : CS) (hS : S' = @ite _ (i ∈ S.wh k) (Classical.propDecidable _) (S.watched k (delI (S.wh k) i) (S.n - 1)) S) :
    Calls Try.prog 10 #[.pointer (some ⟨bs, 0, none⟩), .string k, .int .i64 i] w fun e w' => e = .returned (.bool (decide (i ∈ S.wh k))) ∧ ∃ Dw' bk', Cel own bs m S' w' bt bw Dt Dw' bk' ∧ Only own w w' := by
  have HW := Lib.hid (watched1_any h k hk i hi)
  have l0 := h.fl.lt
  by_cases hin : i ∈ S.wh k
  · rw [if_pos hin] at hS
    rw [decide_eq_true hin] at HW ⊢
    obtain ⟨b, hb⟩ : ∃ b, bk k = some b := by
      cases hb : bk k with
      | none => rw [h.nil_w k hk hb] at hin; cases hin
      | some b => exact ⟨b, rfl⟩
    have HF := Lib.hid (h.pathC k hk hb i hi)
    obtain ⟨n, hn⟩ : ∃ n, S.n = n := ⟨_, rfl⟩
    rw [hn] at HF hn0 hn1 hS
    by_cases hz : delI (S.wh k) i = []
    · have hz0 : ((delI (S.wh k) i).length : Int) = 0 := by rw [hz]; rfl
      clear h hn
      go_enter Try.func10, Try.ntmps10
      go_wp2_with (go_at_call 18; refine HW.out.mono ?_; rintro e w1 ⟨rfl, hb⟩; obtain ⟨w2, ⟨a1, a2, a3, a4⟩, ⟨b1, b2, b3, b4⟩, HQ, -⟩ := HF.out w1 hb; rw [hz0] at b4; obtain ⟨w3, c0, c1, c2, c3, HR⟩ := HQ hz; clear HQ)
      go_ret
      obtain ⟨Dw', bk', r1, r2⟩ := HR.out
      exact ⟨rfl, _, _, hS ▸ r1, r2⟩
    · have hz0 : 1 ≤ ((delI (S.wh k) i).length : Int) := by have := List.length_pos_iff.2 hz; omega
      obtain ⟨c, hc⟩ : ∃ c : Int, ((delI (S.wh k) i).length : Int) = c := ⟨_, rfl⟩
      rw [hc] at HF hz0
      have hne : (c == 0) = false := by simp; omega
      clear h hn hc
      go_enter Try.func10, Try.ntmps10
      go_wp2_with (go_at_call 18; refine HW.out.mono ?_; rintro e w1 ⟨rfl, hb⟩; obtain ⟨w2, ⟨a1, a2, a3, a4⟩, ⟨b1, b2, b3, b4⟩, -, HQ⟩ := HF.out w1 hb; obtain ⟨c2, c3, HR⟩ := HQ hz; clear HQ)
      go_ret
      obtain ⟨Dw', bk', r1, r2⟩ := HR.out
      exact ⟨rfl, _, _, hS ▸ r1, r2⟩
  · rw [if_neg hin] at hS
    rw [decide_eq_false hin] at HW ⊢
    have HF : Hid (∀ w1, Below w.heap.size w w1 → Cel own bs m S' w1 bt bw Dt Dw bk) := Lib.hid fun w1 hb => hS ▸ h.later hb
    clear h hS
    go_enter Try.func10, Try.ntmps10
    go_wp2_with (go_at_call 18; refine HW.out.mono ?_; rintro e w1 ⟨rfl, hb⟩)
    go_ret
    exact ⟨rfl, _, _, HF.out w1 hb, Only.of_below hb⟩
end
end Go.Proofs.Ytfaoeajaahnooaa.cel
