/- cut, Split: packed texts taken apart. -/
import Derived.Test.YtpkkhbmlclicfaaDoorPackX
import Derived.Deep.QuietTactic
import Derived.BigQuiet
import Derived.WalkSmall
namespace Go.Proofs.YtpkkhbmlclicfaaDoor
set_option linter.unusedVariables false
open Go.RowKit

set_option maxHeartbeats 400000 in
theorem cut_short (s : ByteArray) (w : World) (h : s.size < 4) :
    Calls Tryd.prog 76 #[.string s] w fun e w' => e = .returned (.tuple #[.string ⟨#[]⟩, .string ⟨#[]⟩, .bool false]) ∧ Below w.heap.size w w' := by
  go_enter Tryd.func76, Tryd.ntmps76
  go_wp2
  go_ret3
  exact ⟨rfl, Below.refl _ _⟩

/-- what the first four bytes say -/
def cutN (s : ByteArray) : Nat := beVal (s.data.toList.take 4)
theorem cutN_eq (s : ByteArray) (h0 : 0 < s.size) (h1 : 1 < s.size) (h2 : 2 < s.size) (h3 : 3 < s.size) : ((s[0].toNat * 256 + s[1].toNat) * 256 + s[2].toNat) * 256 + s[3].toNat = cutN s := by
  unfold cutN
  rw [take_snoc s 3 h3, take_snoc s 2 h2, take_snoc s 1 h1, take_snoc s 0 h0, beVal_snoc, beVal_snoc, beVal_snoc, beVal_snoc]
  simp [beVal]; omega

set_option maxHeartbeats 400000 in
theorem cut_long (s : ByteArray) (w : World) (h : 4 ≤ s.size) (hs : s.size ≤ 9223372036854775807) (hn : s.size < 4 + cutN s) :
    Calls Tryd.prog 76 #[.string s] w fun e w' => e = .returned (.tuple #[.string ⟨#[]⟩, .string ⟨#[]⟩, .bool false]) ∧ Below w.heap.size w w' := by
  have g0 : (0 : Int) < (s.size : Int) := by omega
  have g0' : 0 < s.size := by omega
  have g1' : 1 < s.size := by omega
  have g2' : 2 < s.size := by omega
  have g3' : 3 < s.size := by omega
  have g1 : (1 : Int) < (s.size : Int) := by omega
  have g2 : (2 : Int) < (s.size : Int) := by omega
  have g3 : (3 : Int) < (s.size : Int) := by omega
  have hv := be4_or s[0] s[1] s[2] s[3]
  rw [cutN_eq s g0' g1' g2' g3'] at hv
  generalize cutN s = N at hv hn
  have hg : (s.size : Int) - 4 < N := by omega
  go_enter Tryd.func76, Tryd.ntmps76
  go_wp2
  go_quiet (fail)
  go_wp2
  go_ret3
  exact ⟨rfl, below_drewN (Below.refl _ _) _⟩

set_option maxHeartbeats 400000 in
theorem cut_yes (s : ByteArray) (w : World) (h : 4 ≤ s.size) (hs : s.size ≤ 9223372036854775807) (hn : 4 + cutN s ≤ s.size) :
    Calls Tryd.prog 76 #[.string s] w fun e w' => e = .returned (.tuple #[.string (s.extract 4 (4 + cutN s)), .string (s.extract (4 + cutN s) s.size), .bool true]) ∧ Below w.heap.size w w' := by
  have g0 : (0 : Int) < (s.size : Int) := by omega
  have g0' : 0 < s.size := by omega
  have g1' : 1 < s.size := by omega
  have g2' : 2 < s.size := by omega
  have g3' : 3 < s.size := by omega
  have g1 : (1 : Int) < (s.size : Int) := by omega
  have g2 : (2 : Int) < (s.size : Int) := by omega
  have g3 : (3 : Int) < (s.size : Int) := by omega
  have hv := be4_or s[0] s[1] s[2] s[3]
  rw [cutN_eq s g0' g1' g2' g3'] at hv
  generalize cutN s = N at hv hn
  have hg : (N : Int) ≤ (s.size : Int) - 4 := by omega
  have hg1 : (4 : Int) ≤ 4 + (N : Int) := by omega
  have hg2 : 4 + (N : Int) ≤ (s.size : Int) := by omega
  go_enter Tryd.func76, Tryd.ntmps76
  go_wp2
  go_quiet (fail)
  go_wp2
  go_quiet (fail)
  go_wp2
  go_ret3
  exact ⟨rfl, below_drewN (below_drewN (Below.refl _ _) _) _⟩

/-- the texts that are packed in a text, as far as they are whole, and whether all are -/
def splitF : Nat → ByteArray → List ByteArray × Bool
  | 0, s => ([], s.size == 0)
  | f + 1, s => if s.size < 4 ∨ s.size < 4 + cutN s then ([], s.size == 0) else (s.extract 4 (4 + cutN s) :: (splitF f (s.extract (4 + cutN s) s.size)).1, (splitF f (s.extract (4 + cutN s) s.size)).2)
def splitS (s : ByteArray) : List ByteArray × Bool := splitF s.size s
theorem splitF_stop (f : Nat) (s : ByteArray) (h : s.size < 4 ∨ s.size < 4 + cutN s) : splitF f s = ([], s.size == 0) := by
  cases f with
  | zero => rfl
  | succ f => rw [splitF, if_pos h]
theorem splitF_step (f : Nat) (s : ByteArray) (h1 : 4 ≤ s.size) (h2 : 4 + cutN s ≤ s.size) : splitF (f + 1) s = (s.extract 4 (4 + cutN s) :: (splitF f (s.extract (4 + cutN s) s.size)).1, (splitF f (s.extract (4 + cutN s) s.size)).2) := by
  rw [splitF, if_neg (by omega)]
theorem splitF_fuel : ∀ (f : Nat) (s : ByteArray), s.size ≤ f → splitF f s = splitS s := by
  have key : ∀ (n f g : Nat) (s : ByteArray), s.size ≤ n → s.size ≤ f → s.size ≤ g → splitF f s = splitF g s := by
    intro n
    induction n with
    | zero => intro f g s hn _ _; rw [splitF_stop f s (by omega), splitF_stop g s (by omega)]
    | succ n ih =>
      intro f g s hn hf hg
      by_cases h : s.size < 4 ∨ s.size < 4 + cutN s
      · rw [splitF_stop f s h, splitF_stop g s h]
      · obtain ⟨f, rfl⟩ : ∃ k, f = k + 1 := ⟨f - 1, by omega⟩
        obtain ⟨g, rfl⟩ : ∃ k, g = k + 1 := ⟨g - 1, by omega⟩
        have hz : (s.extract (4 + cutN s) s.size).size ≤ s.size - 4 := by rw [ByteArray.size_extract]; omega
        rw [splitF_step f s (by omega) (by omega), splitF_step g s (by omega) (by omega), ih f g _ (by omega) (by omega) (by omega)]
  intro f s h
  exact key _ f _ s (Nat.le_refl _) h (Nat.le_refl _)
theorem splitS_stop (s : ByteArray) (h : s.size < 4 ∨ s.size < 4 + cutN s) : splitS s = ([], s.size == 0) := splitF_stop _ s h
theorem splitS_step (s : ByteArray) (h1 : 4 ≤ s.size) (h2 : 4 + cutN s ≤ s.size) : splitS s = (s.extract 4 (4 + cutN s) :: (splitS (s.extract (4 + cutN s) s.size)).1, (splitS (s.extract (4 + cutN s) s.size)).2) := by
  have hz : (s.extract (4 + cutN s) s.size).size ≤ s.size - 4 := by rw [ByteArray.size_extract]; omega
  rw [← splitF_fuel (s.size + 1) s (by omega), splitF_step _ s h1 h2, splitF_fuel _ _ (by omega)]

theorem infoStr : (Tryd.prog.info? 9).map (fun i => (i.zero, i.size, i.bytes)) = some (some (.string ⟨#[]⟩), 1, 16) := by kernel_rfl

/-- what Split tells -/
def SplitPost (s : ByteArray) (w : World) (e : Ending) (w' : World) : Prop :=
  ∃ v, e = .returned (.tuple #[v, .int .i64 (if (splitS s).2 then 0 else 2)]) ∧ (if (splitS s).2 then w'.ownsRow w.heap.size 9 1 v (splitS s).1.length ((splitS s).1.map Value.string) else v = .slice none 0 0) ∧ Below w.heap.size w w'
theorem SplitPost.mk {s : ByteArray} {w : World} {e : Ending} {w' : World} (b : Bool) (hb : (splitS s).2 = b) (v : Value) (he : e = .returned (.tuple #[v, .int .i64 (if b then 0 else 2)])) (hv : if b then w'.ownsRow w.heap.size 9 1 v (splitS s).1.length ((splitS s).1.map Value.string) else v = .slice none 0 0) (hB : Below w.heap.size w w') : SplitPost s w e w' := by
  subst hb; exact ⟨v, he, hv, hB⟩

def SplitAt (s : ByteArray) (acc : List ByteArray) (r : ByteArray) : Prop :=
  splitS s = (acc ++ (splitS r).1, (splitS r).2) ∧ acc.length + r.size ≤ s.size

theorem SplitAt.step {s : ByteArray} {acc : List ByteArray} {r : ByteArray} (h : SplitAt s acc r) (h1 : 4 ≤ r.size) (h2 : 4 + cutN r ≤ r.size) : SplitAt s (acc ++ [r.extract 4 (4 + cutN r)]) (r.extract (4 + cutN r) r.size) := by
  refine ⟨?_, ?_⟩
  · rw [h.1, splitS_step r h1 h2]; simp
  · have := h.2
    have hz : (r.extract (4 + cutN r) r.size).size ≤ r.size - 4 := by rw [ByteArray.size_extract]; omega
    rw [List.length_append, List.length_singleton]; omega

set_option maxHeartbeats 1000000 in
theorem split_any (s : ByteArray) (w : World) (hs : s.size ≤ 1099511627776) :
    Calls Tryd.prog 61 #[.string s] w (SplitPost s w) := by
  obtain ⟨i0, hi, hz0, hz1, hz2⟩ := info_parts infoStr
  go_enter Tryd.func61, Tryd.ntmps61
  go_wp2
  go_loopw [4, 5] (fun v r wr => ∃ acc : List ByteArray, ∃ R : ByteArray, r = .string R ∧ SplitAt s acc R ∧ wr.ownsRow w.heap.size 9 1 v acc.length (acc.map Value.string) ∧ Below w.heap.size w wr) (fun _ r _ => match r with | .string R => R.size | _ => 0)
  case atStart => exact ⟨[], s, rfl, ⟨by simp, by simp⟩, World.ownsRow_nil _ _ _ _, Below.refl _ _⟩
  case round =>
    obtain ⟨acc, R, rfl, hA, hown, hB⟩ := hrel
    have hle := hA.2
    by_cases h0 : R.size = 0
    · have hR := empty_of_size R h0
      subst hR
      have hsp : splitS s = (acc, true) := by rw [hA.1, splitS_stop _ (.inl (by decide))]; simp only [List.append_nil]; rfl
      have HS := Lib.hid hsp; have HO := Lib.hid hown
      clear hsp hown hA hle
      go_wp2
      go_ret2
      refine SplitPost.mk true (by rw [HS.out]) _ rfl ?_ hB
      have := HO.out
      rw [HS.out]; simpa using this
    · have h0' := isEmpty_of_size R h0
      have h0'' : R.toList.isEmpty = false := by rw [Lib.toList_data]; exact h0'
      by_cases h1 : R.size < 4 ∨ R.size < 4 + cutN R
      · have hsp : (splitS s).2 = false := by rw [hA.1, splitS_stop _ h1]; simpa using h0
        have HS := Lib.hid hsp; have HA := Lib.hid hA; have HO := Lib.hid hown
        have hcut : Calls Tryd.prog 76 #[.string R] wr fun e w' => e = .returned (.tuple #[.string ⟨#[]⟩, .string ⟨#[]⟩, .bool false]) ∧ Below wr.heap.size wr w' := by
          by_cases h4 : R.size < 4
          · exact cut_short R wr h4
          · exact cut_long R wr (by omega) (by omega) (by omega)
        have HC := Lib.hid hcut
        clear hsp hA hown hcut h1
        go_wp2_with (go_at_call 76; refine HC.out.mono ?_; rintro e w1 ⟨rfl, hb1⟩)
        go_ret2
        exact SplitPost.mk false HS.out _ rfl rfl (hB.trans (hb1.mono hB.size))
      · have hst := hA.step (by omega) (by omega)
        have HA := Lib.hid hst
        have hzl : (R.extract (4 + cutN R) R.size).size ≤ R.size - 4 := by rw [ByteArray.size_extract]; omega
        have hR4 : 4 ≤ R.size := by omega
        clear hst hA
        go_wp2_with (first | (go_at_call 76; refine (cut_yes _ _ (by omega) (by omega) (by omega)).mono ?_; rintro e w1 ⟨rfl, hb1⟩; have hown1 := owns_below hown hb1) | (at_builtin; refine wpList_append_own _ rfl _ _ 70 rfl w.heap.size 9 i0 (.string ⟨#[]⟩) 1 16 Tryd.underlying70 hi hz0 hz1 hz2 rfl (by decide) _ _ _ rfl (hown1.alloc _) ⟨w1.heap.size, 0, none⟩ 1 1 [.string (R.extract 4 (4 + cutN R))] rfl rfl (cell_one_new _ _ _) ?c2 ?c3 ?c4 ?c5 ?_))
        case c2 => intro u hu; simp at hu; subst hu; rfl
        case c3 => unfold maxLen; omega
        case c4 => omega
        case c5 => have := hb1.size; have := hB.size; simp; omega
        intro v' w2 hown' hgrow _
        have hB2 : Below w.heap.size w w2 := ((hB.trans (hb1.mono hB.size)).alloc (by have := hb1.size; have := hB.size; omega) _).grown hgrow (by have := hb1.size; have := hB.size; simp; omega) (fun k hk => (hown1.lt k hk).1)
        have HO := Lib.hid hown'
        clear hown hown1 hown' hgrow hb1
        go_wp2
        go_roundw
        case rel => exact ⟨_, _, rfl, HA.out, by simpa using HO.out, hB2⟩
        case measure => simp; omega

end Go.Proofs.YtpkkhbmlclicfaaDoor
