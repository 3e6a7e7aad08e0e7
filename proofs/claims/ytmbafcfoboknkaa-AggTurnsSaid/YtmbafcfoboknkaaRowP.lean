/- Rows of values as plain mathematics: the key of a value, and which texts are keys. No program, no conditions beyond those that each statement names. -/
import Derived.Test.YtmbafcfoboknkaaValueP
import Derived.Test.YtmbafcfoboknkaaRefPack
import Derived.Lib.IndexBytes
namespace Go.Proofs.Ytmbafcfoboknkaa.val
set_option linter.unusedVariables false
/-- the bytes of a value in its row's key -/
def tailB (v : V) : List UInt8 := if v.k = 1 then [UInt8.ofNat v.n.toNat] else if v.k = 2 then intB v.n else if v.k = 3 then v.s.data.toList else []
def encB (v : V) : List UInt8 := UInt8.ofNat v.k.toNat :: tailB v
def encS (v : V) : ByteArray := ⟨(encB v).toArray⟩
theorem enc_1 (n : Int) (s : ByteArray) : encB ⟨1, n, s⟩ = [1, UInt8.ofNat n.toNat] := rfl
theorem enc_2 (n : Int) (s : ByteArray) : encB ⟨2, n, s⟩ = 2 :: intB n := rfl
theorem enc_3 (n : Int) (s : ByteArray) : encB ⟨3, n, s⟩ = 3 :: s.data.toList := rfl
theorem bytes_data {a b : ByteArray} (h : a.data.toList = b.data.toList) : a = b := by
  cases a; cases b; simp at h; simp [h]
theorem enc_len {v : V} (h : Good v) : (encB v).length ≤ 65 := by
  cases v with | mk k n s =>
  unfold Good at h
  dsimp only at h
  rcases h with ⟨rfl, rfl, rfl⟩ | ⟨rfl, h1, rfl⟩ | ⟨rfl, rfl, h1⟩ | ⟨rfl, rfl, h1⟩
  · decide
  · simp [enc_1]
  · simp [enc_2, intB_length]
  · have : s.data.toList.length = s.size := by rw [← ByteArray.size_data]; simp
    rw [enc_3, List.length_cons]; omega
theorem encS_size (v : V) : (encS v).size = (encB v).length := size_mk _
/-- the key of a row -/
def keyB (l : List V) : List UInt8 := packB (l.map encS)
theorem keyB_len (l : List V) (h : ∀ v ∈ l, Good v) : (keyB l).length ≤ l.length * 69 := by
  unfold keyB
  rw [packB_length]
  induction l with
  | nil => simp
  | cons v l ih =>
    have h1 := enc_len (h v (by simp))
    have h2 := ih (fun u hu => h u (by simp [hu]))
    simp only [List.map_cons, List.sum_cons, List.length_cons, encS_size] at h2 ⊢
    omega
end Go.Proofs.Ytmbafcfoboknkaa.val
