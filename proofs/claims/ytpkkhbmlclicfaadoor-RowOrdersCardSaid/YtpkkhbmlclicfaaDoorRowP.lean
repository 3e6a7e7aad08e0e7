/- Rows of values as plain mathematics: the key of a value, and which texts are keys. No program, no conditions beyond those that each statement names. -/
import Derived.Test.YtpkkhbmlclicfaaDoorValueP
import Derived.Test.YtpkkhbmlclicfaaDoorRefPack
import Derived.Lib.IndexBytes
namespace Go.Proofs.YtpkkhbmlclicfaaDoor.val
set_option linter.unusedVariables false

/-- the bytes of a value in its row's key -/
def tailB (v : V) : List UInt8 := if v.k = 1 then [UInt8.ofNat v.n.toNat] else if v.k = 2 then intB v.n else if v.k = 3 then v.s.data.toList else []
def encB (v : V) : List UInt8 := UInt8.ofNat v.k.toNat :: tailB v
def encS (v : V) : ByteArray := ⟨(encB v).toArray⟩
/-- is a text a value's? -/
def shapeB (s : ByteArray) : Bool := match s.data.toList with
  | [] => false
  | k :: r => if k = 0 then r.isEmpty else if k = 1 then (match r with | [b] => decide (b.toNat < 2) | _ => false) else if k = 2 then decide (r.length = 8) else if k = 3 then decide (r.length ≤ 64) else false

theorem enc_0 (n : Int) (s : ByteArray) : encB ⟨0, n, s⟩ = [0] := rfl
theorem enc_1 (n : Int) (s : ByteArray) : encB ⟨1, n, s⟩ = [1, UInt8.ofNat n.toNat] := rfl
theorem enc_2 (n : Int) (s : ByteArray) : encB ⟨2, n, s⟩ = 2 :: intB n := rfl
theorem enc_3 (n : Int) (s : ByteArray) : encB ⟨3, n, s⟩ = 3 :: s.data.toList := rfl
theorem bytes_data {a b : ByteArray} (h : a.data.toList = b.data.toList) : a = b := by
  cases a; cases b; simp at h; simp [h]
theorem enc_inj {a b : V} (ha : Good a) (hb : Good b) (h : encB a = encB b) : a = b := by
  cases a with | mk ka na sa =>
  cases b with | mk kb nb sb =>
  have e0 := congrArg List.head? h
  unfold Good at ha hb
  dsimp only at ha hb
  have ek : ka = kb := by
    simp only [encB, List.head?_cons, Option.some.injEq] at e0
    have := congrArg UInt8.toNat e0
    simp at this
    omega
  subst ek
  rcases ha with ⟨rfl, rfl, rfl⟩ | ⟨rfl, h1, rfl⟩ | ⟨rfl, rfl, h1⟩ | ⟨rfl, rfl, h1⟩
  · have hb' : nb = 0 ∧ sb = ByteArray.empty := by simpa using hb
    rw [hb'.1, hb'.2]
  · have hb' : (nb = 0 ∨ nb = 1) ∧ sb = ByteArray.empty := by simpa using hb
    obtain ⟨h2, rfl⟩ := hb'
    rw [enc_1, enc_1] at h
    simp only [List.cons.injEq, true_and, and_true] at h
    have := congrArg UInt8.toNat h
    simp at this
    have : na = nb := by omega
    rw [this]
  · have hb' : sb = ByteArray.empty ∧ -9223372036854775808 ≤ nb ∧ nb ≤ 9223372036854775807 := by simpa using hb
    obtain ⟨rfl, h2⟩ := hb'
    rw [enc_2, enc_2] at h
    simp only [List.cons.injEq, true_and] at h
    rw [intB_inj na nb h1 h2 h]
  · have hb' : nb = 0 ∧ sb.size ≤ 64 := by simpa using hb
    obtain ⟨rfl, h2⟩ := hb'
    rw [enc_3, enc_3] at h
    simp only [List.cons.injEq, true_and] at h
    rw [bytes_data h]
theorem enc_shape {v : V} (h : Good v) : shapeB (encS v) = true := by
  cases v with | mk k n s =>
  unfold Good at h
  dsimp only at h
  unfold shapeB encS
  rcases h with ⟨rfl, rfl, rfl⟩ | ⟨rfl, h1, rfl⟩ | ⟨rfl, rfl, h1⟩ | ⟨rfl, rfl, h1⟩
  · rfl
  · rcases h1 with rfl | rfl <;> rfl
  · simp [enc_2, intB_length]
  · rw [enc_3]
    have : s.data.toList.length = s.size := by rw [← ByteArray.size_data]; simp
    simp [this, h1]
theorem enc_len {v : V} (h : Good v) : (encB v).length ≤ 65 := by
  cases v with | mk k n s =>
  unfold Good at h
  dsimp only at h
  rcases h with ⟨rfl, rfl, rfl⟩ | ⟨rfl, h1, rfl⟩ | ⟨rfl, rfl, h1⟩ | ⟨rfl, rfl, h1⟩
  · decide
  · simp [enc_1]
  · simp [enc_2, intB_length]
  · have : s.data.toList.length = s.size := by rw [← ByteArray.size_data]; simp
    rw [enc_3, List.length_cons]; omega
theorem encS_size (v : V) : (encS v).size = (encB v).length := size_mk _

/-- the key of a row -/
def keyB (l : List V) : List UInt8 := packB (l.map encS)
theorem keyB_len (l : List V) (h : ∀ v ∈ l, Good v) : (keyB l).length ≤ l.length * 69 := by
  unfold keyB
  rw [packB_length]
  induction l with
  | nil => simp
  | cons v l ih =>
    have h1 := enc_len (h v (by simp))
    have h2 := ih (fun u hu => h u (by simp [hu]))
    simp only [List.map_cons, List.sum_cons, List.length_cons, encS_size] at h2 ⊢
    omega
theorem split_key (l : List V) (h : ∀ v ∈ l, Good v) : splitS ⟨(keyB l).toArray⟩ = (l.map encS, true) := by
  refine splitS_packB _ fun s hs => ?_
  obtain ⟨v, hv, rfl⟩ := List.mem_map.1 hs
  have := enc_len (h v hv)
  rw [encS_size]; omega
theorem encS_inj {a b : V} (ha : Good a) (hb : Good b) (h : encS a = encS b) : a = b :=
  enc_inj ha hb (by have := congrArg (fun s : ByteArray => s.data.toList) h; simpa [encS] using this)
theorem map_enc_inj : ∀ (l m : List V), (∀ v ∈ l, Good v) → (∀ v ∈ m, Good v) → l.map encS = m.map encS → l = m
  | [], [], _, _, _ => rfl
  | [], b :: m, _, _, h => by simp at h
  | a :: l, [], _, _, h => by simp at h
  | a :: l, b :: m, ha, hb, h => by
    simp only [List.map_cons, List.cons.injEq] at h
    rw [encS_inj (ha a (by simp)) (hb b (by simp)) h.1, map_enc_inj l m (fun v hv => ha v (by simp [hv])) (fun v hv => hb v (by simp [hv])) h.2]
theorem key_inj {l m : List V} (hl : ∀ v ∈ l, Good v) (hm : ∀ v ∈ m, Good v) (h : keyB l = keyB m) : l = m := by
  have h1 := split_key l hl
  rw [h, split_key m hm] at h1
  exact map_enc_inj l m hl hm (by simpa using h1.symm)

/-- what is whole is packed as it was -/
theorem packB_split : ∀ (f : Nat) (s : ByteArray), s.size ≤ f → (splitS s).2 = true → packB (splitS s).1 = s.data.toList := by
  intro f
  induction f with
  | zero =>
    intro s hs h
    have h0 : s.size = 0 := by omega
    rw [splitS_stop s (.inl (by omega))]
    have : s.data.toList.length = s.size := by rw [← ByteArray.size_data]; simp
    rw [List.eq_nil_of_length_eq_zero (by omega : s.data.toList.length = 0)]
    rfl
  | succ f ih =>
    intro s hs h
    have hl : s.data.toList.length = s.size := by rw [← ByteArray.size_data]; simp
    by_cases hc : s.size < 4 ∨ s.size < 4 + cutN s
    · rw [splitS_stop s hc] at h ⊢
      have h0 : s.size = 0 := by simpa using h
      rw [List.eq_nil_of_length_eq_zero (by omega : s.data.toList.length = 0)]
      rfl
    · have h1 : 4 ≤ s.size := by omega
      have h2 : 4 + cutN s ≤ s.size := by omega
      rw [splitS_step s h1 h2] at h ⊢
      have hz : (s.extract (4 + cutN s) s.size).size = s.size - (4 + cutN s) := by rw [ByteArray.size_extract]; omega
      have := ih (s.extract (4 + cutN s) s.size) (by rw [hz]; omega) h
      show packB ([s.extract 4 (4 + cutN s)] ++ (splitS (s.extract (4 + cutN s) s.size)).1) = _
      have hp : ∀ (x : ByteArray) l, packB ([x] ++ l) = beD 4 x.size ++ (x.data.toList ++ packB l) := fun x l => by simp [packB]
      rw [hp, this]
      have e1 : (s.extract 4 (4 + cutN s)).size = cutN s := by rw [ByteArray.size_extract]; omega
      have e2 : (s.extract 4 (4 + cutN s)).data.toList = (s.data.toList.drop 4).take (cutN s) := by
        rw [Lib.extract_data]; simp
      have e3 : (s.extract (4 + cutN s) s.size).data.toList = s.data.toList.drop (4 + cutN s) := by
        rw [Lib.extract_data]
        rw [List.take_of_length_le (by simp)]
      have e4 : beD 4 (cutN s) = s.data.toList.take 4 := by
        have := beD_beVal (s.data.toList.take 4)
        rwa [show (s.data.toList.take 4).length = 4 by rw [List.length_take]; omega] at this
      rw [e1, e2, e3, e4]
      have := List.take_append_drop 4 s.data.toList
      have h5 := List.take_append_drop (cutN s) (s.data.toList.drop 4)
      rw [List.drop_drop] at h5
      rw [h5, this]

/-- the row of some texts -/
theorem dec_all : ∀ (ss : List ByteArray) (l : List V), ss.length = l.length → (∀ (j : Nat) s v, ss[j]? = some s → l[j]? = some v → encB v = s.data.toList) → l.map encS = ss
  | [], [], _, _ => rfl
  | [], b :: l, h, _ => by simp at h
  | a :: ss, [], h, _ => by simp at h
  | a :: ss, b :: l, h, hj => by
    have h0 := hj 0 a b rfl rfl
    rw [List.map_cons, dec_all ss l (by simpa using h) (fun j s v h1 h2 => hj (j + 1) s v h1 h2)]
    rw [show encS b = a from bytes_data (by simpa [encS] using h0)]
end Go.Proofs.YtpkkhbmlclicfaaDoor.val
