/- Objects in shards, in plain lists and numbers. -/
import Derived.Test.YtmnciipfepeccaaGfAlg
namespace Go.Proofs.Ytmnciipfepeccaa.St

/-- how many bytes each of k shards has -/
def szN (k n : Nat) : Nat := (4 + n + k - 1) / k

theorem sz_ge {k n : Nat} (hk : 1 ≤ k) : 4 + n ≤ k * szN k n := by
  have h := Nat.div_add_mod (4 + n + k - 1) k
  have h2 := Nat.mod_lt (4 + n + k - 1) (show 0 < k by omega)
  unfold szN
  omega

theorem sz_le (k n : Nat) : k * szN k n ≤ 4 + n + k - 1 := Nat.mul_div_le _ _

theorem sz_pos {k n : Nat} (hk : 1 ≤ k) : 1 ≤ szN k n := by
  have := sz_ge (n := n) hk
  rcases Nat.eq_zero_or_pos (szN k n) with h | h
  · rw [h] at this; omega
  · exact h

theorem sz_bound {k n : Nat} (hk2 : k ≤ 255) (hn : n ≤ 2048) : k * szN k n ≤ 2306 := by
  have := sz_le k n
  omega

theorem sz_bound1 {k n : Nat} (hk : 1 ≤ k) (hn : n ≤ 2048) : szN k n ≤ 2052 := by
  unfold szN
  refine Nat.div_le_of_le_mul ?_
  have : k * 2052 = 2052 * k := Nat.mul_comm _ _
  omega

theorem sz_mono {k n m : Nat} (h : n ≤ m) : szN k n ≤ szN k m := Nat.div_le_div_right (by omega)

/-- one of the four bytes of a length, the highest first -/
def beN (n i : Nat) : Nat := n / 256 ^ (3 - i) % 256

def headL (n : Nat) : List UInt8 := (List.range 4).map fun i => UInt8.ofNat (beN n i)

theorem head_len (n : Nat) : (headL n).length = 4 := by simp [headL]

/-- an object's plain bytes -/
def plainL (k : Nat) (s : ByteArray) : List UInt8 := headL s.size ++ s.data.toList ++ List.replicate (k * szN k s.size - (4 + s.size)) 0

theorem data_len (s : ByteArray) : s.data.toList.length = s.size := by rw [Array.length_toList]; rfl

theorem plain_len {k : Nat} (hk : 1 ≤ k) (s : ByteArray) : (plainL k s).length = k * szN k s.size := by
  have := sz_ge (n := s.size) hk
  unfold plainL
  rw [List.length_append, List.length_append, List.length_replicate, head_len, data_len]
  omega

/-- piece i of n bytes -/
def piece (L : List UInt8) (n i : Nat) : ByteArray := ⟨((L.drop (i * n)).take n).toArray⟩

theorem piece_size (L : List UInt8) (n i : Nat) (h : (i + 1) * n ≤ L.length) : (piece L n i).size = n := by
  show ((L.drop (i * n)).take n).toArray.size = n
  rw [List.size_toArray, List.length_take, List.length_drop]
  rw [Nat.succ_mul] at h
  omega

def pieces (L : List UInt8) (n k : Nat) : List ByteArray := (List.range k).map (piece L n)

theorem pieces_len (L : List UInt8) (n k : Nat) : (pieces L n k).length = k := by simp [pieces]

theorem pieces_at (L : List UInt8) (n k i : Nat) (h : i < k) : (pieces L n k)[i]? = some (piece L n i) := by
  unfold pieces
  rw [List.getElem?_map, List.getElem?_range h]; rfl

def shards (k : Nat) (s : ByteArray) : List ByteArray := pieces (plainL k s) (szN k s.size) k

theorem shards_len (k : Nat) (s : ByteArray) : (shards k s).length = k := pieces_len _ _ _

theorem shard_size {k : Nat} (hk : 1 ≤ k) (s : ByteArray) (i : Nat) (h : i < k) : (piece (plainL k s) (szN k s.size) i).size = szN k s.size :=
  piece_size _ _ _ (by rw [plain_len hk]; exact Nat.mul_le_mul_right _ h)

theorem shards_size {k : Nat} (hk : 1 ≤ k) (s : ByteArray) (x : ByteArray) (h : x ∈ shards k s) : x.size = szN k s.size := by
  unfold shards pieces at h
  obtain ⟨i, hi, rfl⟩ := List.mem_map.1 h
  exact shard_size hk s i (List.mem_range.1 hi)

/-- all of them, one behind the other -/
def joinL (l : List ByteArray) : List UInt8 := l.flatMap fun s => s.data.toList

theorem joinL_append (l m : List ByteArray) : joinL (l ++ m) = joinL l ++ joinL m := List.flatMap_append

theorem joinL_one (s : ByteArray) : joinL [s] = s.data.toList := by simp [joinL]

theorem join_pieces (L : List UInt8) (n : Nat) : ∀ k, joinL (pieces L n k) = L.take (k * n) := by
  intro k
  induction k with
  | zero => simp [pieces, joinL]
  | succ k ih =>
    unfold pieces at *
    rw [List.range_succ, List.map_append, joinL_append, ih, List.map_cons, List.map_nil, joinL_one]
    show L.take (k * n) ++ (L.drop (k * n)).take n = _
    rw [Nat.succ_mul, List.take_add]

theorem join_shards {k : Nat} (hk : 1 ≤ k) (s : ByteArray) : joinL (shards k s) = plainL k s := by
  unfold shards
  rw [join_pieces, List.take_of_length_le (by rw [plain_len hk]; exact Nat.le_refl _)]

/-- are they as long, all of them? -/
def Even (l : List ByteArray) : Prop := ∀ s ∈ l, s.size = (l.headD ⟨#[]⟩).size

instance (l : List ByteArray) : Decidable (Even l) := by unfold Even; infer_instance

theorem even_shards {k : Nat} (hk : 1 ≤ k) (s : ByteArray) : Even (shards k s) := by
  intro x hx
  rw [shards_size hk s x hx]
  cases h : shards k s with
  | nil => rw [h] at hx; cases hx
  | cons y r => exact (shards_size hk s y (by rw [h]; simp)).symm

theorem joinL_len : ∀ (l : List ByteArray) (n : Nat), (∀ s ∈ l, s.size = n) → (joinL l).length = l.length * n
  | [], n, _ => by simp [joinL]
  | s :: r, n, h => by
    have ih := joinL_len r n fun x hx => h x (by simp [hx])
    show (s.data.toList ++ joinL r).length = _
    rw [List.length_append, ih, data_len, h s (by simp), List.length_cons, Nat.succ_mul]
    omega

theorem even_len (l : List ByteArray) (h : Even l) : (joinL l).length = l.length * (l.headD ⟨#[]⟩).size := joinL_len l _ h

/-- the number that the first four bytes are -/
def numL (L : List UInt8) : Nat := (L.take 4).foldl (fun a b => a * 256 + b.toNat) 0

/-- the object whose plain bytes they are -/
def uncut (k : Nat) (L : List UInt8) : Option ByteArray :=
  if L.length < 4 then none
  else if 2048 < numL L ∨ L.length - 4 < numL L then none
  else if plainL k ⟨((L.drop 4).take (numL L)).toArray⟩ = L then some ⟨((L.drop 4).take (numL L)).toArray⟩ else none

theorem num_head (n : Nat) (h : n < 4294967296) (r : List UInt8) : numL (headL n ++ r) = n := by
  have e : headL n = [UInt8.ofNat (beN n 0), UInt8.ofNat (beN n 1), UInt8.ofNat (beN n 2), UInt8.ofNat (beN n 3)] := rfl
  unfold numL
  rw [List.take_append_of_le_length (by rw [head_len]; omega), List.take_of_length_le (by rw [head_len]; omega), e]
  simp only [List.foldl_cons, List.foldl_nil]
  have b : ∀ i, (UInt8.ofNat (beN n i)).toNat = beN n i := fun i => GfU.toNat_ofNat (by unfold beN; omega)
  rw [b, b, b, b]
  unfold beN
  simp only [Nat.reduceSub, Nat.reducePow, Nat.pow_zero]
  omega

theorem uncut_plain {k : Nat} (hk : 1 ≤ k) (s : ByteArray) (hs : s.size ≤ 2048) : uncut k (plainL k s) = some s := by
  have hn : numL (plainL k s) = s.size := by
    unfold plainL
    rw [List.append_assoc]
    exact num_head _ (by omega) _
  have hl := plain_len hk s
  have hg := sz_ge (n := s.size) hk
  have hd : (⟨(((plainL k s).drop 4).take s.size).toArray⟩ : ByteArray) = s := by
    have : ((plainL k s).drop 4).take s.size = s.data.toList := by
      unfold plainL
      rw [List.append_assoc, List.drop_append, head_len, Nat.sub_self, List.drop_zero, List.drop_of_length_le (by rw [head_len]; omega), List.nil_append,
        List.take_append_of_le_length (by rw [data_len]; omega), List.take_of_length_le (by rw [data_len]; omega)]
    rw [this]
  unfold uncut
  rw [hn, if_neg (by omega), if_neg (by omega), hd, if_pos rfl]

theorem uncut_some {k : Nat} {L : List UInt8} {s : ByteArray} (h : uncut k L = some s) : plainL k s = L ∧ s.size ≤ 2048 := by
  unfold uncut at h
  split at h
  · cases h
  · split at h
    · cases h
    · split at h
      · rename_i h1 h2 h3
        obtain rfl := Option.some.inj h
        refine ⟨h3, ?_⟩
        show ((L.drop 4).take (numL L)).toArray.size ≤ 2048
        rw [List.size_toArray, List.length_take]
        omega
      · cases h

/-- shards that are too long are no object's -/
theorem uncut_long {k n : Nat} {L : List UInt8} (hk : 1 ≤ k) (hl : L.length = k * n) (h : szN k 2048 < n) : uncut k L = none := by
  cases hu : uncut k L with
  | none => rfl
  | some s =>
    obtain ⟨h1, h2⟩ := uncut_some hu
    have h3 := plain_len hk s
    rw [h1, hl] at h3
    have h4 := sz_mono (k := k) h2
    have h5 := Nat.eq_of_mul_eq_mul_left (show 0 < k by omega) h3
    omega

/-- what Join answers -/
def joinAns (l : List ByteArray) : ByteArray × Nat :=
  if l.length < 1 ∨ 255 < l.length then (⟨#[]⟩, 1)
  else if ¬ Even l then (⟨#[]⟩, 4)
  else match uncut l.length (joinL l) with
    | some s => (s, 0)
    | none => (⟨#[]⟩, 41)

theorem join_back {k : Nat} (hk : 1 ≤ k) (hk2 : k ≤ 255) (s : ByteArray) (hs : s.size ≤ 2048) : joinAns (shards k s) = (s, 0) := by
  unfold joinAns
  rw [if_neg (by rw [shards_len]; omega), if_neg (fun h => h (even_shards hk s)), shards_len, join_shards hk, uncut_plain hk s hs]

end Go.Proofs.Ytmnciipfepeccaa.St
