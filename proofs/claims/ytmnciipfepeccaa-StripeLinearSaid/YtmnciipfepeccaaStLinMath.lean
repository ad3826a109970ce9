/- The parity of two lists' sums is the sums of their parity: the numbers; no condition but the lists' form. -/
import Derived.Test.YtmnciipfepeccaaStXor
namespace Go.Proofs.Ytmnciipfepeccaa
open Go.RowKit

/-- piece i of a text, n bytes long -/
def cutS (x : ByteArray) (n i : Nat) : ByteArray := x.extract (i * n) (i * n + n)

theorem cutS_size (x : ByteArray) (n i : Nat) (h : i * n + n ≤ x.size) : (cutS x n i).size = n := by
  unfold cutS
  rw [ByteArray.size_extract]
  omega

def cutL (x : ByteArray) (n k : Nat) : List ByteArray := (List.range k).map (cutS x n)

def bothL (x y : ByteArray) (n k : Nat) : List ByteArray := (List.range k).map fun i => xorS (cutS x n i) (cutS y n i)

theorem cutL_len (x : ByteArray) (n k : Nat) : (cutL x n k).length = k := by simp [cutL]

theorem bothL_len (x y : ByteArray) (n k : Nat) : (bothL x y n k).length = k := by simp [bothL]

theorem cutL_take (x : ByteArray) (n k i : Nat) (h : i < k) : strV ((cutL x n k).take i) ++ [.string (cutS x n i)] = strV ((cutL x n k).take (i + 1)) := by
  have e : (cutL x n k)[i]? = some (cutS x n i) := by unfold cutL; rw [List.getElem?_map, List.getElem?_range h]; rfl
  unfold strV
  rw [List.take_add_one, e, List.map_append]; rfl

theorem bothL_take (x y : ByteArray) (n k i : Nat) (h : i < k) : strV ((bothL x y n k).take i) ++ [.string (xorS (cutS x n i) (cutS y n i))] = strV ((bothL x y n k).take (i + 1)) := by
  have e : (bothL x y n k)[i]? = some (xorS (cutS x n i) (cutS y n i)) := by unfold bothL; rw [List.getElem?_map, List.getElem?_range h]; rfl
  unfold strV
  rw [List.take_add_one, e, List.map_append]; rfl

theorem cutL_last (x : ByteArray) (n k i : Nat) (h : i < k) : (strV ((cutL x n k).take (i + 1)))[i]? = some (.string (cutS x n i)) := by
  rw [← cutL_take x n k i h, List.getElem?_append_right (by rw [strV_len, List.length_take, cutL_len]; omega), strV_len, List.length_take, cutL_len, Nat.min_eq_left (by omega), Nat.sub_self]; rfl

theorem all_even {l : List ByteArray} {n k : Nat} (hl : l.length = k) (hk : 1 ≤ k) (h : ∀ s ∈ l, s.size = n) : St.Even l ∧ (l.headD ⟨#[]⟩).size = n := by
  have hd : (l.headD ⟨#[]⟩).size = n := by
    cases l with
    | nil => simp at hl; omega
    | cons a r => exact h a (by simp)
  exact ⟨fun s hs => by rw [hd]; exact h s hs, hd⟩

theorem cutL_size (x : ByteArray) (n k : Nat) (h : k * n ≤ x.size) : ∀ s ∈ cutL x n k, s.size = n := fun s hs => by
  unfold cutL at hs
  obtain ⟨i, hi, rfl⟩ := List.mem_map.1 hs
  have hi' := List.mem_range.1 hi
  refine cutS_size x n i ?_
  have := Nat.mul_le_mul_right n (show i + 1 ≤ k from hi')
  rw [Nat.succ_mul] at this
  omega

theorem bothL_size (x y : ByteArray) (n k : Nat) (h : k * n ≤ x.size) : ∀ s ∈ bothL x y n k, s.size = n := fun s hs => by
  unfold bothL at hs
  obtain ⟨i, hi, rfl⟩ := List.mem_map.1 hs
  have hi' := List.mem_range.1 hi
  rw [xorS_size]
  refine cutS_size x n i ?_
  have := Nat.mul_le_mul_right n (show i + 1 ≤ k from hi')
  rw [Nat.succ_mul] at this
  omega

theorem parS_at (k : Nat) (l : List ByteArray) (n i p : Nat) (h : p < n) : byteAt (parS k l n i) p = parB k l i p := by
  unfold byteAt parS
  simp only [List.getElem?_toArray]
  rw [List.getElem?_map, List.getElem?_range h]
  rfl

theorem par_xor (x y : ByteArray) (n k i : Nat) (h : k * n ≤ x.size) : xorS (parS k (cutL x n k) n i) (parS k (cutL y n k) n i) = parS k (bothL x y n k) n i := by
  unfold xorS
  rw [parS_size]
  unfold parS
  congr 2
  apply List.map_congr_left
  intro p hp
  have hp' := List.mem_range.1 hp
  have e1 := parS_at k (cutL x n k) n i p hp'
  have e2 := parS_at k (cutL y n k) n i p hp'
  unfold parS at e1 e2
  rw [e1, e2]
  unfold parB
  rw [← GfU.sum_xor]
  apply GfU.sum_congr
  intro j hj
  have g1 : (cutL x n k).getD j ⟨#[]⟩ = cutS x n j := by unfold cutL; rw [List.getD_eq_getElem?_getD, List.getElem?_map, List.getElem?_range hj]; rfl
  have g2 : (cutL y n k).getD j ⟨#[]⟩ = cutS y n j := by unfold cutL; rw [List.getD_eq_getElem?_getD, List.getElem?_map, List.getElem?_range hj]; rfl
  have g3 : (bothL x y n k).getD j ⟨#[]⟩ = xorS (cutS x n j) (cutS y n j) := by unfold bothL; rw [List.getD_eq_getElem?_getD, List.getElem?_map, List.getElem?_range hj]; rfl
  have hsz : (cutS x n j).size = n := by
    refine cutS_size x n j ?_
    have := Nat.mul_le_mul_right n (show j + 1 ≤ k from hj)
    rw [Nat.succ_mul] at this
    omega
  rw [g1, g2, g3, xorS_at _ _ _ (by rw [hsz]; exact hp'), GfU.ml_xor]

theorem run_min3 {P : Program} (ts : Array TypeId) (t : TypeId) (a b : Nat) (W : World) :
    (Builtin.min_ ts t #[.int .i64 (a : Int), .int .i64 (b : Int), .int .i64 300]).run P W = .ok (.int .i64 ((min (min a b) 300 : Nat) : Int)) W := by
  simp [Builtin.min_, Builtin.min2]
  omega

/-- Parity, of shards that are as it asks -/
theorem Parity_ok (k m n : Nat) (l : List ByteArray) (A : Option Addr) (c : Nat) (w : World) (h1 : 1 ≤ k) (h2 : k + m ≤ 255) (hl : l.length = k) (hs : ∀ s ∈ l, s.size = n) (hn : n ≤ 2052) (h : StrsAt w A l) :
    Calls Try.prog 32 #[.int .i64 (k : Int), .int .i64 (m : Int), .slice A k c] w fun e w' =>
      ∃ g, e = .returned (.tuple #[.slice (some ⟨g, 0, none⟩) m m, .int .i64 0]) ∧ StrBlk w' g (parL k m l n) ∧ Below w.heap.size w w' := by
  have h3 := Parity_any (k : Int) (m : Int) A c l w h (by omega) (fun s hs' => by rw [hs s hs']; omega)
  rw [hl] at h3
  refine h3.mono fun e w' ⟨ha, hb⟩ => ?_
  obtain ⟨he, hd⟩ := all_even hl h1 hs
  unfold ParityAns at ha
  rw [if_pos (codeB_yes h1 h2), if_pos ⟨by rw [hl], he⟩, hd, if_neg (by omega), Int.toNat_natCast, Int.toNat_natCast] at ha
  obtain ⟨g, e1, _, e3⟩ := ha
  exact ⟨g, e1, e3, hb⟩

end Go.Proofs.Ytmnciipfepeccaa
