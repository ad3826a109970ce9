/- What the document's own answer picks; contracts; no condition but the form's reach. -/
import Derived.Test.YtmnciipfepeccaaMatRows
import Derived.BigRegion
import Derived.Deep.RegionWith
namespace Go.Proofs.Ytmnciipfepeccaa
open Go.RowKit

theorem below_pick {w w1 : World} {A B : Obj} (h : Below ((w.alloc A).alloc B).heap.size ((w.alloc A).alloc B) w1) : Below w.heap.size w w1 :=
  (((Below.refl _ w).alloc (Nat.le_refl _) _).alloc (by simp) _).trans (h.mono (by simp; omega))

/-- a cell of an old block, wherever it points -/
theorem cell_kept {B : Nat} {w w1 : World} (h : Below B w w1) (a : Addr) (ha : a.block < B) : w1.cell? a = w.cell? a := by
  unfold World.cell?
  rw [h.block a.block ha]

def pickF (L : List Int) (A : Nat → Nat → UInt8) (i j : Nat) : UInt8 := A (L.getD i 0).toNat j

theorem join_rc (r c : Nat) (R : Nat → Nat → UInt8) (k : Nat) (hk : k < r) : (⟨((tabL r c R).take (k * c)).toArray⟩ : ByteArray) ++ rowB c (R k) = ⟨((tabL r c R).take ((k + 1) * c)).toArray⟩ := by
  have hl : k * c + c ≤ r * c := by have := Nat.mul_le_mul_right c (show k + 1 ≤ r from hk); rw [Nat.succ_mul] at this; exact this
  have e : (tabL r c R).take (k * c) ++ (List.range c).map (R k) = (tabL r c R).take ((k + 1) * c) := by
    apply List.ext_getElem?
    intro p
    rw [Nat.succ_mul, List.getElem?_take, List.getElem?_append, List.length_take, tab_length, Nat.min_eq_left (by omega)]
    by_cases h1 : p < k * c
    · rw [if_pos h1, if_pos (by omega), List.getElem?_take, if_pos h1]
    · rw [if_neg h1]
      by_cases h2 : p < k * c + c
      · obtain ⟨j, rfl⟩ : ∃ j, p = k * c + j := ⟨p - k * c, by omega⟩
        rw [if_pos h2, tab_place r c R k j hk (by omega), Nat.add_sub_cancel_left, List.getElem?_map, List.getElem?_range (by omega)]; rfl
      · rw [if_neg h2, List.getElem?_eq_none (by simp; omega)]
  apply ByteArray.ext
  rw [ByteArray.data_append]
  show _ ++ ((List.range c).map (R k)).toArray = _
  rw [List.append_toArray, e]

theorem join_rc_size (r c : Nat) (R : Nat → Nat → UInt8) (k : Nat) (hk : k < r) (hr : r ≤ 255) (hc : c ≤ 255) : (⟨((tabL r c R).take (k * c)).toArray⟩ : ByteArray).size + (rowB c (R k)).size ≤ 65025 := by
  rw [rowB_size]
  have hl : k * c + c ≤ r * c := by have := Nat.mul_le_mul_right c (show k + 1 ≤ r from hk); rw [Nat.succ_mul] at this; exact this
  have h2 : r * c ≤ 255 * 255 := Nat.mul_le_mul hr hc
  have : (⟨((tabL r c R).take (k * c)).toArray⟩ : ByteArray).size = ((tabL r c R).take (k * c)).length := by simp [ByteArray.size]
  rw [this, List.length_take, tab_length]
  omega

/-- what is picked of a matrix that may be -/
def pickAns (r c : Nat) (s : ByteArray) (L : List Int) : Value :=
  if ∀ i (h : i < L.length), 0 ≤ L[i] ∧ L[i] < (r : Int) then
    if 255 < L.length then .tuple #[.agg #[.int .i64 0, .int .i64 0, .string ⟨#[]⟩], .int .i64 2]
    else if L.length = 0 then .tuple #[.agg #[.int .i64 0, .int .i64 0, .string ⟨#[]⟩], .int .i64 1]
    else .tuple #[.agg #[.int .i64 (L.length : Int), .int .i64 (c : Int), .string ⟨(tabL L.length c (pickF L (cel s c))).toArray⟩], .int .i64 0]
  else .tuple #[.agg #[.int .i64 0, .int .i64 0, .string ⟨#[]⟩], .int .i64 1]

end Go.Proofs.Ytmnciipfepeccaa
