/- What the document's own answers for matrices do with rows: rows of a matrix, a row plus another one scaled; one contract a function; no condition but the form's reach. -/
import Derived.Test.YtmnciipfepeccaaMatRef
import Derived.Deep.RegionHeld3
import Derived.Deep.AppendLies
namespace Go.Proofs.Ytmnciipfepeccaa
open Go.RowKit

/-- a row as bytes -/
def rowB (n : Nat) (f : Nat → UInt8) : ByteArray := ⟨((List.range n).map f).toArray⟩

/-- n rows as values -/
def rowsV (r c : Nat) (A : Nat → Nat → UInt8) : List Value := (List.range r).map fun i => Value.string (rowB c (A i))

theorem rowB_size (n : Nat) (f : Nat → UInt8) : (rowB n f).size = n := by
  show ((List.range n).map f).toArray.size = n; simp

theorem rowB_at (n : Nat) (f : Nat → UInt8) (j : Nat) (h : j < (rowB n f).size) : (rowB n f)[j]'h = f j := by
  have h' : j < n := by rw [rowB_size] at h; exact h
  have e : (rowB n f).data[j]? = some (f j) := by unfold rowB; simp [List.getElem?_range h']
  have hj : j < (rowB n f).data.size := h
  rw [Array.getElem?_eq_getElem hj, Option.some.injEq] at e
  exact e

theorem rowB_congr (n : Nat) {f g : Nat → UInt8} (h : ∀ j, j < n → f j = g j) : rowB n f = rowB n g := by
  unfold rowB
  rw [List.map_congr_left fun j hj => h j (List.mem_range.1 hj)]

theorem rowsV_length (r c : Nat) (A : Nat → Nat → UInt8) : (rowsV r c A).length = r := by simp [rowsV]

theorem rowsV_at (r c : Nat) (A : Nat → Nat → UInt8) (i : Nat) (h : i < r) : (rowsV r c A)[i]? = some (.string (rowB c (A i))) := by
  simp [rowsV, List.getElem?_map, List.getElem?_range h]

theorem rowsV_set (r c : Nat) (A A' : Nat → Nat → UInt8) (i : Nat) (h : i < r) (he : ∀ a j, a < r → j < c → a ≠ i → A' a j = A a j) : (rowsV r c A).set i (.string (rowB c (A' i))) = rowsV r c A' := by
  apply List.ext_getElem?
  intro p
  rw [List.getElem?_set]
  by_cases e : i = p
  · subst e; rw [if_pos rfl, if_pos (by rw [rowsV_length]; exact h), rowsV_at r c A' i h]
  · rw [if_neg e]
    by_cases hp : p < r
    · rw [rowsV_at r c A p hp, rowsV_at r c A' p hp, rowB_congr c fun j hj => he p j hp hj fun x => e x.symm]
    · rw [List.getElem?_eq_none (by rw [rowsV_length]; omega), List.getElem?_eq_none (by rw [rowsV_length]; omega)]

theorem take_rows (r c : Nat) (A : Nat → Nat → UInt8) (i : Nat) (h : i < r) : (rowsV r c A).take i ++ [.string (rowB c (A i))] = (rowsV r c A).take (i + 1) := by
  have hl : i < (rowsV r c A).length := by rw [rowsV_length]; exact h
  rw [List.take_succ_eq_append_getElem hl]
  have e := rowsV_at r c A i h
  rw [List.getElem?_eq_getElem hl, Option.some.injEq] at e
  rw [e]

/-- a piece of a text that is a row -/
theorem extract_row (s : ByteArray) (r c i : Nat) (hs : s.size = r * c) (hi : i < r) : s.extract (i * c) (i * c + c) = rowB c (cel s c i) := by
  have hle : i * c + c ≤ r * c := by have : (i + 1) * c ≤ r * c := Nat.mul_le_mul_right c hi; rw [Nat.add_mul, Nat.one_mul] at this; exact this
  apply ByteArray.ext
  apply Array.ext_getElem?
  intro j
  rw [ByteArray.data_extract, Array.getElem?_extract]
  have hd : s.data.size = s.size := rfl
  unfold rowB cel
  by_cases hj : j < c
  · have hd2 : i * c + j < s.data.size := by omega
    rw [if_pos (by omega)]
    show s.data[i * c + j]? = ((List.range c).map fun j => s.data[i * c + j]?.getD 0).toArray[j]?
    rw [List.getElem?_toArray (xs := (List.range c).map fun j => s.data[i * c + j]?.getD 0), List.getElem?_map, List.getElem?_range hj, Array.getElem?_eq_getElem hd2, Option.map_some, Array.getElem?_eq_getElem hd2]; rfl
  · rw [if_neg (by omega)]
    show none = ((List.range c).map fun j => s.data[i * c + j]?.getD 0).toArray[j]?
    rw [List.getElem?_toArray, List.getElem?_eq_none (by simp; omega)]

theorem Try.infoStr : (Try.prog.info? 9).map (fun i => (i.zero, i.size, i.bytes)) = some (some (.string ⟨#[]⟩), 1, 16) := by kernel_rfl

/-- the bytes of a row, as cells -/
def cellsR (n : Nat) (f : Nat → UInt8) : List Value := (List.range n).map fun j => Value.int .u8 ((f j).toNat : Int)

theorem cellsR_take (n : Nat) (f : Nat → UInt8) (k : Nat) (h : k < n) : (cellsR n f).take k ++ [.int .u8 ((f k).toNat : Int)] = (cellsR n f).take (k + 1) := by
  have hl : k < (cellsR n f).length := by simp [cellsR]; exact h
  rw [List.take_succ_eq_append_getElem hl]
  simp [cellsR]

theorem run_row_text {P : Program} {w : World} {H g n cap : Nat} {e src dst : TypeId} {f : Nat → UInt8} (hown : w.ownsRow H e 1 (.slice (some ⟨g, 0, none⟩) n cap) n (cellsR n f))
    (hs : P.underlying src = some (.slice e)) (he : P.underlying e = some (.int .u8)) (hd : P.underlying dst = some .string) :
    (convert src dst (.slice (some ⟨g, 0, none⟩) n cap)).run P w = .ok (.string (rowB n f)) w := by
  have hl : ((List.range n).map f).length = n := by simp
  have h := run_convert_bytes_back (P := P) w src dst e ⟨g, 0, none⟩ cap ((List.range n).map f) hs he hd (fun j hj => by
    have hj' : j < n := by omega
    have h1 := hown.cellAt j (by omega)
    unfold cellsR at h1
    rw [List.getElem?_map, List.getElem?_range hj'] at h1
    rw [addr_head, h1]; simp)
  rw [hl] at h
  exact h

/-- a row whose bytes are each times a, as a text -/
theorem scl_row (a : Nat) (x : UInt8) (hx : x.toNat = a) (n : Nat) (f : Nat → UInt8) : (⟨(scl a (rowB n f)).toArray⟩ : ByteArray) = rowB n fun j => GfU.ml x (f j) := by
  subst hx
  unfold scl rowB
  simp only [List.map_map]
  rfl

end Go.Proofs.Ytmnciipfepeccaa
