/- Pieces of a text as steps of a walk; one new cell; no condition but the range. -/
import Derived.Test.YtlhcaankfhdakaaBk
namespace Go.Proofs.Ytlhcaankfhdakaa
namespace Bk
open Go.RowKit

theorem text_size (L : List UInt8) : (⟨L.toArray⟩ : ByteArray).size = L.length := by
  show L.toArray.size = _
  simp

theorem textL_size (s : ByteArray) : s.data.toList.length = s.size := Array.length_toList

theorem extract_list (s : ByteArray) (a b : Nat) : s.extract a b = ⟨((s.data.toList.drop a).take (b - a)).toArray⟩ := by
  apply ByteArray.ext
  apply Array.toList_inj.1
  simp [ByteArray.data_extract, Array.toList_extract, List.extract_eq_take_drop]

theorem str_from (s : ByteArray) (a : Nat) (h : a ≤ s.size) (i : Int) (hi : i = (a : Int)) (W : World) :
    (Instr.slice 9 (.string s) (some (.int .i64 i)) none none).run Try.prog W = .ok (.string ⟨(s.data.toList.drop a).toArray⟩) W := by
  subst hi
  rw [run_slice_string_l W 9 s Try.underlying9 .i64 _ (by omega) (by omega), extract_list, Int.toNat_natCast, List.take_of_length_le (by rw [List.length_drop, Array.length_toList]; exact Nat.le_refl _)]

theorem str_to (s : ByteArray) (b : Nat) (h : b ≤ s.size) (j : Int) (hj : j = (b : Int)) (W : World) :
    (Instr.slice 9 (.string s) none (some (.int .i64 j)) none).run Try.prog W = .ok (.string ⟨(s.data.toList.take b).toArray⟩) W := by
  subst hj
  rw [run_slice_string_h W 9 s Try.underlying9 .i64 _ (by omega) (by omega), extract_list, Int.toNat_natCast, List.drop_zero, Nat.sub_zero]

theorem str_mid (s : ByteArray) (a b : Nat) (h1 : a ≤ b) (h : b ≤ s.size) (i j : Int) (hi : i = (a : Int)) (hj : j = (b : Int)) (W : World) :
    (Instr.slice 9 (.string s) (some (.int .i64 i)) (some (.int .i64 j)) none).run Try.prog W = .ok (.string ⟨((s.data.toList.drop a).take (b - a)).toArray⟩) W := by
  subst hi hj
  rw [run_slice_string W 9 s .i64 .i64 _ _ Try.underlying9 (by omega) (by omega) (by omega), extract_list, Int.toNat_natCast, Int.toNat_natCast]

theorem str_at (s : ByteArray) (a : Nat) (b : UInt8) (h : s.data.toList[a]? = some b) (i : Int) (hi : i = (a : Int)) (W : World) :
    (Instr.index 9 (.string s) (.int .i64 i)).run Try.prog W = .ok (.int .u8 (b.toNat : Int)) W := by
  subst hi
  have hl : a < s.data.toList.length := (List.getElem?_eq_some_iff.1 h).1
  have hl2 : a < s.size := by rw [Array.length_toList] at hl; exact hl
  rw [run_index_string W 9 s .i64 _ Try.underlying9, dif_pos (by omega)]
  congr 3
  rw [List.getElem?_eq_getElem hl] at h
  rw [← Option.some.inj h]
  simp only [Int.toNat_natCast]
  rfl

theorem str_one {w : World} {g : Nat} {t : TypeId} {u : Value} (h : w.heap[g]? = some (.cells #[u] t (0, 0))) : ∀ j v, [u][j]? = some v → w.cell? ((⟨g, 0, none⟩ : Addr).add j) = some v := fun j v hv => by
  match j with
  | 0 => simp at hv; subst hv; rw [addr_head]; exact blk_cell h rfl
  | j + 1 => simp at hv

end Bk
end Go.Proofs.Ytlhcaankfhdakaa
