/- What the document's own answers for matrices do with rows: rows of a matrix, a row plus another one scaled; one contract a function; no condition but the form's reach. -/
import Derived.Test.YtlmcpnlnbjloaaaMatRef
import Derived.Deep.RegionHeld3
import Derived.Deep.AppendLies
namespace Go.Proofs.Ytlmcpnlnbjloaaa
open Go.RowKit

/-- a row as bytes -/
def rowB (n : Nat) (f : Nat → UInt8) : ByteArray := ⟨((List.range n).map f).toArray⟩

/-- n rows as values -/
def rowsV (r c : Nat) (A : Nat → Nat → UInt8) : List Value := (List.range r).map fun i => Value.string (rowB c (A i))

theorem rowB_size (n : Nat) (f : Nat → UInt8) : (rowB n f).size = n := by
  show ((List.range n).map f).toArray.size = n; simp

theorem rowB_at (n : Nat) (f : Nat → UInt8) (j : Nat) (h : j < (rowB n f).size) : (rowB n f)[j]'h = f j := by
  have h' : j < n := by rw [rowB_size] at h; exact h
  have e : (rowB n f).data[j]? = some (f j) := by unfold rowB; simp [List.getElem?_range h']
  have hj : j < (rowB n f).data.size := h
  rw [Array.getElem?_eq_getElem hj, Option.some.injEq] at e
  exact e

theorem rowB_congr (n : Nat) {f g : Nat → UInt8} (h : ∀ j, j < n → f j = g j) : rowB n f = rowB n g := by
  unfold rowB
  rw [List.map_congr_left fun j hj => h j (List.mem_range.1 hj)]

theorem rowsV_length (r c : Nat) (A : Nat → Nat → UInt8) : (rowsV r c A).length = r := by simp [rowsV]

theorem rowsV_at (r c : Nat) (A : Nat → Nat → UInt8) (i : Nat) (h : i < r) : (rowsV r c A)[i]? = some (.string (rowB c (A i))) := by
  simp [rowsV, List.getElem?_map, List.getElem?_range h]

theorem rowsV_set (r c : Nat) (A A' : Nat → Nat → UInt8) (i : Nat) (h : i < r) (he : ∀ a j, a < r → j < c → a ≠ i → A' a j = A a j) : (rowsV r c A).set i (.string (rowB c (A' i))) = rowsV r c A' := by
  apply List.ext_getElem?
  intro p
  rw [List.getElem?_set]
  by_cases e : i = p
  · subst e; rw [if_pos rfl, if_pos (by rw [rowsV_length]; exact h), rowsV_at r c A' i h]
  · rw [if_neg e]
    by_cases hp : p < r
    · rw [rowsV_at r c A p hp, rowsV_at r c A' p hp, rowB_congr c fun j hj => he p j hp hj fun x => e x.symm]
    · rw [List.getElem?_eq_none (by rw [rowsV_length]; omega), List.getElem?_eq_none (by rw [rowsV_length]; omega)]

theorem take_rows (r c : Nat) (A : Nat → Nat → UInt8) (i : Nat) (h : i < r) : (rowsV r c A).take i ++ [.string (rowB c (A i))] = (rowsV r c A).take (i + 1) := by
  have hl : i < (rowsV r c A).length := by rw [rowsV_length]; exact h
  rw [List.take_succ_eq_append_getElem hl]
  have e := rowsV_at r c A i h
  rw [List.getElem?_eq_getElem hl, Option.some.injEq] at e
  rw [e]

/-- a piece of a text that is a row -/
theorem extract_row (s : ByteArray) (r c i : Nat) (hs : s.size = r * c) (hi : i < r) : s.extract (i * c) (i * c + c) = rowB c (cel s c i) := by
  have hle : i * c + c ≤ r * c := by have : (i + 1) * c ≤ r * c := Nat.mul_le_mul_right c hi; rw [Nat.add_mul, Nat.one_mul] at this; exact this
  apply ByteArray.ext
  apply Array.ext_getElem?
  intro j
  rw [ByteArray.data_extract, Array.getElem?_extract]
  have hd : s.data.size = s.size := rfl
  unfold rowB cel
  by_cases hj : j < c
  · have hd2 : i * c + j < s.data.size := by omega
    rw [if_pos (by omega)]
    show s.data[i * c + j]? = ((List.range c).map fun j => s.data[i * c + j]?.getD 0).toArray[j]?
    rw [List.getElem?_toArray (xs := (List.range c).map fun j => s.data[i * c + j]?.getD 0), List.getElem?_map, List.getElem?_range hj, Array.getElem?_eq_getElem hd2, Option.map_some, Array.getElem?_eq_getElem hd2]; rfl
  · rw [if_neg (by omega)]
    show none = ((List.range c).map fun j => s.data[i * c + j]?.getD 0).toArray[j]?
    rw [List.getElem?_toArray, List.getElem?_eq_none (by simp; omega)]

theorem Try.infoStr : (Try.prog.info? 9).map (fun i => (i.zero, i.size, i.bytes)) = some (some (.string ⟨#[]⟩), 1, 16) := by kernel_rfl

set_option maxRecDepth 20000 in
set_option maxHeartbeats 1000000 in
theorem rrows_any (r c : Nat) (s : ByteArray) (w : World) (h1 : 1 ≤ r) (h2 : r ≤ 255) (h3 : 1 ≤ c) (h4 : c ≤ 255) (hs : s.size = r * c) :
    Calls Try.prog 41 #[.agg #[.int .i64 (r : Int), .int .i64 (c : Int), .string s]] w fun e w' =>
      ∃ g cap, e = .returned (.slice (some ⟨g, 0, none⟩) r cap) ∧ w'.ownsRow (w.heap.size + 1) 9 1 (.slice (some ⟨g, 0, none⟩) r cap) r (rowsV r c (cel s c)) ∧ Below w.heap.size w w' := by
  obtain ⟨i0, hi, hz0, hz1, hz2⟩ := info_parts Try.infoStr
  have HS := Lib.hid hs
  clear hs
  go_enter Try.func41, Try.ntmps41
  go_wp2_with fail
  obtain ⟨s0, bA⟩ := blk1 w (.cells #[.int .i64 (r : Int), .int .i64 (c : Int), .string s] 23)
  have BW : Hid (Below w.heap.size w (w.alloc (.cells #[.int .i64 (r : Int), .int .i64 (c : Int), .string s] 23))) := (Below.refl _ w).alloc (Nat.le_refl _) _
  generalize w.alloc (.cells #[.int .i64 (r : Int), .int .i64 (c : Int), .string s] 23) = w0 at s0 bA BW ⊢
  have S0 := Lib.hid s0
  have BA := Lib.hid bA
  clear s0 bA
  go_loopw [3, 4] (fun v i wr => ∃ k : Nat, k ≤ r ∧ i = .int .i64 (k : Int) ∧ Hid (wr.ownsRow (w.heap.size + 1) 9 1 v k ((rowsV r c (cel s c)).take k)) ∧ Hid (Below (w.heap.size + 1) w0 wr)) (fun _ i _ => r - (intOf i).toNat)
  case atStart => exact ⟨0, by omega, rfl, World.ownsRow_nil _ _ _ _, Below.refl _ _⟩
  case round =>
    obtain ⟨k, hk, rfl, hown, hbel⟩ := hrel
    have hq : w.heap.size + 1 ≤ wr.heap.size := by have := hbel.out.size; have := S0.out; omega
    have cA0 := blk_cell (j := 0) ((hbel.out.block w.heap.size (by omega)).trans BA.out) rfl
    have cA1 := blk_cell (j := 1) ((hbel.out.block w.heap.size (by omega)).trans BA.out) rfl
    have cA2 := blk_cell (j := 2) ((hbel.out.block w.heap.size (by omega)).trans BA.out) rfl
    by_cases hlt : k < r
    · have y1 : k * c + c ≤ r * c := by have : (k + 1) * c ≤ r * c := Nat.mul_le_mul_right c hlt; rw [Nat.add_mul, Nat.one_mul] at this; exact this
      have y2 : r * c ≤ 65025 := Nat.mul_le_mul h2 h4
      have z1 : 0 ≤ (k : Int) * (c : Int) := by rw [← Int.natCast_mul]; omega
      have z2 : (k : Int) * (c : Int) + (c : Int) ≤ (s.size : Int) := by rw [← Int.natCast_mul, HS.out]; omega
      have z3 : (k : Int) * (c : Int) + (c : Int) ≤ 65025 := by rw [← Int.natCast_mul]; omega
      have z4 : ((k : Int) * (c : Int)).toNat = k * c := by rw [← Int.natCast_mul]; omega
      have z5 : ((k : Int) * (c : Int) + (c : Int)).toNat = k * c + c := by rw [← Int.natCast_mul]; omega
      have ER := Lib.hid (extract_row s r c k HS.out hlt)
      go_wp2_with (at_builtin; refine wpList_append_own _ rfl _ _ 62 rfl (w.heap.size + 1) 9 i0 (.string ⟨#[]⟩) 1 16 Try.underlying62 hi hz0 hz1 hz2 rfl (by decide) _ _ _ rfl (hown.out.alloc _) ⟨wr.heap.size, 0, none⟩ 1 1 [.string (s.extract (k * c) (k * c + c))] rfl rfl ?c1 ?c2 ?c3 ?c4 ?c5 ?_)
      case c1 => exact cell_one_new _ _ _
      case c2 => intro u hu; simp at hu; subst hu; rfl
      case c3 => unfold maxLen; omega
      case c4 => omega
      case c5 => simp; omega
      intro v' w1 hown' hgrow _
      have HBl := Lib.hid (below_append hown.out hbel.out (by have := S0.out; omega) hgrow)
      rw [ER.out, take_rows r c (cel s c) k hlt] at hown'
      have HO := Lib.hid hown'
      clear hown' hgrow
      go_wp2_with fail
      go_roundw
      case rel => exact ⟨k + 1, by omega, by go_num, HO.out, HBl.out⟩
      case measure => simp [intOf]; omega
    · obtain rfl : k = r := by omega
      rcases hown.out.2 with ⟨_, h⟩ | ⟨g, cap, cur, rfl, _⟩
      · exact absurd h (by omega)
      · have HO : Hid (wr.ownsRow (w.heap.size + 1) 9 1 (.slice (some ⟨g, 0, none⟩) k cap) k (rowsV k c (cel s c))) := by
          have h := hown.out
          rw [List.take_of_length_le (by rw [rowsV_length]; omega)] at h; exact h
        clear hown
        go_wp2_with fail
        go_ret
        exact ⟨g, cap, rfl, HO.out, BW.out.trans (hbel.out.mono (by omega))⟩

/-- the bytes of a row, as cells -/
def cellsR (n : Nat) (f : Nat → UInt8) : List Value := (List.range n).map fun j => Value.int .u8 ((f j).toNat : Int)

theorem cellsR_take (n : Nat) (f : Nat → UInt8) (k : Nat) (h : k < n) : (cellsR n f).take k ++ [.int .u8 ((f k).toNat : Int)] = (cellsR n f).take (k + 1) := by
  have hl : k < (cellsR n f).length := by simp [cellsR]; exact h
  rw [List.take_succ_eq_append_getElem hl]
  simp [cellsR]

theorem run_row_text {P : Program} {w : World} {H g n cap : Nat} {e src dst : TypeId} {f : Nat → UInt8} (hown : w.ownsRow H e 1 (.slice (some ⟨g, 0, none⟩) n cap) n (cellsR n f))
    (hs : P.underlying src = some (.slice e)) (he : P.underlying e = some (.int .u8)) (hd : P.underlying dst = some .string) :
    (convert src dst (.slice (some ⟨g, 0, none⟩) n cap)).run P w = .ok (.string (rowB n f)) w := by
  have hl : ((List.range n).map f).length = n := by simp
  have h := run_convert_bytes_back (P := P) w src dst e ⟨g, 0, none⟩ cap ((List.range n).map f) hs he hd (fun j hj => by
    have hj' : j < n := by omega
    have h1 := hown.cellAt j (by omega)
    unfold cellsR at h1
    rw [List.getElem?_map, List.getElem?_range hj'] at h1
    rw [addr_head, h1]; simp)
  rw [hl] at h
  exact h

/-- a row whose bytes are each times a, as a text -/
theorem scl_row (a : Nat) (x : UInt8) (hx : x.toNat = a) (n : Nat) (f : Nat → UInt8) : (⟨(scl a (rowB n f)).toArray⟩ : ByteArray) = rowB n fun j => GfU.ml x (f j) := by
  subst hx
  unfold scl rowB
  simp only [List.map_map]
  rfl

set_option maxRecDepth 20000 in
set_option maxHeartbeats 1000000 in
theorem rplus_any (n : Nat) (f g : Nat → UInt8) (x : UInt8) (w : World) (h1 : 1 ≤ n) (h2 : n ≤ 255) :
    Calls Try.prog 44 #[.string (rowB n f), .int .u8 (x.toNat : Int), .string (rowB n g)] w fun e w' =>
      e = .returned (.string (rowB n fun j => f j ^^^ GfU.ml x (g j))) ∧ Below w.heap.size w w' := by
  obtain ⟨i0, hi, hz0, hz1, hz2⟩ := info_parts Try.infoU8
  have SF := Lib.hid (rowB_size n f)
  have SG := Lib.hid (rowB_size n g)
  have RR := Lib.hid (scl_row x.toNat x rfl n g)
  go_enter Try.func44, Try.ntmps44
  go_wp2_with fail
  refine (rscale_any x.toNat (rowB n g) _ (GfU.toNat_le x) (by rw [SG.out]; omega)).mono ?_
  rintro e w1 ⟨rfl, hb1⟩
  rw [RR.out]
  have B1 := Lib.hid hb1
  clear hb1
  go_wp2_with fail
  go_loopw [8, 9] (fun v i wr => ∃ k : Nat, k ≤ n ∧ i = .int .i64 (k : Int) ∧ Hid (wr.ownsRow w.heap.size 5 1 v k ((cellsR n fun j => f j ^^^ GfU.ml x (g j)).take k)) ∧ Hid (Below w.heap.size w wr)) (fun _ i _ => n - (intOf i).toNat)
  case atStart => exact ⟨0, by omega, rfl, World.ownsRow_nil _ _ _ _, B1.out⟩
  case round =>
    obtain ⟨k, hk, rfl, hown, hbel⟩ := hrel
    have sf : ((rowB n f).size : Int) = (n : Int) := by rw [SF.out]
    have sg : ((rowB n fun j => GfU.ml x (g j)).size : Int) = (n : Int) := by rw [rowB_size]
    by_cases hlt : k < n
    · have q1 : k < (rowB n f).size := by rw [SF.out]; exact hlt
      have q2 : k < (rowB n fun j => GfU.ml x (g j)).size := by rw [rowB_size]; exact hlt
      have e0 : bits .xor .u8 ((((rowB n f)[k]'q1).toNat : Nat) : Int) ((((rowB n fun j => GfU.ml x (g j))[k]'q2).toNat : Nat) : Int) = ((f k ^^^ GfU.ml x (g k)).toNat : Int) := by
        rw [rowB_at n f k q1, rowB_at n _ k q2, u8_xor_nat _ _ (f k).toNat_lt (GfU.ml x (g k)).toNat_lt, ← UInt8.toNat_xor]
      go_wp2_with fail
      have hsz := hbel.out.size
      go_region_held3 (fun _ => True) (trivial)
        ((refine step_append_lies _ (by rfl) _ _ 68 (by rfl) w.heap.size 5 i0 (.int .u8 0) 1 1 Try.underlying68 hi hz0 hz1 hz2 rfl (by decide) _ _ _ (by rfl) ((show World.ownsRow wr.drew _ _ _ _ _ _ from hown.out).alloc _) ⟨wr.heap.size, 0, none⟩ 1 1 [.int .u8 ((f k ^^^ GfU.ml x (g k)).toNat : Int)] (by rfl) rfl (cell_one_new wr.drew _ _) (by intro u hu; simp at hu; subst hu; rfl) (by omega) (by unfold maxLen; omega) (by omega) (by simp; omega) (wr.heap.size + 1) (by simp) ?_; intro gg cap w9 hown9 hgrow9 hat9 hlt9))
      all_goals
        have HBl : Hid (Below w.heap.size w w9) := below_append (show World.ownsRow wr.drew _ _ _ _ _ _ from hown.out) hbel.out.drew (Nat.le_refl _) hgrow9
        rw [cellsR_take n (fun j => f j ^^^ GfU.ml x (g j)) k hlt] at hown9
        have HO := Lib.hid hown9
        clear hown9 hgrow9
        try go_wp2_with fail
        go_roundw
        case rel => exact ⟨k + 1, by omega, by go_num, HO.out, HBl.out⟩
        case measure => simp [intOf]; omega
    · obtain rfl : k = n := by omega
      rcases hown.out.2 with ⟨_, h⟩ | ⟨gg, cap, cur, rfl, _⟩
      · exact absurd h (by omega)
      · have hO := hown.out
        rw [List.take_of_length_le (by simp [cellsR])] at hO
        have hcv := run_row_text (P := Try.prog) (w := wr) (src := 68) (dst := 9) hO Try.underlying68 Try.underlying5 Try.underlying9
        clear hO hown
        go_wp2_with fail
        go_ret
        exact ⟨rfl, hbel.out⟩

end Go.Proofs.Ytlmcpnlnbjloaaa
