/- Parts of the proof, joined: MatRows, MatPick, StLand; their conditions stand with each. -/
import Derived.Deep.RegionHeld3
import Derived.Deep.AppendLies
import Derived.BigRegion
import Derived.Deep.RegionWith
import Derived.Laws.CopyOwn
import Derived.Test.YtemcjnbgcecinaaA0
import Derived.Test.YtemcjnbgcecinaaA2
import Derived.Test.YtemcjnbgcecinaaA3

/- What the document's own answers for matrices do with rows: rows of a matrix, a row plus another one scaled; one contract a function; no condition but the form's reach. -/
namespace Go.Proofs.Ytemcjnbgcecinaa
open Go.RowKit

/-- a row as bytes -/
def rowB (n : Nat) (f : Nat → UInt8) : ByteArray := ⟨((List.range n).map f).toArray⟩

/-- n rows as values -/
def rowsV (r c : Nat) (A : Nat → Nat → UInt8) : List Value := (List.range r).map fun i => Value.string (rowB c (A i))

theorem rowB_size (n : Nat) (f : Nat → UInt8) : (rowB n f).size = n := by
  show ((List.range n).map f).toArray.size = n; simp

theorem rowB_at (n : Nat) (f : Nat → UInt8) (j : Nat) (h : j < (rowB n f).size) : (rowB n f)[j]'h = f j := by
  have h' : j < n := by rw [rowB_size] at h; exact h
  have e : (rowB n f).data[j]? = some (f j) := by unfold rowB; simp [List.getElem?_range h']
  have hj : j < (rowB n f).data.size := h
  rw [Array.getElem?_eq_getElem hj, Option.some.injEq] at e
  exact e

theorem rowB_congr (n : Nat) {f g : Nat → UInt8} (h : ∀ j, j < n → f j = g j) : rowB n f = rowB n g := by
  unfold rowB
  rw [List.map_congr_left fun j hj => h j (List.mem_range.1 hj)]

theorem rowsV_length (r c : Nat) (A : Nat → Nat → UInt8) : (rowsV r c A).length = r := by simp [rowsV]

theorem rowsV_at (r c : Nat) (A : Nat → Nat → UInt8) (i : Nat) (h : i < r) : (rowsV r c A)[i]? = some (.string (rowB c (A i))) := by
  simp [rowsV, List.getElem?_map, List.getElem?_range h]

theorem rowsV_set (r c : Nat) (A A' : Nat → Nat → UInt8) (i : Nat) (h : i < r) (he : ∀ a j, a < r → j < c → a ≠ i → A' a j = A a j) : (rowsV r c A).set i (.string (rowB c (A' i))) = rowsV r c A' := by
  apply List.ext_getElem?
  intro p
  rw [List.getElem?_set]
  by_cases e : i = p
  · subst e; rw [if_pos rfl, if_pos (by rw [rowsV_length]; exact h), rowsV_at r c A' i h]
  · rw [if_neg e]
    by_cases hp : p < r
    · rw [rowsV_at r c A p hp, rowsV_at r c A' p hp, rowB_congr c fun j hj => he p j hp hj fun x => e x.symm]
    · rw [List.getElem?_eq_none (by rw [rowsV_length]; omega), List.getElem?_eq_none (by rw [rowsV_length]; omega)]

theorem take_rows (r c : Nat) (A : Nat → Nat → UInt8) (i : Nat) (h : i < r) : (rowsV r c A).take i ++ [.string (rowB c (A i))] = (rowsV r c A).take (i + 1) := by
  have hl : i < (rowsV r c A).length := by rw [rowsV_length]; exact h
  rw [List.take_succ_eq_append_getElem hl]
  have e := rowsV_at r c A i h
  rw [List.getElem?_eq_getElem hl, Option.some.injEq] at e
  rw [e]

/-- a piece of a text that is a row -/
theorem extract_row (s : ByteArray) (r c i : Nat) (hs : s.size = r * c) (hi : i < r) : s.extract (i * c) (i * c + c) = rowB c (cel s c i) := by
  have hle : i * c + c ≤ r * c := by have : (i + 1) * c ≤ r * c := Nat.mul_le_mul_right c hi; rw [Nat.add_mul, Nat.one_mul] at this; exact this
  apply ByteArray.ext
  apply Array.ext_getElem?
  intro j
  rw [ByteArray.data_extract, Array.getElem?_extract]
  have hd : s.data.size = s.size := rfl
  unfold rowB cel
  by_cases hj : j < c
  · have hd2 : i * c + j < s.data.size := by omega
    rw [if_pos (by omega)]
    show s.data[i * c + j]? = ((List.range c).map fun j => s.data[i * c + j]?.getD 0).toArray[j]?
    rw [List.getElem?_toArray (xs := (List.range c).map fun j => s.data[i * c + j]?.getD 0), List.getElem?_map, List.getElem?_range hj, Array.getElem?_eq_getElem hd2, Option.map_some, Array.getElem?_eq_getElem hd2]; rfl
  · rw [if_neg (by omega)]
    show none = ((List.range c).map fun j => s.data[i * c + j]?.getD 0).toArray[j]?
    rw [List.getElem?_toArray, List.getElem?_eq_none (by simp; omega)]

theorem Try.infoStr : (Try.prog.info? 9).map (fun i => (i.zero, i.size, i.bytes)) = some (some (.string ⟨#[]⟩), 1, 16) := by kernel_rfl

set_option maxRecDepth 20000 in
set_option maxHeartbeats 1000000 in
theorem rrows_any (r c : Nat) (s : ByteArray) (w : World) (h1 : 1 ≤ r) (h2 : r ≤ 255) (h3 : 1 ≤ c) (h4 : c ≤ 255) (hs : s.size = r * c) :
    Calls Try.prog 51 #[.agg #[.int .i64 (r : Int), .int .i64 (c : Int), .string s]] w fun e w' =>
      ∃ g cap, e = .returned (.slice (some ⟨g, 0, none⟩) r cap) ∧ w'.ownsRow (w.heap.size + 1) 9 1 (.slice (some ⟨g, 0, none⟩) r cap) r (rowsV r c (cel s c)) ∧ Below w.heap.size w w' := by
  obtain ⟨i0, hi, hz0, hz1, hz2⟩ := info_parts Try.infoStr
  have HS := Lib.hid hs
  clear hs
  go_enter Try.func51, Try.ntmps51
  go_wp2_with fail
  obtain ⟨s0, bA⟩ := blk1 w (.cells #[.int .i64 (r : Int), .int .i64 (c : Int), .string s] 59)
  have BW : Hid (Below w.heap.size w (w.alloc (.cells #[.int .i64 (r : Int), .int .i64 (c : Int), .string s] 59))) := (Below.refl _ w).alloc (Nat.le_refl _) _
  generalize w.alloc (.cells #[.int .i64 (r : Int), .int .i64 (c : Int), .string s] 59) = w0 at s0 bA BW ⊢
  have S0 := Lib.hid s0
  have BA := Lib.hid bA
  clear s0 bA
  go_loopw [3, 4] (fun v i wr => ∃ k : Nat, k ≤ r ∧ i = .int .i64 (k : Int) ∧ Hid (wr.ownsRow (w.heap.size + 1) 9 1 v k ((rowsV r c (cel s c)).take k)) ∧ Hid (Below (w.heap.size + 1) w0 wr)) (fun _ i _ => r - (intOf i).toNat)
  case atStart => exact ⟨0, by omega, rfl, World.ownsRow_nil _ _ _ _, Below.refl _ _⟩
  case round =>
    obtain ⟨k, hk, rfl, hown, hbel⟩ := hrel
    have hq : w.heap.size + 1 ≤ wr.heap.size := by have := hbel.out.size; have := S0.out; omega
    have cA0 := blk_cell (j := 0) ((hbel.out.block w.heap.size (by omega)).trans BA.out) rfl
    have cA1 := blk_cell (j := 1) ((hbel.out.block w.heap.size (by omega)).trans BA.out) rfl
    have cA2 := blk_cell (j := 2) ((hbel.out.block w.heap.size (by omega)).trans BA.out) rfl
    by_cases hlt : k < r
    · have y1 : k * c + c ≤ r * c := by have : (k + 1) * c ≤ r * c := Nat.mul_le_mul_right c hlt; rw [Nat.add_mul, Nat.one_mul] at this; exact this
      have y2 : r * c ≤ 65025 := Nat.mul_le_mul h2 h4
      have z1 : 0 ≤ (k : Int) * (c : Int) := by rw [← Int.natCast_mul]; omega
      have z2 : (k : Int) * (c : Int) + (c : Int) ≤ (s.size : Int) := by rw [← Int.natCast_mul, HS.out]; omega
      have z3 : (k : Int) * (c : Int) + (c : Int) ≤ 65025 := by rw [← Int.natCast_mul]; omega
      have z4 : ((k : Int) * (c : Int)).toNat = k * c := by rw [← Int.natCast_mul]; omega
      have z5 : ((k : Int) * (c : Int) + (c : Int)).toNat = k * c + c := by rw [← Int.natCast_mul]; omega
      have ER := Lib.hid (extract_row s r c k HS.out hlt)
      go_wp2_with (at_builtin; refine wpList_append_own _ rfl _ _ 32 rfl (w.heap.size + 1) 9 i0 (.string ⟨#[]⟩) 1 16 Try.underlying32 hi hz0 hz1 hz2 rfl (by decide) _ _ _ rfl (hown.out.alloc _) ⟨wr.heap.size, 0, none⟩ 1 1 [.string (s.extract (k * c) (k * c + c))] rfl rfl ?c1 ?c2 ?c3 ?c4 ?c5 ?_)
      case c1 => exact cell_one_new _ _ _
      case c2 => intro u hu; simp at hu; subst hu; rfl
      case c3 => unfold maxLen; omega
      case c4 => omega
      case c5 => simp; omega
      intro v' w1 hown' hgrow _
      have HBl := Lib.hid (below_append hown.out hbel.out (by have := S0.out; omega) hgrow)
      rw [ER.out, take_rows r c (cel s c) k hlt] at hown'
      have HO := Lib.hid hown'
      clear hown' hgrow
      go_wp2_with fail
      go_roundw
      case rel => exact ⟨k + 1, by omega, by go_num, HO.out, HBl.out⟩
      case measure => simp [intOf]; omega
    · obtain rfl : k = r := by omega
      rcases hown.out.2 with ⟨_, h⟩ | ⟨g, cap, cur, rfl, _⟩
      · exact absurd h (by omega)
      · have HO : Hid (wr.ownsRow (w.heap.size + 1) 9 1 (.slice (some ⟨g, 0, none⟩) k cap) k (rowsV k c (cel s c))) := by
          have h := hown.out
          rw [List.take_of_length_le (by rw [rowsV_length]; omega)] at h; exact h
        clear hown
        go_wp2_with fail
        go_ret
        exact ⟨g, cap, rfl, HO.out, BW.out.trans (hbel.out.mono (by omega))⟩

/-- the bytes of a row, as cells -/
def cellsR (n : Nat) (f : Nat → UInt8) : List Value := (List.range n).map fun j => Value.int .u8 ((f j).toNat : Int)

theorem cellsR_take (n : Nat) (f : Nat → UInt8) (k : Nat) (h : k < n) : (cellsR n f).take k ++ [.int .u8 ((f k).toNat : Int)] = (cellsR n f).take (k + 1) := by
  have hl : k < (cellsR n f).length := by simp [cellsR]; exact h
  rw [List.take_succ_eq_append_getElem hl]
  simp [cellsR]

theorem run_row_text {P : Program} {w : World} {H g n cap : Nat} {e src dst : TypeId} {f : Nat → UInt8} (hown : w.ownsRow H e 1 (.slice (some ⟨g, 0, none⟩) n cap) n (cellsR n f))
    (hs : P.underlying src = some (.slice e)) (he : P.underlying e = some (.int .u8)) (hd : P.underlying dst = some .string) :
    (convert src dst (.slice (some ⟨g, 0, none⟩) n cap)).run P w = .ok (.string (rowB n f)) w := by
  have hl : ((List.range n).map f).length = n := by simp
  have h := run_convert_bytes_back (P := P) w src dst e ⟨g, 0, none⟩ cap ((List.range n).map f) hs he hd (fun j hj => by
    have hj' : j < n := by omega
    have h1 := hown.cellAt j (by omega)
    unfold cellsR at h1
    rw [List.getElem?_map, List.getElem?_range hj'] at h1
    rw [addr_head, h1]; simp)
  rw [hl] at h
  exact h

/-- a row whose bytes are each times a, as a text -/
theorem scl_row (a : Nat) (x : UInt8) (hx : x.toNat = a) (n : Nat) (f : Nat → UInt8) : (⟨(scl a (rowB n f)).toArray⟩ : ByteArray) = rowB n fun j => GfU.ml x (f j) := by
  subst hx
  unfold scl rowB
  simp only [List.map_map]
  rfl

set_option maxRecDepth 20000 in
set_option maxHeartbeats 1000000 in
theorem rplus_any (n : Nat) (f g : Nat → UInt8) (x : UInt8) (w : World) (h1 : 1 ≤ n) (h2 : n ≤ 255) :
    Calls Try.prog 55 #[.string (rowB n f), .int .u8 (x.toNat : Int), .string (rowB n g)] w fun e w' =>
      e = .returned (.string (rowB n fun j => f j ^^^ GfU.ml x (g j))) ∧ Below w.heap.size w w' := by
  obtain ⟨i0, hi, hz0, hz1, hz2⟩ := info_parts Try.infoU8
  have SF := Lib.hid (rowB_size n f)
  have SG := Lib.hid (rowB_size n g)
  have RR := Lib.hid (scl_row x.toNat x rfl n g)
  go_enter Try.func55, Try.ntmps55
  go_wp2_with fail
  refine (rscale_any x.toNat (rowB n g) _ (GfU.toNat_le x) (by rw [SG.out]; omega)).mono ?_
  rintro e w1 ⟨rfl, hb1⟩
  rw [RR.out]
  have B1 := Lib.hid hb1
  clear hb1
  go_wp2_with fail
  go_loopw [8, 9] (fun v i wr => ∃ k : Nat, k ≤ n ∧ i = .int .i64 (k : Int) ∧ Hid (wr.ownsRow w.heap.size 5 1 v k ((cellsR n fun j => f j ^^^ GfU.ml x (g j)).take k)) ∧ Hid (Below w.heap.size w wr)) (fun _ i _ => n - (intOf i).toNat)
  case atStart => exact ⟨0, by omega, rfl, World.ownsRow_nil _ _ _ _, B1.out⟩
  case round =>
    obtain ⟨k, hk, rfl, hown, hbel⟩ := hrel
    have sf : ((rowB n f).size : Int) = (n : Int) := by rw [SF.out]
    have sg : ((rowB n fun j => GfU.ml x (g j)).size : Int) = (n : Int) := by rw [rowB_size]
    by_cases hlt : k < n
    · have q1 : k < (rowB n f).size := by rw [SF.out]; exact hlt
      have q2 : k < (rowB n fun j => GfU.ml x (g j)).size := by rw [rowB_size]; exact hlt
      have e0 : bits .xor .u8 ((((rowB n f)[k]'q1).toNat : Nat) : Int) ((((rowB n fun j => GfU.ml x (g j))[k]'q2).toNat : Nat) : Int) = ((f k ^^^ GfU.ml x (g k)).toNat : Int) := by
        rw [rowB_at n f k q1, rowB_at n _ k q2, u8_xor_nat _ _ (f k).toNat_lt (GfU.ml x (g k)).toNat_lt, ← UInt8.toNat_xor]
      go_wp2_with fail
      have hsz := hbel.out.size
      go_region_held3 (fun _ => True) (trivial)
        ((refine step_append_lies _ (by rfl) _ _ 48 (by rfl) w.heap.size 5 i0 (.int .u8 0) 1 1 Try.underlying48 hi hz0 hz1 hz2 rfl (by decide) _ _ _ (by rfl) ((show World.ownsRow wr.drew _ _ _ _ _ _ from hown.out).alloc _) ⟨wr.heap.size, 0, none⟩ 1 1 [.int .u8 ((f k ^^^ GfU.ml x (g k)).toNat : Int)] (by rfl) rfl (cell_one_new wr.drew _ _) (by intro u hu; simp at hu; subst hu; rfl) (by omega) (by unfold maxLen; omega) (by omega) (by simp; omega) (wr.heap.size + 1) (by simp) ?_; intro gg cap w9 hown9 hgrow9 hat9 hlt9))
      all_goals
        have HBl : Hid (Below w.heap.size w w9) := below_append (show World.ownsRow wr.drew _ _ _ _ _ _ from hown.out) hbel.out.drew (Nat.le_refl _) hgrow9
        rw [cellsR_take n (fun j => f j ^^^ GfU.ml x (g j)) k hlt] at hown9
        have HO := Lib.hid hown9
        clear hown9 hgrow9
        try go_wp2_with fail
        go_roundw
        case rel => exact ⟨k + 1, by omega, by go_num, HO.out, HBl.out⟩
        case measure => simp [intOf]; omega
    · obtain rfl : k = n := by omega
      rcases hown.out.2 with ⟨_, h⟩ | ⟨gg, cap, cur, rfl, _⟩
      · exact absurd h (by omega)
      · have hO := hown.out
        rw [List.take_of_length_le (by simp [cellsR])] at hO
        have hcv := run_row_text (P := Try.prog) (w := wr) (src := 48) (dst := 9) hO Try.underlying48 Try.underlying5 Try.underlying9
        clear hO hown
        go_wp2_with fail
        go_ret
        exact ⟨rfl, hbel.out⟩

end Go.Proofs.Ytemcjnbgcecinaa

/- What the document's own answer picks; contracts; no condition but the form's reach. -/
namespace Go.Proofs.Ytemcjnbgcecinaa
open Go.RowKit

theorem below_pick {w w1 : World} {A B : Obj} (h : Below ((w.alloc A).alloc B).heap.size ((w.alloc A).alloc B) w1) : Below w.heap.size w w1 :=
  (((Below.refl _ w).alloc (Nat.le_refl _) _).alloc (by simp) _).trans (h.mono (by simp; omega))

/-- a cell of an old block, wherever it points -/
theorem cell_kept {B : Nat} {w w1 : World} (h : Below B w w1) (a : Addr) (ha : a.block < B) : w1.cell? a = w.cell? a := by
  unfold World.cell?
  rw [h.block a.block ha]

def pickF (L : List Int) (A : Nat → Nat → UInt8) (i j : Nat) : UInt8 := A (L.getD i 0).toNat j

theorem join_rc (r c : Nat) (R : Nat → Nat → UInt8) (k : Nat) (hk : k < r) : (⟨((tabL r c R).take (k * c)).toArray⟩ : ByteArray) ++ rowB c (R k) = ⟨((tabL r c R).take ((k + 1) * c)).toArray⟩ := by
  have hl : k * c + c ≤ r * c := by have := Nat.mul_le_mul_right c (show k + 1 ≤ r from hk); rw [Nat.succ_mul] at this; exact this
  have e : (tabL r c R).take (k * c) ++ (List.range c).map (R k) = (tabL r c R).take ((k + 1) * c) := by
    apply List.ext_getElem?
    intro p
    rw [Nat.succ_mul, List.getElem?_take, List.getElem?_append, List.length_take, tab_length, Nat.min_eq_left (by omega)]
    by_cases h1 : p < k * c
    · rw [if_pos h1, if_pos (by omega), List.getElem?_take, if_pos h1]
    · rw [if_neg h1]
      by_cases h2 : p < k * c + c
      · obtain ⟨j, rfl⟩ : ∃ j, p = k * c + j := ⟨p - k * c, by omega⟩
        rw [if_pos h2, tab_place r c R k j hk (by omega), Nat.add_sub_cancel_left, List.getElem?_map, List.getElem?_range (by omega)]; rfl
      · rw [if_neg h2, List.getElem?_eq_none (by simp; omega)]
  apply ByteArray.ext
  rw [ByteArray.data_append]
  show _ ++ ((List.range c).map (R k)).toArray = _
  rw [List.append_toArray, e]

theorem join_rc_size (r c : Nat) (R : Nat → Nat → UInt8) (k : Nat) (hk : k < r) (hr : r ≤ 255) (hc : c ≤ 255) : (⟨((tabL r c R).take (k * c)).toArray⟩ : ByteArray).size + (rowB c (R k)).size ≤ 65025 := by
  rw [rowB_size]
  have hl : k * c + c ≤ r * c := by have := Nat.mul_le_mul_right c (show k + 1 ≤ r from hk); rw [Nat.succ_mul] at this; exact this
  have h2 : r * c ≤ 255 * 255 := Nat.mul_le_mul hr hc
  have : (⟨((tabL r c R).take (k * c)).toArray⟩ : ByteArray).size = ((tabL r c R).take (k * c)).length := by simp [ByteArray.size]
  rw [this, List.length_take, tab_length]
  omega

set_option maxRecDepth 20000 in
set_option maxHeartbeats 1000000 in
theorem rpick_shape (r c : Int) (s : ByteArray) (v : Value) (w : World) (h : ¬ may r c s) :
    Calls Try.prog 32 #[.agg #[.int .i64 r, .int .i64 c, .string s], v] w fun e w' =>
      e = .returned (.tuple #[.agg #[.int .i64 0, .int .i64 0, .string ⟨#[]⟩], .int .i64 4]) ∧ Below w.heap.size w w' := by
  have ka : ((chk r c s : Nat) : Int) = 4 := by rw [chk_no h]; rfl
  clear h
  go_enter Try.func32, Try.ntmps32
  go_wp2_with fail
  refine (rcheck_any _ _ _ _).mono ?_
  rintro e w1 ⟨rfl, hb1⟩
  have B1 := Lib.hid hb1
  obtain ⟨hc1, hf1⟩ := bcell hb1
  clear hb1
  go_wp2_with fail
  exact bodyPost_ret (v := .tuple #[.agg #[.int .i64 0, .int .i64 0, .string ⟨#[]⟩], .int .i64 4]) (by simp [results, Try.results32, go_sem, hc1]) rfl
    ⟨rfl, below_agg3 (below_pick B1.out) (by omega) _ _ _⟩

/-- what is picked of a matrix that may be -/
def pickAns (r c : Nat) (s : ByteArray) (L : List Int) : Value :=
  if ∀ i (h : i < L.length), 0 ≤ L[i] ∧ L[i] < (r : Int) then
    if 255 < L.length then .tuple #[.agg #[.int .i64 0, .int .i64 0, .string ⟨#[]⟩], .int .i64 2]
    else if L.length = 0 then .tuple #[.agg #[.int .i64 0, .int .i64 0, .string ⟨#[]⟩], .int .i64 1]
    else .tuple #[.agg #[.int .i64 (L.length : Int), .int .i64 (c : Int), .string ⟨(tabL L.length c (pickF L (cel s c))).toArray⟩], .int .i64 0]
  else .tuple #[.agg #[.int .i64 0, .int .i64 0, .string ⟨#[]⟩], .int .i64 1]

set_option maxRecDepth 20000 in
set_option maxHeartbeats 2000000 in
theorem rpick_some (r c : Nat) (s : ByteArray) (a : Addr) (cap : Nat) (L : List Int) (w : World) (h1 : 1 ≤ r) (h2 : r ≤ 255) (h3 : 1 ≤ c) (h4 : c ≤ 255) (hs : s.size = r * c)
    (ha : a.block < w.heap.size) (hL : ∀ i (h : i < L.length), w.cell? (a.add i) = some (.int .i64 L[i])) (hm : L.length ≤ 1152921504606846976) :
    Calls Try.prog 32 #[.agg #[.int .i64 (r : Int), .int .i64 (c : Int), .string s], .slice (some a) L.length cap] w fun e w' =>
      e = .returned (pickAns r c s L) ∧ Below w.heap.size w w' := by
  have ka : ((chk (r : Int) (c : Int) s : Nat) : Int) = 0 := by rw [chk_yes h1 h2 h3 h4 hs]; rfl
  have HS := Lib.hid hs
  have HL := Lib.hid hL
  have HA := Lib.hid ha
  clear hs hL ha
  obtain ⟨n, hn⟩ : ∃ n, n = L.length := ⟨_, rfl⟩
  have HN := Lib.hid hn
  rw [← hn] at hm ⊢
  clear hn
  go_enter Try.func32, Try.ntmps32
  go_wp2_with fail
  obtain ⟨s0, bA, bZ⟩ := blk2 w (.cells #[.int .i64 (r : Int), .int .i64 (c : Int), .string s] 59) (.cells #[.int .i64 0, .int .i64 0, .string ⟨#[]⟩] 59)
  have BW : Hid (Below w.heap.size w ((w.alloc (.cells #[.int .i64 (r : Int), .int .i64 (c : Int), .string s] 59)).alloc (.cells #[.int .i64 0, .int .i64 0, .string ⟨#[]⟩] 59))) :=
    ((Below.refl _ w).alloc (Nat.le_refl _) _).alloc (by simp) _
  generalize (w.alloc (.cells #[.int .i64 (r : Int), .int .i64 (c : Int), .string s] 59)).alloc (.cells #[.int .i64 0, .int .i64 0, .string ⟨#[]⟩] 59) = w0 at s0 bA bZ BW ⊢
  have S0 := Lib.hid s0
  have BA := Lib.hid bA
  have BZ := Lib.hid bZ
  clear s0 bA bZ
  refine (rcheck_any _ _ _ _).mono ?_
  rintro e w1 ⟨rfl, hb1⟩
  have HB1 : Hid (Below (w.heap.size + 2) w0 w1) := hb1.mono (by have := S0.out; omega)
  clear hb1
  go_wp2_with fail
  go_loopw [6] (fun i wr => ∃ k : Nat, k ≤ n ∧ i = .int .i64 (k : Int) ∧ Hid (∀ i (h : i < L.length), i < k → 0 ≤ L[i] ∧ L[i] < (r : Int)) ∧ Hid (Below (w.heap.size + 2) w0 wr)) (fun i _ => n - (intOf i).toNat)
  case atStart => exact ⟨0, by omega, rfl, fun i _ h => absurd h (by omega), HB1.out⟩
  case round =>
    obtain ⟨k, hk, rfl, hin, hbel⟩ := hrel
    clear HB1
    have hw := BW.out.trans (hbel.out.mono (by omega))
    have cA0 := blk_cell (j := 0) ((hbel.out.block w.heap.size (by omega)).trans BA.out) rfl
    have cA1 := blk_cell (j := 1) ((hbel.out.block w.heap.size (by omega)).trans BA.out) rfl
    have cA2 := blk_cell (j := 2) ((hbel.out.block w.heap.size (by omega)).trans BA.out) rfl
    by_cases hlt : k < n
    · have hkL : k < L.length := by have := HN.out; omega
      have cell := (cell_kept hw (a.add k) (by rw [show (a.add k).block = a.block by unfold Addr.add; split <;> rfl]; exact HA.out)).trans (HL.out k hkL)
      have pk : (k : Int) < (n : Int) := by omega
      have HW := Lib.hid hw
      clear hw
      obtain ⟨x, hx⟩ : ∃ x, x = L[k] := ⟨_, rfl⟩
      rw [← hx] at cell
      have HX := Lib.hid hx
      clear hx
      by_cases hx0 : x < 0
      · go_wp2_with fail
        go_quiet (fail)
        have bZr := (hbel.out.block (w.heap.size + 1) (by omega)).trans BZ.out
        have c0 := blk_cell (j := 0) bZr rfl
        have c1 := blk_cell (j := 1) bZr rfl
        have c2 := blk_cell (j := 2) bZr rfl
        have cf := blk_free bZr
        have hans : Hid (pickAns r c s L = .tuple #[.agg #[.int .i64 0, .int .i64 0, .string ⟨#[]⟩], .int .i64 1]) := by show _ = _; unfold pickAns; rw [if_neg fun H => by have := H k hkL; rw [← HX.out] at this; omega]
        clear bZr
        go_wp2_with fail
        exact bodyPost_ret (v := .tuple #[.agg #[.int .i64 0, .int .i64 0, .string ⟨#[]⟩], .int .i64 1]) (by simp [results, Try.results32, go_sem, c0, c1, c2]) rfl
          ⟨by rw [hans.out], below_agg3 (BW.out.trans ((below_drewN hbel.out _).mono (by omega))) (by omega) _ _ _⟩
      · by_cases hxr : (r : Int) ≤ x
        · go_wp2_with fail
          go_quiet (fail)
          have bZr := (hbel.out.block (w.heap.size + 1) (by omega)).trans BZ.out
          have c0 := blk_cell (j := 0) bZr rfl
          have c1 := blk_cell (j := 1) bZr rfl
          have c2 := blk_cell (j := 2) bZr rfl
          have cf := blk_free bZr
          have hans : Hid (pickAns r c s L = .tuple #[.agg #[.int .i64 0, .int .i64 0, .string ⟨#[]⟩], .int .i64 1]) := by show _ = _; unfold pickAns; rw [if_neg fun H => by have := H k hkL; rw [← HX.out] at this; omega]
          clear bZr
          go_wp2_with fail
          exact bodyPost_ret (v := .tuple #[.agg #[.int .i64 0, .int .i64 0, .string ⟨#[]⟩], .int .i64 1]) (by simp [results, Try.results32, go_sem, c0, c1, c2]) rfl
            ⟨by rw [hans.out], below_agg3 (BW.out.trans ((below_drewN hbel.out _).mono (by omega))) (by omega) _ _ _⟩
        · go_wp2_with fail
          go_quiet (fail)
          go_wp2_with fail
          go_roundw
          case rel => exact ⟨k + 1, by omega, by go_num, fun i h hi => by
            by_cases e : i = k
            · subst e; rw [← HX.out]; omega
            · exact hin.out i h (by omega), below_drewN hbel.out _⟩
          case measure => simp [intOf]; omega
    · obtain rfl : k = n := by omega
      have HIN : Hid (∀ i (h : i < L.length), 0 ≤ L[i] ∧ L[i] < (r : Int)) := fun i h => hin.out i h (by have := HN.out; omega)
      clear hin
      by_cases hbig : 255 < k
      · have t1 : (255 : Int) < (k : Int) := by omega
        have bZr := (hbel.out.block (w.heap.size + 1) (by omega)).trans BZ.out
        have c0 := blk_cell (j := 0) bZr rfl
        have c1 := blk_cell (j := 1) bZr rfl
        have c2 := blk_cell (j := 2) bZr rfl
        have cf := blk_free bZr
        have hans : Hid (pickAns r c s L = .tuple #[.agg #[.int .i64 0, .int .i64 0, .string ⟨#[]⟩], .int .i64 2]) := by show _ = _; unfold pickAns; rw [if_pos HIN.out, if_pos (by rw [← HN.out]; omega)]
        clear bZr
        go_wp2_with fail
        exact bodyPost_ret (v := .tuple #[.agg #[.int .i64 0, .int .i64 0, .string ⟨#[]⟩], .int .i64 2]) (by simp [results, Try.results32, go_sem, c0, c1, c2]) rfl
          ⟨by rw [hans.out], below_agg3 (BW.out.trans (hbel.out.mono (by omega))) (by omega) _ _ _⟩
      · by_cases hzero : k = 0
        · obtain rfl := hzero
          have bZr := (hbel.out.block (w.heap.size + 1) (by omega)).trans BZ.out
          have c0 := blk_cell (j := 0) bZr rfl
          have c1 := blk_cell (j := 1) bZr rfl
          have c2 := blk_cell (j := 2) bZr rfl
          have cf := blk_free bZr
          have hans : Hid (pickAns r c s L = .tuple #[.agg #[.int .i64 0, .int .i64 0, .string ⟨#[]⟩], .int .i64 1]) := by show _ = _; unfold pickAns; rw [if_pos HIN.out, if_neg (by rw [← HN.out]; omega), if_pos HN.out.symm]
          clear bZr
          go_wp2_with fail
          exact bodyPost_ret (v := .tuple #[.agg #[.int .i64 0, .int .i64 0, .string ⟨#[]⟩], .int .i64 1]) (by simp [results, Try.results32, go_sem, c0, c1, c2]) rfl
            ⟨by rw [hans.out], below_agg3 (BW.out.trans (hbel.out.mono (by omega))) (by omega) _ _ _⟩
        · have t1 : ((k : Int) == 0) = false := by simp; omega
          have t2 : (k : Int) ≤ 255 := by omega
          go_wp2_with fail
          obtain ⟨wm, rfl⟩ : ∃ wm : World, wm = wr := ⟨_, rfl⟩
          go_loopw [7, 8] (fun o i wr => ∃ m : Nat, m ≤ k ∧ i = .int .i64 (m : Int) ∧ o = .string ⟨((tabL k c (pickF L (cel s c))).take (m * c)).toArray⟩ ∧ Hid (Below (w.heap.size + 2) w0 wr)) (fun _ i _ => k - (intOf i).toNat)
          case atStart => exact ⟨0, by omega, rfl, by rw [Nat.zero_mul]; rfl, hbel.out⟩
          case round =>
            clear hbel cA0 cA1 cA2
            obtain ⟨m, hm2, rfl, rfl, hbel⟩ := hrel
            by_cases hlt2 : m < k
            · have hmL : m < L.length := by have := HN.out; omega
              have hw := BW.out.trans (hbel.out.mono (by omega))
              have cell := (cell_kept hw (a.add m) (by rw [show (a.add m).block = a.block by unfold Addr.add; split <;> rfl]; exact HA.out)).trans (HL.out m hmL)
              have cA0 := blk_cell (j := 0) ((hbel.out.block w.heap.size (by omega)).trans BA.out) rfl
              have cA1 := blk_cell (j := 1) ((hbel.out.block w.heap.size (by omega)).trans BA.out) rfl
              have cA2 := blk_cell (j := 2) ((hbel.out.block w.heap.size (by omega)).trans BA.out) rfl
              have hx := HIN.out m hmL
              obtain ⟨p, hp⟩ : ∃ p : Nat, L[m] = (p : Int) := ⟨L[m].toNat, by omega⟩
              rw [hp] at cell hx
              have hpr : p < r := by omega
              have hrow : pickF L (cel s c) m = cel s c p := by funext j; unfold pickF; rw [List.getD_eq_getElem?_getD, List.getElem?_eq_getElem hmL, Option.getD_some, hp]; rfl
              have hadd : ∀ W, (Op.stringOp .add ⟨((tabL k c (pickF L (cel s c))).take (m * c)).toArray⟩ (rowB c (cel s c p))).run Try.prog W = .ok (.string ⟨((tabL k c (pickF L (cel s c))).take ((m + 1) * c)).toArray⟩) W := fun W => by
                rw [← join_rc k c (pickF L (cel s c)) m hlt2, hrow]
                exact run_string_add_sum W _ _ (by have := join_rc_size k c (pickF L (cel s c)) m hlt2 (by omega) h4; rw [hrow] at this; omega)
              have hlow : (a.add m).block < wr.heap.size := by
                rw [show (a.add m).block = a.block by unfold Addr.add; split <;> rfl]
                have := HA.out; have := hw.size; omega
              have pm : (m : Int) < (k : Int) := by omega
              have ppr : (p : Int) < (r : Int) := by omega
              clear hw hx hp hrow
              go_wp2_with fail
              go_region_with ((go_at_call 51; refine (rrows_any r c s _ h1 h2 h3 h4 HS.out).mono ?_; rintro e w5 ⟨g, cp, rfl, ho5, hb5⟩; have cell5 := (cell_kept hb5 (a.add m) (by exact hlow)).trans cell; have row5 := (ho5.cellAt p (by omega)).trans (rowsV_at r c (cel s c) p hpr)))
              all_goals
                have hz : w.heap.size + 2 ≤ wr.heap.size := by have := hbel.out.size; have := S0.out; omega
                have hbel5 : Hid (Below (w.heap.size + 2) w0 w5) := hbel.out.drew.trans (hb5.mono (by exact hz))
                clear hb5 ho5 cell5 row5
                go_wp2_with fail
                go_roundw
                case rel => exact ⟨m + 1, by omega, by go_num, rfl, hbel5.out⟩
                case measure => simp [intOf]; omega
            · obtain rfl : m = k := by omega
              have bZr := (hbel.out.block (w.heap.size + 1) (by omega)).trans BZ.out
              have c0 := blk_cell (j := 0) bZr rfl
              have c1 := blk_cell (j := 1) bZr rfl
              have c2 := blk_cell (j := 2) bZr rfl
              have cf := blk_free bZr
              have cA1 := blk_cell (j := 1) ((hbel.out.block w.heap.size (by omega)).trans BA.out) rfl
              have hT : (tabL m c (pickF L (cel s c))).take (m * c) = tabL m c (pickF L (cel s c)) := List.take_of_length_le (by rw [tab_length]; omega)
              rw [hT]
              have hans : Hid (pickAns r c s L = .tuple #[.agg #[.int .i64 (m : Int), .int .i64 (c : Int), .string ⟨(tabL m c (pickF L (cel s c))).toArray⟩], .int .i64 0]) := by
                show _ = _; unfold pickAns; rw [if_pos HIN.out, if_neg (by rw [← HN.out]; omega), if_neg (by rw [← HN.out]; omega), ← HN.out]
              clear bZr hT
              go_wp2_with fail
              exact bodyPost_ret (v := .tuple #[.agg #[.int .i64 (m : Int), .int .i64 (c : Int), .string ⟨(tabL m c (pickF L (cel s c))).toArray⟩], .int .i64 0]) (by simp [results, Try.results32, go_sem, c0, c1, c2]) rfl
                ⟨by rw [hans.out], below_agg3 (BW.out.trans (hbel.out.mono (by omega))) (by omega) _ _ _⟩

set_option maxRecDepth 20000 in
set_option maxHeartbeats 1000000 in
theorem rpick_nil (r c : Nat) (s : ByteArray) (w : World) (h1 : 1 ≤ r) (h2 : r ≤ 255) (h3 : 1 ≤ c) (h4 : c ≤ 255) (hs : s.size = r * c) :
    Calls Try.prog 32 #[.agg #[.int .i64 (r : Int), .int .i64 (c : Int), .string s], .slice none 0 0] w fun e w' =>
      e = .returned (pickAns r c s []) ∧ Below w.heap.size w w' := by
  have ka : ((chk (r : Int) (c : Int) s : Nat) : Int) = 0 := by rw [chk_yes h1 h2 h3 h4 hs]; rfl
  clear hs
  go_enter Try.func32, Try.ntmps32
  go_wp2_with fail
  obtain ⟨s0, bA, bZ⟩ := blk2 w (.cells #[.int .i64 (r : Int), .int .i64 (c : Int), .string s] 59) (.cells #[.int .i64 0, .int .i64 0, .string ⟨#[]⟩] 59)
  have BW : Hid (Below w.heap.size w ((w.alloc (.cells #[.int .i64 (r : Int), .int .i64 (c : Int), .string s] 59)).alloc (.cells #[.int .i64 0, .int .i64 0, .string ⟨#[]⟩] 59))) :=
    ((Below.refl _ w).alloc (Nat.le_refl _) _).alloc (by simp) _
  generalize (w.alloc (.cells #[.int .i64 (r : Int), .int .i64 (c : Int), .string s] 59)).alloc (.cells #[.int .i64 0, .int .i64 0, .string ⟨#[]⟩] 59) = w0 at s0 bA bZ BW ⊢
  have S0 := Lib.hid s0
  have BZ := Lib.hid bZ
  clear s0 bA bZ
  refine (rcheck_any _ _ _ _).mono ?_
  rintro e w1 ⟨rfl, hb1⟩
  have HB1 : Hid (Below (w.heap.size + 2) w0 w1) := hb1.mono (by have := S0.out; omega)
  clear hb1
  go_wp2_with fail
  go_loopw [6] (fun i wr => i = .int .i64 0 ∧ Hid (Below (w.heap.size + 2) w0 wr)) (fun _ _ => 0)
  case atStart => exact ⟨rfl, HB1.out⟩
  case round =>
    obtain ⟨rfl, hbel⟩ := hrel
    have bZr := (hbel.out.block (w.heap.size + 1) (by omega)).trans BZ.out
    have c0 := blk_cell (j := 0) bZr rfl
    have c1 := blk_cell (j := 1) bZr rfl
    have c2 := blk_cell (j := 2) bZr rfl
    have cf := blk_free bZr
    have hans : Hid (pickAns r c s [] = .tuple #[.agg #[.int .i64 0, .int .i64 0, .string ⟨#[]⟩], .int .i64 1]) := by
      show _ = _; unfold pickAns; rw [if_pos (fun i h => absurd h (by simp)), if_neg (by simp)]; exact if_pos rfl
    clear bZr
    go_wp2_with fail
    exact bodyPost_ret (v := .tuple #[.agg #[.int .i64 0, .int .i64 0, .string ⟨#[]⟩], .int .i64 1]) (by simp [results, Try.results32, go_sem, c0, c1, c2]) rfl
      ⟨by rw [hans.out], below_agg3 (BW.out.trans (hbel.out.mono (by omega))) (by omega) _ _ _⟩

end Go.Proofs.Ytemcjnbgcecinaa

/- What the landed package stripe does, its small functions: codes, sizes, whether shards are as long, an object's plain bytes; no condition but the range. -/
namespace Go.Proofs.Ytemcjnbgcecinaa
open Go.RowKit

/-- is it a code? -/
def codeB (k m : Int) : Bool := decide (1 ≤ k ∧ k ≤ 255 ∧ 0 ≤ m ∧ m ≤ 255 - k)

theorem codeB_yes {k m : Nat} (h1 : 1 ≤ k) (h2 : k + m ≤ 255) : codeB (k : Int) (m : Int) = true := by unfold codeB; simp; omega

theorem codeB_nat {k m : Int} (h : codeB k m = true) : ∃ a b : Nat, k = (a : Int) ∧ m = (b : Int) ∧ 1 ≤ a ∧ a + b ≤ 255 := by
  unfold codeB at h
  simp at h
  exact ⟨k.toNat, m.toNat, by omega, by omega, by omega, by omega⟩

set_option maxHeartbeats 1000000 in
theorem isCode_any (k m : Int) (w : World) : Calls Try.prog 40 #[.int .i64 k, .int .i64 m] w fun e w' => e = .returned (.bool (codeB k m)) ∧ w' = w := by
  by_cases h1 : 1 ≤ k
  · by_cases h2 : k ≤ 255
    · by_cases h3 : 0 ≤ m
      · by_cases h4 : m ≤ 255 - k
        · have E := Lib.hid (show codeB k m = true by unfold codeB; simp; omega)
          have hw : IntKind.i64.wrap (255 - k) = 255 - k := i64_wrap (by omega) (by omega)
          go_enter Try.func40, Try.ntmps40
          go_wp2
          go_ret
          exact ⟨by rw [E.out]; rfl, rfl⟩
        · have E := Lib.hid (show codeB k m = false by unfold codeB; simp; omega)
          have h5 : 255 - k < m := by omega
          have hw : IntKind.i64.wrap (255 - k) = 255 - k := i64_wrap (by omega) (by omega)
          go_enter Try.func40, Try.ntmps40
          go_wp2
          go_ret
          exact ⟨by rw [E.out]; rfl, rfl⟩
      · have E := Lib.hid (show codeB k m = false by unfold codeB; simp; omega)
        go_enter Try.func40, Try.ntmps40
        go_wp2
        go_ret
        exact ⟨by rw [E.out]; rfl, rfl⟩
    · have E := Lib.hid (show codeB k m = false by unfold codeB; simp; omega)
      go_enter Try.func40, Try.ntmps40
      go_wp2
      go_ret
      exact ⟨by rw [E.out]; rfl, rfl⟩
  · have E := Lib.hid (show codeB k m = false by unfold codeB; simp; omega)
    go_enter Try.func40, Try.ntmps40
    go_wp2
    go_ret
    exact ⟨by rw [E.out]; rfl, rfl⟩

theorem size_any (k n : Nat) (w : World) (h1 : 1 ≤ k) (h2 : k ≤ 100000) (h3 : n ≤ 100000) :
    Calls Try.prog 80 #[.int .i64 (k : Int), .int .i64 (n : Int)] w fun e w' => e = .returned (.int .i64 ((St.szN k n : Nat) : Int)) ∧ w' = w := by
  have E := Lib.hid (show (4 + (n : Int) + (k : Int) - 1) / (k : Int) = ((St.szN k n : Nat) : Int) by
    unfold St.szN
    rw [Int.natCast_ediv]
    congr 1
    omega)
  have hk : ((k : Int) == 0) = false := by simp; omega
  have e2 : (0 : Int) ≤ 4 + (n : Int) + (k : Int) - 1 := by omega
  have e3 : (1 : Int) ≤ (k : Int) := by omega
  go_enter Try.func80, Try.ntmps80
  go_wp2
  go_ret
  exact ⟨by rw [← E.out]; go_num, rfl⟩

/-- what Size answers -/
def sizeAns (k n : Int) : Value := if codeB k 0 = true ∧ 0 ≤ n ∧ n ≤ 2048 then .tuple #[.int .i64 ((St.szN k.toNat n.toNat : Nat) : Int), .int .i64 0] else .tuple #[.int .i64 0, .int .i64 1]

theorem sizeAns_yes {k n : Nat} (h1 : 1 ≤ k) (h2 : k ≤ 255) (h3 : n ≤ 2048) : sizeAns (k : Int) (n : Int) = .tuple #[.int .i64 ((St.szN k n : Nat) : Int), .int .i64 0] := by
  unfold sizeAns
  rw [if_pos ⟨codeB_yes h1 (by omega), by omega, by omega⟩, Int.toNat_natCast, Int.toNat_natCast]

/-! ### slices of texts -/

def strV (l : List ByteArray) : List Value := l.map Value.string

theorem strV_len (l : List ByteArray) : (strV l).length = l.length := by simp [strV]

theorem strV_at {l : List ByteArray} {i : Nat} (h : i < l.length) : (strV l)[i]? = some (.string l[i]) := by
  unfold strV
  rw [List.getElem?_map, List.getElem?_eq_getElem h]; rfl

theorem st_block (a : Addr) (n : Nat) : (a.add n).block = a.block := by unfold Addr.add; split <;> rfl

/-- the slice v holds the texts l -/
def StrsAt (w : World) (A : Option Addr) (l : List ByteArray) : Prop :=
  0 < l.length → ∃ ad, A = some ad ∧ ad.block < w.heap.size ∧ ∀ i (h : i < l.length), w.cell? (ad.add i) = some (.string l[i])

theorem StrsAt.below {w w' : World} {A : Option Addr} {l : List ByteArray} (h : StrsAt w A l) (hb : Below w.heap.size w w') : StrsAt w' A l := fun hp => by
  obtain ⟨ad, h1, h2, h3⟩ := h hp
  exact ⟨ad, h1, Nat.lt_of_lt_of_le h2 hb.size, fun i hi => (cell_kept hb _ (by rw [st_block]; exact h2)).trans (h3 i hi)⟩

theorem StrsAt.alloc {w : World} {A : Option Addr} {l : List ByteArray} (h : StrsAt w A l) (o : Obj) : StrsAt (w.alloc o) A l := h.below ((Below.refl _ w).alloc (Nat.le_refl _) o)

theorem StrsAt.drewN {w : World} {A : Option Addr} {l : List ByteArray} (h : StrsAt w A l) (n : Nat) : StrsAt (w.drewN n) A l := h

theorem StrsAt.blk {w : World} {g : Nat} {t : TypeId} {l : List ByteArray} (h : w.heap[g]? = some (.cells (strV l).toArray t (0, 0))) : StrsAt w (some ⟨g, 0, none⟩) l := fun _ =>
  ⟨_, rfl, (Array.getElem?_eq_some_iff.1 h).1, fun i hi => by rw [addr_head]; exact blk_cell h (by rw [List.getElem?_toArray]; exact strV_at hi)⟩

theorem StrsAt.own {w : World} {H g n cap : Nat} {e : TypeId} {l : List ByteArray} (h : w.ownsRow H e 1 (.slice (some ⟨g, 0, none⟩) n cap) n (strV l)) (hl : n = l.length) : StrsAt w (some ⟨g, 0, none⟩) l := fun hp => by
  have hf := World.ownsRow.cellAt h
  refine ⟨_, rfl, ?_, fun i hi => ?_⟩
  · obtain ⟨g', cap', hv, _, hlt⟩ := World.ownsRow.form h (by omega)
    simp only [Value.slice.injEq, Option.some.injEq, Addr.mk.injEq] at hv
    obtain ⟨⟨rfl, -⟩, -⟩ := hv
    exact hlt
  · rw [addr_head, hf i (by omega)]
    exact strV_at hi

theorem add_zero' (ad : Addr) : ad.add 0 = ad := by simp [Addr.add]

set_option maxRecDepth 20000 in
set_option maxHeartbeats 1000000 in
theorem even_any (A : Option Addr) (c : Nat) (l : List ByteArray) (w : World) (h : StrsAt w A l) (hpos : 1 ≤ l.length) (hn : l.length ≤ 9223372036854775807) :
    Calls Try.prog 56 #[.slice A l.length c] w fun e w' => e = .returned (.bool (decide (St.Even l))) ∧ w' = w := by
  obtain ⟨ad, rfl, hab, hc⟩ := h hpos
  have HC := Lib.hid hc
  have c0 : w.cell? ad = some (.string (l[0]'hpos)) := by have := hc 0 (by omega); rwa [add_zero'] at this
  have hd0 : l.headD ⟨#[]⟩ = l[0] := by cases l with | nil => simp at hpos | cons x r => rfl
  have HD := Lib.hid hd0
  have p0 : (0 : Int) < (l.length : Int) := by omega
  clear h hc hd0
  go_enter Try.func56, Try.ntmps56
  go_wp2_with fail
  go_loop [7] (fun i => ∃ k : Nat, k ≤ l.length ∧ i = .int .i64 (k : Int) ∧ Hid (∀ j (hj : j < l.length), j < k → l[j].size = l[0].size)) (fun i => l.length - (intOf i).toNat)
  case atStart => exact ⟨0, by omega, rfl, fun j hj h => absurd h (by omega)⟩
  case round =>
    obtain ⟨k, hk, rfl, hev⟩ := hrel
    by_cases hlt : k < l.length
    · have ck := HC.out k hlt
      have pk : (k : Int) < (l.length : Int) := by omega
      by_cases he : l[k].size = l[0].size
      · have t1 : ((l[k].size : Int) != (l[0].size : Int)) = false := by simp [he]
        have HE := Lib.hid he
        clear he
        go_wp2_with fail
        go_round
        case rel => exact ⟨k + 1, by omega, by go_num, fun j hj hjk => by
          by_cases e : j = k
          · subst e; exact HE.out
          · exact hev.out j hj (by omega)⟩
        case measure => simp [intOf]; omega
      · have t1 : ((l[k].size : Int) != (l[0].size : Int)) = true := by simp; omega
        have E := Lib.hid (show decide (St.Even l) = false by
          rw [decide_eq_false_iff_not]
          intro hE
          have := hE l[k] (List.getElem_mem hlt)
          rw [HD.out] at this
          exact he this)
        clear he
        go_wp2_with fail
        go_ret
        exact ⟨by rw [E.out]; rfl, rfl⟩
    · have E := Lib.hid (show decide (St.Even l) = true by
        rw [decide_eq_true_eq]
        intro x hx
        obtain ⟨j, hj, rfl⟩ := List.getElem_of_mem hx
        rw [HD.out]
        exact hev.out j hj (by omega))
      go_wp2_with fail
      go_ret
      exact ⟨by rw [E.out]; rfl, rfl⟩

end Go.Proofs.Ytemcjnbgcecinaa
