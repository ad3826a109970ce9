/- The small functions that the laws of matrices lean on; what they ask of the program's own functions stands as hypotheses. -/
import Derived.Test.YtmnciipfepeccaaMatRef2
import Derived.Test.YtmnciipfepeccaaMatAny
import Derived.Lib.BufferWrite
namespace Go.Proofs.Ytmnciipfepeccaa
open Go.RowKit

/-- a number from 1 to 6 -/
def sideV (n : Int) : Nat := 1 + (n % 18446744073709551616 % 6).toNat

theorem sideV_rng (n : Int) : 1 ≤ sideV n ∧ sideV n ≤ 6 := by unfold sideV; omega

set_option maxHeartbeats 400000 in
theorem side_any (n : Int) (w : World) :
    Calls Try.prog 14 #[.int .i64 n] w fun e w' => e = .returned (.int .i64 ((sideV n : Nat) : Int)) ∧ w = w' := by
  have e0 : 0 ≤ n % 18446744073709551616 ∧ n % 18446744073709551616 < 18446744073709551616 := by omega
  have e1 : IntKind.u64.wrap n = n % 18446744073709551616 := by simp [IntKind.wrap, IntKind.bits, IntKind.signed]
  have e2 : (n % 18446744073709551616).tmod 6 = n % 18446744073709551616 % 6 := Int.tmod_eq_emod_of_nonneg e0.1
  have e3 : wrap64 (1 + wrap64 ((IntKind.u64.wrap n).tmod 6)) = ((sideV n : Nat) : Int) := by
    have e4 : wrap64 (n % 18446744073709551616 % 6) = n % 18446744073709551616 % 6 := IntWalk.wrap64_in _ ⟨by omega, by omega⟩
    have e5 : wrap64 (1 + n % 18446744073709551616 % 6) = 1 + n % 18446744073709551616 % 6 := IntWalk.wrap64_in _ ⟨by omega, by omega⟩
    rw [e1, e2, e4, e5]
    unfold sideV; omega
  have E3 := Lib.hid e3
  clear e0 e1 e2 e3
  go_enter Try.func14, Try.ntmps14
  go_wp2
  go_ret
  exact ⟨ret_int E3.out, rfl⟩

/-- the program's generator of 2 and 1 is the chapter's -/
def GenExample : Prop := ∀ w : World, Calls Try.prog 35 #[.int .i64 2, .int .i64 1] w fun e w' =>
  e = .returned (.tuple #[.agg #[.int .i64 3, .int .i64 2, .string ⟨#[1, 0, 0, 1, 142, 244]⟩], .int .i64 0]) ∧ Below w.heap.size w w'

set_option maxRecDepth 20000 in
set_option maxHeartbeats 400000 in
theorem works_true (hG : GenExample) (w : World) :
    Calls Try.prog 12 #[] w fun e w' => e = .returned (.bool true) ∧ Below w.heap.size w w' := by
  have HG := Lib.hid hG
  clear hG
  go_enter Try.func12, Try.ntmps12
  go_wp2_with fail
  refine (HG.out _).mono ?_
  rintro e w1 ⟨rfl, hb1⟩
  have B1 := Lib.hid hb1
  clear hb1
  go_wp2_with fail
  go_ret
  exact ⟨rfl, (((B1.out).alloc B1.out.size _).trans (Below.refl _ _))⟩

/-- 'copy(b, s)', s a string, b a row of the call's own: as many bytes as the shorter has go over -/
theorem run_copy_text {P : Program} (w : World) (dT sT ty elem : TypeId) (g dLen dCap : Nat) (s : ByteArray) (cur : Array Value) (t : TypeId)
    (hu : P.underlying dT = some (.slice elem)) (hs : (P.info? elem).map (·.size) = some 1) (hg : w.heap[g]? = some (.cells cur t (0, 0))) (hfit : dLen ≤ cur.size) :
    (Builtin.copy_ #[dT, sT] ty #[.slice (some ⟨g, 0, none⟩) dLen dCap, .string s]).run P w =
      .ok (goInt ((min s.size dLen : Nat) : Int)) (w.setRow g ((Lib.byteCells s.data.toList).take (min s.size dLen) ++ cur.toList.drop (min s.size dLen)).toArray) := by
  have hlen : ((Lib.byteCells s.data.toList).take (min s.size dLen)).length = min s.size dLen := by rw [List.length_take, Lib.byteCells_length, ← Lib.size_eq]; omega
  have hst := run_storeCells_at P g 0 t ((Lib.byteCells s.data.toList).take (min s.size dLen)) 0 cur w hg (by rw [hlen]; omega) (fun v hv => Lib.byteCells_one _ v (List.mem_of_mem_take hv))
  rw [hlen] at hst
  simp only [Nat.add_zero, Nat.zero_add, List.take_zero, List.nil_append] at hst
  cases hq : P.info? elem with
  | none => simp [hq] at hs
  | some i =>
    have hi1 : i.size = 1 := by simpa [hq] using hs
    simp [Builtin.copy_, run_underlying hu, Builtin.lenOf, Builtin.firstCells, sizeOf, typeInfo, hq]
    rw [show List.take (s.size.min dLen) (List.map (fun b : UInt8 => Value.int IntKind.u8 (b.toNat : Int)) s.data.toList) = (Lib.byteCells s.data.toList).take (min s.size dLen) from rfl, hst]
    rfl

/-- the bytes of a text, row by row; behind its end 0 -/
def madeF (c : Nat) (s : ByteArray) (i j : Nat) : UInt8 := s.data[i * c + j]?.getD 0

/-- what stands in the row behind the copy -/
theorem copied_cells (r c : Nat) (s : ByteArray) (cur : Array Value) (hcur : cur.toList = cellsU (tabL r c fun _ _ => 0)) :
    (Lib.byteCells s.data.toList).take (min s.size (r * c)) ++ cur.toList.drop (min s.size (r * c)) = cellsU (tabL r c (madeF c s)) := by
  have hb : (Lib.byteCells s.data.toList).length = s.size := by rw [Lib.byteCells_length, ← Lib.size_eq]
  have hl : ((Lib.byteCells s.data.toList).take (min s.size (r * c))).length = min s.size (r * c) := by rw [List.length_take, hb]; omega
  apply List.ext_getElem?
  intro p
  unfold cellsU
  rw [List.getElem?_map]
  by_cases hp : p < r * c
  · rw [tab_at r c _ p hp]
    unfold madeF
    rw [show p / c * c + p % c = p from by rw [Nat.mul_comm (p / c), Nat.div_add_mod]]
    by_cases hs : p < s.size
    · have hs' : p < s.data.size := hs
      rw [List.getElem?_append_left (by omega), List.getElem?_take, if_pos (by omega), Array.getElem?_eq_getElem hs']
      show (Lib.byteCells s.data.toList)[p]? = _
      unfold Lib.byteCells
      rw [List.getElem?_map, List.getElem?_eq_getElem (by simpa using hs')]; rfl
    · have hs' : ¬ p < s.data.size := hs
      rw [List.getElem?_append_right (by omega), hl, List.getElem?_drop, hcur]
      unfold cellsU
      rw [List.getElem?_map, show min s.size (r * c) + (p - min s.size (r * c)) = p from by omega, tab_at r c _ p hp, Array.getElem?_eq_none (by omega)]; rfl
  · rw [List.getElem?_eq_none (l := tabL r c _) (by rw [tab_length]; omega), List.getElem?_eq_none]; · rfl
    rw [List.length_append, hl, List.length_drop, hcur]; unfold cellsU; rw [List.length_map, tab_length]; omega

set_option maxRecDepth 20000 in
set_option maxHeartbeats 1000000 in
theorem made_any (r c : Nat) (s : ByteArray) (w : World) (h1 : 1 ≤ r) (h2 : r ≤ 6) (h3 : 1 ≤ c) (h4 : c ≤ 6) :
    Calls Try.prog 13 #[.int .i64 (r : Int), .int .i64 (c : Int), .string s] w fun e w' =>
      e = .returned (.agg #[.int .i64 (r : Int), .int .i64 (c : Int), .string ⟨(tabL r c (madeF c s)).toArray⟩]) ∧ Below w.heap.size w w' := by
  obtain ⟨p1, p2⟩ := prod_rng (r := (r : Int)) (c := (c : Int)) (by omega) (by omega) (by omega) (by omega)
  obtain ⟨i0, hi, hz0, hz1, hz2⟩ := info_parts Try.infoU8
  have hN : r * c ≤ 65025 := by have : ((r * c : Nat) : Int) ≤ 65025 := by rw [Int.natCast_mul]; exact p2
                                omega
  go_enter Try.func13, Try.ntmps13
  go_wp2_with (at_make; refine wpList_make_full _ rfl (.tmp 10) (.tmp 10) 61 rfl (w.heap.size + 1) 5 i0 (.int .u8 0) 1 Try.underlying61 hi hz0 hz1 .i64 .i64 _ _ (r * c) rfl rfl (Int.natCast_mul r c).symm (Int.natCast_mul r c).symm (by rw [hz2]; omega) (by unfold maxLen; omega) (by simp) ?_; intro w1 hown hgrow)
  have hs0 : (w.alloc (.cells #[.int .i64 0, .int .i64 0, .string ⟨#[]⟩] 26)).heap.size = w.heap.size + 1 := by simp
  rw [hs0, cellsU_zero r c (r * c) rfl] at hown
  have HB : Hid (Below (w.heap.size + 1) (w.alloc (.cells #[.int .i64 0, .int .i64 0, .string ⟨#[]⟩] 26)) w1) := (Below.refl _ _).grown hgrow (by simp) (fun k hk => by cases hk)
  clear hgrow hs0
  rcases hown.2 with ⟨h, _⟩ | ⟨g, cap, cur, hv, hg, hh, hnc, hcm, hcs, htk⟩
  · simp at h
  simp only [Value.slice.injEq, Option.some.injEq, Addr.mk.injEq, and_true, true_and] at hv
  obtain ⟨rfl, rfl⟩ := hv
  have hcur : cur.toList = cellsU (tabL r c fun _ _ => 0) := by
    rw [Nat.mul_one] at hcs htk
    rw [List.take_of_length_le (by rw [Array.length_toList, hcs]; exact Nat.le_refl _)] at htk; exact htk
  have hcp := run_copy_text (P := Try.prog) w1 61 9 3 5 (w.heap.size + 1) (r * c) (r * c) s cur 5 Try.underlying61 (by rw [hi]; simp [hz1]) hh (by omega)
  rw [copied_cells r c s cur hcur] at hcp
  have HH : Hid ((w1.setRow (w.heap.size + 1) (cellsU (tabL r c (madeF c s))).toArray).heap[w.heap.size + 1]? = some (.cells (cellsU (tabL r c (madeF c s))).toArray 5 (0, 0))) := setRow_heap _ _ _ _ _ _ hh
  have HB2 : Hid (Below (w.heap.size + 1) (w.alloc (.cells #[.int .i64 0, .int .i64 0, .string ⟨#[]⟩] 26)) (w1.setRow (w.heap.size + 1) (cellsU (tabL r c (madeF c s))).toArray)) := by
    refine ⟨HB.out.os, HB.out.tape, HB.out.output, ?_, fun k hk => ?_⟩
    · have := HB.out.size; simpa [World.setRow] using this
    · rw [setRow_other _ _ _ _ (by omega)]; exact HB.out.block k hk
  clear hown hg hh hnc hcm hcs htk hcur HB
  generalize w1.setRow (w.heap.size + 1) (cellsU (tabL r c (madeF c s))).toArray = w2 at hcp HH HB2
  have hcv := run_convert_bytes_back (P := Try.prog) w2 61 9 5 ⟨w.heap.size + 1, 0, none⟩ (r * c) (tabL r c (madeF c s)) Try.underlying61 Try.underlying5 Try.underlying9 (fun j hj => by
    rw [addr_head, cell_of_row w2 _ j _ _ _ HH.out]
    unfold cellsU
    rw [List.getElem?_toArray, List.getElem?_map, List.getElem?_eq_getElem hj]; rfl)
  rw [tab_length] at hcv
  have c0 : w2.cell? ⟨w.heap.size, 0, none⟩ = some (.int .i64 0) := (HB2.out.cell (p := ⟨w.heap.size, 0, none⟩) (by simp)).trans (by simp)
  have c1 : w2.cell? ⟨w.heap.size, 1, none⟩ = some (.int .i64 0) := (HB2.out.cell (p := ⟨w.heap.size, 1, none⟩) (by simp)).trans (by simp)
  have c2 : w2.cell? ⟨w.heap.size, 2, none⟩ = some (.string ⟨#[]⟩) := (HB2.out.cell (p := ⟨w.heap.size, 2, none⟩) (by simp)).trans (by simp)
  have cf : ∀ o, w2.frozen? ⟨w.heap.size, o, none⟩ = false := fun o => (HB2.out.frozen (p := ⟨w.heap.size, o, none⟩) (by simp)).trans (by simp)
  rw [hcp]
  go_simp
  go_wp2_with fail
  exact bodyPost_ret (v := .agg #[.int .i64 (r : Int), .int .i64 (c : Int), .string ⟨(tabL r c (madeF c s)).toArray⟩]) (by simp [results, Try.results13, go_sem, c0, c1, c2]) rfl
    ⟨rfl, below_agg3 (((Below.refl _ w).alloc (Nat.le_refl _) _).trans (HB2.out.mono (by omega))) (Nat.le_refl _) _ _ _⟩

end Go.Proofs.Ytmnciipfepeccaa
