/- Sixty-four bytes: none, and what a text is that is made so long; contracts; no condition but the range. -/
import Derived.Test.YtecgimnmccmpjaaScRep
import Derived.Lib.Strings
import Derived.Lib.Walk
import Derived.Lib.BufferWrite
import Derived.Lib.Hide
import Derived.Laws.MakeOwn
import Derived.WalkKit
namespace Go.Proofs.Ytecgimnmccmpjaa
namespace Sc
open Go.RowKit Bk

/-- 'copy(dst, s)' of a text that need not find room: as many of its bytes as find it -/
theorem copy_some {P : Program} (w : World) (dT sT ty elem : TypeId) (g dLen dCap m : Nat) (s : ByteArray) (cur : Array Value) (t : TypeId)
    (hu : P.underlying dT = some (.slice elem)) (hs : (P.info? elem).map (·.size) = some 1) (hg : w.heap[g]? = some (.cells cur t (0, 0))) (hm : m = min s.size dLen) (hfit : m ≤ cur.size) :
    (Builtin.copy_ #[dT, sT] ty #[.slice (some ⟨g, 0, none⟩) dLen dCap, .string s]).run P w =
      .ok (goInt m) (w.setRow g (Lib.byteCells (s.data.toList.take m) ++ cur.toList.drop m).toArray) := by
  have hlen : (Lib.byteCells (s.data.toList.take m)).length = m := by
    have : s.data.toList.length = s.size := rfl
    rw [Lib.byteCells_length, List.length_take]; omega
  have hst := run_storeCells_at P g 0 t (Lib.byteCells (s.data.toList.take m)) 0 cur w hg (by rw [hlen]; simpa using hfit) (Lib.byteCells_one _)
  have hmin : Nat.min s.size dLen = m := hm.symm
  have htk : List.take m (List.map (fun b : UInt8 => Value.int IntKind.u8 (b.toNat : Int)) s.data.toList) = Lib.byteCells (s.data.toList.take m) := by
    unfold Lib.byteCells
    rw [List.map_take]
  rw [hlen] at hst
  simp only [Nat.add_zero, Nat.zero_add, List.take_zero, List.nil_append] at hst
  cases hq : P.info? elem with
  | none => simp [hq] at hs
  | some i =>
    simp [Builtin.copy_, run_underlying hu, Builtin.lenOf, Builtin.firstCells, sizeOf, typeInfo, hq, hmin]
    rw [htk, hst]
    simp [Result.andThen]

/-- a text made sixty-four long -/
def fitB (s : ByteArray) : ByteArray := ⟨(s.data.toList.take 64 ++ List.replicate (64 - min s.size 64) (0 : UInt8)).toArray⟩

theorem fitB_size (s : ByteArray) : (fitB s).size = 64 := by
  show (s.data.toList.take 64 ++ List.replicate (64 - min s.size 64) (0 : UInt8)).toArray.size = 64
  have : s.data.toList.length = s.size := rfl
  rw [List.size_toArray, List.length_append, List.length_take, List.length_replicate]
  omega

theorem fitB_nil : fitB nil0 = zero64 := by decide

theorem zeros_cells : Lib.byteCells (List.replicate 64 (0 : UInt8)) = List.replicate 64 (Value.int .u8 0) := by
  unfold Lib.byteCells
  rw [List.map_replicate]; rfl

/-- the row that is made, and the text that it is -/
theorem back_of {w : World} {g : Nat} {l : List UInt8} (h : w.heap[g]? = some (.cells (Lib.byteCells l).toArray 5 (0, 0))) (hl : l.length = 64) :
    (convert 62 9 (.slice (some ⟨g, 0, none⟩) 64 64)).run Try.prog w = .ok (.string ⟨l.toArray⟩) w := by
  have := run_convert_bytes_back (P := Try.prog) w 62 9 5 ⟨g, 0, none⟩ 64 l Try.underlying62 Try.underlying5 Try.underlying9 (fun j hj => by
    rw [addr_head]
    refine blk_cell h ?_
    rw [List.getElem?_toArray]
    unfold Lib.byteCells
    rw [List.getElem?_map, List.getElem?_eq_getElem hj]; rfl)
  rwa [hl] at this

set_option maxRecDepth 20000 in
theorem make_64 (W : World) : (Instr.makeSlice 62 (.int .i64 64) (.int .i64 64)).run Try.prog W = .ok (.slice (some ⟨W.heap.size, 0, none⟩) 64 64) (W.alloc (.cells (Lib.byteCells (List.replicate 64 (0 : UInt8))).toArray 5)) := by
  obtain ⟨i0, hi, hz0, hz1, hz2⟩ := info_parts Bk.Try.infoU8
  have h := run_make (P := Try.prog) W 62 5 i0 (.int .u8 0) Try.underlying62 hi hz0 .i64 .i64 64 64 (by omega) (by omega) (by rw [hz2]; omega) (by omega)
  rw [h, hz1]
  congr 3
  kernel_rfl

set_option maxRecDepth 20000 in
set_option maxHeartbeats 2000000 in
theorem none_any (w : World) :
    Calls Try.prog 22 #[] w fun e w' => e = .returned (.string zero64) ∧ Below w.heap.size w w' := by
  have hmk := make_64
  have hcv := back_of (w := w.alloc (.cells (Lib.byteCells (List.replicate 64 (0 : UInt8))).toArray 5)) (heap_alloc_new w _) (by simp)
  have HB := Lib.hid ((Below.refl _ w).alloc (Nat.le_refl _) (.cells (Lib.byteCells (List.replicate 64 (0 : UInt8))).toArray 5))
  have HZ : Hid ((⟨(List.replicate 64 (0 : UInt8)).toArray⟩ : ByteArray) = zero64) := Lib.hid rfl
  generalize (⟨(List.replicate 64 (0 : UInt8)).toArray⟩ : ByteArray) = z at hcv HZ
  generalize (Lib.byteCells (List.replicate 64 (0 : UInt8))).toArray = M at hmk hcv HB
  go_enter Try.func22, Try.ntmps22
  go_wp2_with fail
  go_ret
  exact ⟨by rw [← HZ.out]; rfl, HB.out⟩

set_option maxRecDepth 20000 in
set_option maxHeartbeats 2000000 in
theorem fit_any (s : ByteArray) (w : World) :
    Calls Try.prog 14 #[.string s] w fun e w' => e = .returned (.string (fitB s)) ∧ Below w.heap.size w w' := by
  obtain ⟨i0, hi, hz0, hz1, hz2⟩ := info_parts Bk.Try.infoU8
  have hinfo : (Try.prog.info? 5).map (·.size) = some 1 := by rw [hi]; simp [hz1]
  have hmk := make_64
  obtain ⟨m, hm⟩ : ∃ m, m = min s.size 64 := ⟨_, rfl⟩
  have hM : (Lib.byteCells (List.replicate 64 (0 : UInt8))).toArray.size = 64 := by rw [List.size_toArray, Lib.byteCells_length]; simp
  have hcp := copy_some (P := Try.prog) (w.alloc (.cells (Lib.byteCells (List.replicate 64 (0 : UInt8))).toArray 5)) 62 9 3 5 w.heap.size 64 64 m s _ 5 Try.underlying62 hinfo (heap_alloc_new w _) hm (by rw [hM]; omega)
  obtain ⟨Y, hY⟩ : ∃ Y, Y = (Lib.byteCells (s.data.toList.take m) ++ (Lib.byteCells (List.replicate 64 (0 : UInt8))).toArray.toList.drop m).toArray := ⟨_, rfl⟩
  rw [← hY] at hcp
  have hYl : Y = (Lib.byteCells (s.data.toList.take 64 ++ List.replicate (64 - m) (0 : UInt8))).toArray := by
    rw [hY]
    congr 1
    unfold Lib.byteCells
    rw [List.map_append, List.toList_toArray, ← List.map_drop, List.drop_replicate]
    congr 2
    have hl : s.data.toList.length = s.size := rfl
    by_cases h : s.size ≤ 64
    · rw [List.take_of_length_le (show s.data.toList.length ≤ m from by show s.size ≤ m; omega), List.take_of_length_le (show s.data.toList.length ≤ 64 from h)]
    · rw [show m = 64 by omega]
  have hgY : ((w.alloc (.cells (Lib.byteCells (List.replicate 64 (0 : UInt8))).toArray 5)).setRow w.heap.size Y).heap[w.heap.size]? = some (.cells Y 5 (0, 0)) := setRow_heap _ _ _ _ 5 (0, 0) (heap_alloc_new w _)
  have hB2 : Below w.heap.size w ((w.alloc (.cells (Lib.byteCells (List.replicate 64 (0 : UInt8))).toArray 5)).setRow w.heap.size Y) := ((Below.refl _ w).alloc (Nat.le_refl _) _).trans ⟨rfl, rfl, rfl, by simp, fun k hk => setRow_other _ _ _ _ (by omega)⟩
  rw [hYl] at hgY
  have hcv := back_of hgY (by have hl : s.data.toList.length = s.size := rfl; rw [List.length_append, List.length_take, List.length_replicate]; omega)
  rw [← hYl] at hcv
  have HB := Lib.hid hB2
  have HZ : Hid ((⟨(s.data.toList.take 64 ++ List.replicate (64 - m) (0 : UInt8)).toArray⟩ : ByteArray) = fitB s) := Lib.hid (by rw [hm]; rfl)
  generalize (⟨(s.data.toList.take 64 ++ List.replicate (64 - m) (0 : UInt8)).toArray⟩ : ByteArray) = z at hcv HZ
  clear hY hYl hgY hB2 hM hm
  generalize (Lib.byteCells (List.replicate 64 (0 : UInt8))).toArray = M at hmk hcv hcp HB
  go_enter Try.func14, Try.ntmps14
  go_wp2_with fail
  go_ret
  exact ⟨by rw [← HZ.out]; rfl, HB.out⟩

end Sc
end Go.Proofs.Ytecgimnmccmpjaa
