/- What the landed package's roomOf answers; contract; no condition. (Written by gen_room.py.) -/
import Derived.Test.YtmllaighjhpbmaaLtDone2
namespace Go.Proofs.Ytmllaighjhpbmaa
namespace Lt
open Go.RowKit Bk

attribute [local go_sem ↓] Go.wp_at_zero Go.wp_at_succ
attribute [local go_sem] floatUpon pick

/-- five cells are written over -/
def set5 (W : World) (R : Nat) (v0 v1 v2 v3 v4 : Value) : World :=
  (((((W.setCell ⟨R, 0, none⟩ v0).setCell ⟨R, 1, none⟩ v1).setCell ⟨R, 2, none⟩ v2).setCell ⟨R, 3, none⟩ v3).setCell ⟨R, 4, none⟩ v4)

theorem set5_cel {W : World} {R : Nat} {t : TypeId} {u0 u1 u2 u3 u4 v0 v1 v2 v3 v4 : Value} (h : Cel W R t [u0, u1, u2, u3, u4]) : Cel (set5 W R v0 v1 v2 v3 v4) R t [v0, v1, v2, v3, v4] :=
  ((((h.set (i := 0) (v := v0)).set (i := 1) (v := v1)).set (i := 2) (v := v2)).set (i := 3) (v := v3)).set (i := 4) (v := v4)

theorem set5_below {w W : World} {H R : Nat} {v0 v1 v2 v3 v4 : Value} (h : Below H w W) (hR : H ≤ R) : Below H w (set5 W R v0 v1 v2 v3 v4) :=
  ((((h.setCell (p := ⟨R, 0, none⟩) hR v0).setCell (p := ⟨R, 1, none⟩) hR v1).setCell (p := ⟨R, 2, none⟩) hR v2).setCell (p := ⟨R, 3, none⟩) hR v3).setCell (p := ⟨R, 4, none⟩) hR v4

set_option maxRecDepth 20000 in
set_option maxHeartbeats 4000000 in
theorem room_2 (w : World) : Calls Try.prog 49 #[.int .i64 2] w fun e w' => e = .returned (.tuple #[rmV ⟨4, 2052, 1, 1, 0⟩, .bool true]) ∧ Below w.heap.size w w' := by
  have hB1 : Below w.heap.size w (w.alloc (.cells #[.int .i64 0, .int .i64 0, .int .i64 0, .int .i64 0, .int .i64 0] 81)) := (Below.refl _ w).alloc (Nat.le_refl _) _
  have HB1 := Lib.hid hB1
  have HC := Lib.hid (room_blk w)
  clear hB1
  go_enter Try.func49, Try.ntmps49
  go_upto_region 1 with fail
  generalize w.alloc (.cells #[.int .i64 0, .int .i64 0, .int .i64 0, .int .i64 0, .int .i64 0] 81) = W1 at HB1 HC ⊢
  have a0 := HC.out.cell (i := 0) rfl
  have a1 := HC.out.cell (i := 1) rfl
  have a2 := HC.out.cell (i := 2) rfl
  have a3 := HC.out.cell (i := 3) rfl
  have a4 := HC.out.cell (i := 4) rfl
  have aq := fun i => HC.out.free (i := i)
  go_wp2_with fail
  have HF := Lib.hid (set5_cel (v0 := .int .i64 4) (v1 := .int .i64 2052) (v2 := .int .i64 1) (v3 := .int .i64 1) (v4 := .int .i64 0) ((((HC.out.set (i := 0) (v := .int .i64 4)).set (i := 1) (v := .int .i64 2052)).set (i := 2) (v := .int .i64 1)).set (i := 3) (v := .int .i64 1)))
  have z0 := HF.out.cell (i := 0) rfl
  have z1 := HF.out.cell (i := 1) rfl
  have z2 := HF.out.cell (i := 2) rfl
  have z3 := HF.out.cell (i := 3) rfl
  have z4 := HF.out.cell (i := 4) rfl
  have HBF := Lib.hid (set5_below (v0 := .int .i64 4) (v1 := .int .i64 2052) (v2 := .int .i64 1) (v3 := .int .i64 1) (v4 := .int .i64 0) ((((HB1.out.setCell (p := ⟨w.heap.size, 0, none⟩) (Nat.le_refl _) (.int .i64 4)).setCell (p := ⟨w.heap.size, 1, none⟩) (Nat.le_refl _) (.int .i64 2052)).setCell (p := ⟨w.heap.size, 2, none⟩) (Nat.le_refl _) (.int .i64 1)).setCell (p := ⟨w.heap.size, 3, none⟩) (Nat.le_refl _) (.int .i64 1)) (Nat.le_refl _))
  unfold set5 at z0 z1 z2 z3 z4
  exact bodyPost_ret (v := .tuple #[rmV ⟨4, 2052, 1, 1, 0⟩, .bool true]) (by simp [results, Try.results49, go_sem, rmV, z0, z1, z2, z3, z4]) rfl ⟨rfl, HBF.out⟩

set_option maxRecDepth 20000 in
set_option maxHeartbeats 4000000 in
theorem room_1 (w : World) : Calls Try.prog 49 #[.int .i64 1] w fun e w' => e = .returned (.tuple #[rmV ⟨0, 0, 1, 1, 0⟩, .bool true]) ∧ Below w.heap.size w w' := by
  have hB1 : Below w.heap.size w (w.alloc (.cells #[.int .i64 0, .int .i64 0, .int .i64 0, .int .i64 0, .int .i64 0] 81)) := (Below.refl _ w).alloc (Nat.le_refl _) _
  have HB1 := Lib.hid hB1
  have HC := Lib.hid (room_blk w)
  clear hB1
  go_enter Try.func49, Try.ntmps49
  go_upto_region 1 with fail
  generalize w.alloc (.cells #[.int .i64 0, .int .i64 0, .int .i64 0, .int .i64 0, .int .i64 0] 81) = W1 at HB1 HC ⊢
  have a0 := HC.out.cell (i := 0) rfl
  have a1 := HC.out.cell (i := 1) rfl
  have a2 := HC.out.cell (i := 2) rfl
  have a3 := HC.out.cell (i := 3) rfl
  have a4 := HC.out.cell (i := 4) rfl
  have aq := fun i => HC.out.free (i := i)
  go_wp2_with fail
  have HF := Lib.hid (set5_cel (v0 := .int .i64 0) (v1 := .int .i64 0) (v2 := .int .i64 1) (v3 := .int .i64 1) (v4 := .int .i64 0) ((HC.out.set (i := 2) (v := .int .i64 1)).set (i := 3) (v := .int .i64 1)))
  have z0 := HF.out.cell (i := 0) rfl
  have z1 := HF.out.cell (i := 1) rfl
  have z2 := HF.out.cell (i := 2) rfl
  have z3 := HF.out.cell (i := 3) rfl
  have z4 := HF.out.cell (i := 4) rfl
  have HBF := Lib.hid (set5_below (v0 := .int .i64 0) (v1 := .int .i64 0) (v2 := .int .i64 1) (v3 := .int .i64 1) (v4 := .int .i64 0) ((HB1.out.setCell (p := ⟨w.heap.size, 2, none⟩) (Nat.le_refl _) (.int .i64 1)).setCell (p := ⟨w.heap.size, 3, none⟩) (Nat.le_refl _) (.int .i64 1)) (Nat.le_refl _))
  unfold set5 at z0 z1 z2 z3 z4
  exact bodyPost_ret (v := .tuple #[rmV ⟨0, 0, 1, 1, 0⟩, .bool true]) (by simp [results, Try.results49, go_sem, rmV, z0, z1, z2, z3, z4]) rfl ⟨rfl, HBF.out⟩

set_option maxRecDepth 20000 in
set_option maxHeartbeats 4000000 in
theorem room_3 (w : World) : Calls Try.prog 49 #[.int .i64 3] w fun e w' => e = .returned (.tuple #[rmV ⟨0, 0, 0, 16, 16⟩, .bool true]) ∧ Below w.heap.size w w' := by
  have hB1 : Below w.heap.size w (w.alloc (.cells #[.int .i64 0, .int .i64 0, .int .i64 0, .int .i64 0, .int .i64 0] 81)) := (Below.refl _ w).alloc (Nat.le_refl _) _
  have HB1 := Lib.hid hB1
  have HC := Lib.hid (room_blk w)
  clear hB1
  go_enter Try.func49, Try.ntmps49
  go_upto_region 1 with fail
  generalize w.alloc (.cells #[.int .i64 0, .int .i64 0, .int .i64 0, .int .i64 0, .int .i64 0] 81) = W1 at HB1 HC ⊢
  have a0 := HC.out.cell (i := 0) rfl
  have a1 := HC.out.cell (i := 1) rfl
  have a2 := HC.out.cell (i := 2) rfl
  have a3 := HC.out.cell (i := 3) rfl
  have a4 := HC.out.cell (i := 4) rfl
  have aq := fun i => HC.out.free (i := i)
  go_wp2_with fail
  have HF := Lib.hid (set5_cel (v0 := .int .i64 0) (v1 := .int .i64 0) (v2 := .int .i64 0) (v3 := .int .i64 16) (v4 := .int .i64 16) ((HC.out.set (i := 3) (v := .int .i64 16)).set (i := 4) (v := .int .i64 16)))
  have z0 := HF.out.cell (i := 0) rfl
  have z1 := HF.out.cell (i := 1) rfl
  have z2 := HF.out.cell (i := 2) rfl
  have z3 := HF.out.cell (i := 3) rfl
  have z4 := HF.out.cell (i := 4) rfl
  have HBF := Lib.hid (set5_below (v0 := .int .i64 0) (v1 := .int .i64 0) (v2 := .int .i64 0) (v3 := .int .i64 16) (v4 := .int .i64 16) ((HB1.out.setCell (p := ⟨w.heap.size, 3, none⟩) (Nat.le_refl _) (.int .i64 16)).setCell (p := ⟨w.heap.size, 4, none⟩) (Nat.le_refl _) (.int .i64 16)) (Nat.le_refl _))
  unfold set5 at z0 z1 z2 z3 z4
  exact bodyPost_ret (v := .tuple #[rmV ⟨0, 0, 0, 16, 16⟩, .bool true]) (by simp [results, Try.results49, go_sem, rmV, z0, z1, z2, z3, z4]) rfl ⟨rfl, HBF.out⟩

set_option maxRecDepth 20000 in
set_option maxHeartbeats 4000000 in
theorem room_4 (w : World) : Calls Try.prog 49 #[.int .i64 4] w fun e w' => e = .returned (.tuple #[rmV ⟨1, 0, 0, 0, 0⟩, .bool true]) ∧ Below w.heap.size w w' := by
  have hB1 : Below w.heap.size w (w.alloc (.cells #[.int .i64 0, .int .i64 0, .int .i64 0, .int .i64 0, .int .i64 0] 81)) := (Below.refl _ w).alloc (Nat.le_refl _) _
  have HB1 := Lib.hid hB1
  have HC := Lib.hid (room_blk w)
  clear hB1
  go_enter Try.func49, Try.ntmps49
  go_upto_region 1 with fail
  generalize w.alloc (.cells #[.int .i64 0, .int .i64 0, .int .i64 0, .int .i64 0, .int .i64 0] 81) = W1 at HB1 HC ⊢
  have a0 := HC.out.cell (i := 0) rfl
  have a1 := HC.out.cell (i := 1) rfl
  have a2 := HC.out.cell (i := 2) rfl
  have a3 := HC.out.cell (i := 3) rfl
  have a4 := HC.out.cell (i := 4) rfl
  have aq := fun i => HC.out.free (i := i)
  go_wp2_with fail
  have HF := Lib.hid (set5_cel (v0 := .int .i64 1) (v1 := .int .i64 0) (v2 := .int .i64 0) (v3 := .int .i64 0) (v4 := .int .i64 0) (HC.out.set (i := 0) (v := .int .i64 1)))
  have z0 := HF.out.cell (i := 0) rfl
  have z1 := HF.out.cell (i := 1) rfl
  have z2 := HF.out.cell (i := 2) rfl
  have z3 := HF.out.cell (i := 3) rfl
  have z4 := HF.out.cell (i := 4) rfl
  have HBF := Lib.hid (set5_below (v0 := .int .i64 1) (v1 := .int .i64 0) (v2 := .int .i64 0) (v3 := .int .i64 0) (v4 := .int .i64 0) (HB1.out.setCell (p := ⟨w.heap.size, 0, none⟩) (Nat.le_refl _) (.int .i64 1)) (Nat.le_refl _))
  unfold set5 at z0 z1 z2 z3 z4
  exact bodyPost_ret (v := .tuple #[rmV ⟨1, 0, 0, 0, 0⟩, .bool true]) (by simp [results, Try.results49, go_sem, rmV, z0, z1, z2, z3, z4]) rfl ⟨rfl, HBF.out⟩

set_option maxRecDepth 20000 in
set_option maxHeartbeats 4000000 in
theorem room_8 (w : World) : Calls Try.prog 49 #[.int .i64 8] w fun e w' => e = .returned (.tuple #[rmV ⟨2, 0, 0, 0, 0⟩, .bool true]) ∧ Below w.heap.size w w' := by
  have hB1 : Below w.heap.size w (w.alloc (.cells #[.int .i64 0, .int .i64 0, .int .i64 0, .int .i64 0, .int .i64 0] 81)) := (Below.refl _ w).alloc (Nat.le_refl _) _
  have HB1 := Lib.hid hB1
  have HC := Lib.hid (room_blk w)
  clear hB1
  go_enter Try.func49, Try.ntmps49
  go_upto_region 1 with fail
  generalize w.alloc (.cells #[.int .i64 0, .int .i64 0, .int .i64 0, .int .i64 0, .int .i64 0] 81) = W1 at HB1 HC ⊢
  have a0 := HC.out.cell (i := 0) rfl
  have a1 := HC.out.cell (i := 1) rfl
  have a2 := HC.out.cell (i := 2) rfl
  have a3 := HC.out.cell (i := 3) rfl
  have a4 := HC.out.cell (i := 4) rfl
  have aq := fun i => HC.out.free (i := i)
  go_wp2_with fail
  have HF := Lib.hid (set5_cel (v0 := .int .i64 2) (v1 := .int .i64 0) (v2 := .int .i64 0) (v3 := .int .i64 0) (v4 := .int .i64 0) (HC.out.set (i := 0) (v := .int .i64 2)))
  have z0 := HF.out.cell (i := 0) rfl
  have z1 := HF.out.cell (i := 1) rfl
  have z2 := HF.out.cell (i := 2) rfl
  have z3 := HF.out.cell (i := 3) rfl
  have z4 := HF.out.cell (i := 4) rfl
  have HBF := Lib.hid (set5_below (v0 := .int .i64 2) (v1 := .int .i64 0) (v2 := .int .i64 0) (v3 := .int .i64 0) (v4 := .int .i64 0) (HB1.out.setCell (p := ⟨w.heap.size, 0, none⟩) (Nat.le_refl _) (.int .i64 2)) (Nat.le_refl _))
  unfold set5 at z0 z1 z2 z3 z4
  exact bodyPost_ret (v := .tuple #[rmV ⟨2, 0, 0, 0, 0⟩, .bool true]) (by simp [results, Try.results49, go_sem, rmV, z0, z1, z2, z3, z4]) rfl ⟨rfl, HBF.out⟩

set_option maxRecDepth 20000 in
set_option maxHeartbeats 4000000 in
theorem room_5 (w : World) : Calls Try.prog 49 #[.int .i64 5] w fun e w' => e = .returned (.tuple #[rmV ⟨0, 0, 0, 0, 0⟩, .bool true]) ∧ Below w.heap.size w w' := by
  have hB1 : Below w.heap.size w (w.alloc (.cells #[.int .i64 0, .int .i64 0, .int .i64 0, .int .i64 0, .int .i64 0] 81)) := (Below.refl _ w).alloc (Nat.le_refl _) _
  have HB1 := Lib.hid hB1
  have HC := Lib.hid (room_blk w)
  clear hB1
  go_enter Try.func49, Try.ntmps49
  go_upto_region 1 with fail
  generalize w.alloc (.cells #[.int .i64 0, .int .i64 0, .int .i64 0, .int .i64 0, .int .i64 0] 81) = W1 at HB1 HC ⊢
  have a0 := HC.out.cell (i := 0) rfl
  have a1 := HC.out.cell (i := 1) rfl
  have a2 := HC.out.cell (i := 2) rfl
  have a3 := HC.out.cell (i := 3) rfl
  have a4 := HC.out.cell (i := 4) rfl
  have aq := fun i => HC.out.free (i := i)
  go_wp2_with fail
  have HF := Lib.hid (set5_cel (v0 := .int .i64 0) (v1 := .int .i64 0) (v2 := .int .i64 0) (v3 := .int .i64 0) (v4 := .int .i64 0) HC.out)
  have z0 := HF.out.cell (i := 0) rfl
  have z1 := HF.out.cell (i := 1) rfl
  have z2 := HF.out.cell (i := 2) rfl
  have z3 := HF.out.cell (i := 3) rfl
  have z4 := HF.out.cell (i := 4) rfl
  have HBF := Lib.hid (set5_below (v0 := .int .i64 0) (v1 := .int .i64 0) (v2 := .int .i64 0) (v3 := .int .i64 0) (v4 := .int .i64 0) HB1.out (Nat.le_refl _))
  unfold set5 at z0 z1 z2 z3 z4
  exact bodyPost_ret (v := .tuple #[rmV ⟨0, 0, 0, 0, 0⟩, .bool true]) (by simp [results, Try.results49, go_sem, rmV, z0, z1, z2, z3, z4]) rfl ⟨rfl, HBF.out⟩

set_option maxRecDepth 20000 in
set_option maxHeartbeats 4000000 in
theorem room_6 (w : World) : Calls Try.prog 49 #[.int .i64 6] w fun e w' => e = .returned (.tuple #[rmV ⟨0, 0, 0, 0, 0⟩, .bool true]) ∧ Below w.heap.size w w' := by
  have hB1 : Below w.heap.size w (w.alloc (.cells #[.int .i64 0, .int .i64 0, .int .i64 0, .int .i64 0, .int .i64 0] 81)) := (Below.refl _ w).alloc (Nat.le_refl _) _
  have HB1 := Lib.hid hB1
  have HC := Lib.hid (room_blk w)
  clear hB1
  go_enter Try.func49, Try.ntmps49
  go_upto_region 1 with fail
  generalize w.alloc (.cells #[.int .i64 0, .int .i64 0, .int .i64 0, .int .i64 0, .int .i64 0] 81) = W1 at HB1 HC ⊢
  have a0 := HC.out.cell (i := 0) rfl
  have a1 := HC.out.cell (i := 1) rfl
  have a2 := HC.out.cell (i := 2) rfl
  have a3 := HC.out.cell (i := 3) rfl
  have a4 := HC.out.cell (i := 4) rfl
  have aq := fun i => HC.out.free (i := i)
  go_wp2_with fail
  have HF := Lib.hid (set5_cel (v0 := .int .i64 0) (v1 := .int .i64 0) (v2 := .int .i64 0) (v3 := .int .i64 0) (v4 := .int .i64 0) HC.out)
  have z0 := HF.out.cell (i := 0) rfl
  have z1 := HF.out.cell (i := 1) rfl
  have z2 := HF.out.cell (i := 2) rfl
  have z3 := HF.out.cell (i := 3) rfl
  have z4 := HF.out.cell (i := 4) rfl
  have HBF := Lib.hid (set5_below (v0 := .int .i64 0) (v1 := .int .i64 0) (v2 := .int .i64 0) (v3 := .int .i64 0) (v4 := .int .i64 0) HB1.out (Nat.le_refl _))
  unfold set5 at z0 z1 z2 z3 z4
  exact bodyPost_ret (v := .tuple #[rmV ⟨0, 0, 0, 0, 0⟩, .bool true]) (by simp [results, Try.results49, go_sem, rmV, z0, z1, z2, z3, z4]) rfl ⟨rfl, HBF.out⟩

set_option maxRecDepth 20000 in
set_option maxHeartbeats 4000000 in
theorem room_7 (w : World) : Calls Try.prog 49 #[.int .i64 7] w fun e w' => e = .returned (.tuple #[rmV ⟨0, 0, 0, 0, 0⟩, .bool true]) ∧ Below w.heap.size w w' := by
  have hB1 : Below w.heap.size w (w.alloc (.cells #[.int .i64 0, .int .i64 0, .int .i64 0, .int .i64 0, .int .i64 0] 81)) := (Below.refl _ w).alloc (Nat.le_refl _) _
  have HB1 := Lib.hid hB1
  have HC := Lib.hid (room_blk w)
  clear hB1
  go_enter Try.func49, Try.ntmps49
  go_upto_region 1 with fail
  generalize w.alloc (.cells #[.int .i64 0, .int .i64 0, .int .i64 0, .int .i64 0, .int .i64 0] 81) = W1 at HB1 HC ⊢
  have a0 := HC.out.cell (i := 0) rfl
  have a1 := HC.out.cell (i := 1) rfl
  have a2 := HC.out.cell (i := 2) rfl
  have a3 := HC.out.cell (i := 3) rfl
  have a4 := HC.out.cell (i := 4) rfl
  have aq := fun i => HC.out.free (i := i)
  go_wp2_with fail
  have HF := Lib.hid (set5_cel (v0 := .int .i64 0) (v1 := .int .i64 0) (v2 := .int .i64 0) (v3 := .int .i64 0) (v4 := .int .i64 0) HC.out)
  have z0 := HF.out.cell (i := 0) rfl
  have z1 := HF.out.cell (i := 1) rfl
  have z2 := HF.out.cell (i := 2) rfl
  have z3 := HF.out.cell (i := 3) rfl
  have z4 := HF.out.cell (i := 4) rfl
  have HBF := Lib.hid (set5_below (v0 := .int .i64 0) (v1 := .int .i64 0) (v2 := .int .i64 0) (v3 := .int .i64 0) (v4 := .int .i64 0) HB1.out (Nat.le_refl _))
  unfold set5 at z0 z1 z2 z3 z4
  exact bodyPost_ret (v := .tuple #[rmV ⟨0, 0, 0, 0, 0⟩, .bool true]) (by simp [results, Try.results49, go_sem, rmV, z0, z1, z2, z3, z4]) rfl ⟨rfl, HBF.out⟩

set_option maxRecDepth 20000 in
set_option maxHeartbeats 4000000 in
theorem room_no (k : Int) (n1 : (k == 1) = false) (n2 : (k == 2) = false) (n3 : (k == 3) = false) (n4 : (k == 4) = false) (n5 : (k == 5) = false) (n6 : (k == 6) = false) (n7 : (k == 7) = false) (n8 : (k == 8) = false) (w : World) : Calls Try.prog 49 #[.int .i64 k] w fun e w' => e = .returned (.tuple #[rmV ⟨0, 0, 0, 0, 0⟩, .bool false]) ∧ Below w.heap.size w w' := by
  have hB1 : Below w.heap.size w (w.alloc (.cells #[.int .i64 0, .int .i64 0, .int .i64 0, .int .i64 0, .int .i64 0] 81)) := (Below.refl _ w).alloc (Nat.le_refl _) _
  have HB1 := Lib.hid hB1
  have HC := Lib.hid (room_blk w)
  clear hB1
  go_enter Try.func49, Try.ntmps49
  go_upto_region 1 with fail
  generalize w.alloc (.cells #[.int .i64 0, .int .i64 0, .int .i64 0, .int .i64 0, .int .i64 0] 81) = W1 at HB1 HC ⊢
  have a0 := HC.out.cell (i := 0) rfl
  have a1 := HC.out.cell (i := 1) rfl
  have a2 := HC.out.cell (i := 2) rfl
  have a3 := HC.out.cell (i := 3) rfl
  have a4 := HC.out.cell (i := 4) rfl
  have aq := fun i => HC.out.free (i := i)
  go_wp2_with fail
  have HF := Lib.hid (set5_cel (v0 := .int .i64 0) (v1 := .int .i64 0) (v2 := .int .i64 0) (v3 := .int .i64 0) (v4 := .int .i64 0) HC.out)
  have z0 := HF.out.cell (i := 0) rfl
  have z1 := HF.out.cell (i := 1) rfl
  have z2 := HF.out.cell (i := 2) rfl
  have z3 := HF.out.cell (i := 3) rfl
  have z4 := HF.out.cell (i := 4) rfl
  have HBF := Lib.hid (set5_below (v0 := .int .i64 0) (v1 := .int .i64 0) (v2 := .int .i64 0) (v3 := .int .i64 0) (v4 := .int .i64 0) HB1.out (Nat.le_refl _))
  unfold set5 at z0 z1 z2 z3 z4
  exact bodyPost_ret (v := .tuple #[rmV ⟨0, 0, 0, 0, 0⟩, .bool false]) (by simp [results, Try.results49, go_sem, rmV, z0, z1, z2, z3, z4]) rfl ⟨rfl, HBF.out⟩

theorem roomOf_any (k : Int) (w : World) : Calls Try.prog 49 #[.int .i64 k] w fun e w' => e = .returned (.tuple #[rmV (roomR k).1, .bool (roomR k).2]) ∧ Below w.heap.size w w' := by
  have hn : ∀ z : Int, ¬ k = z → (k == z) = false := fun z h => by simpa using h
  by_cases h1 : k = 1
  · subst h1; exact room_1 w
  by_cases h2 : k = 2
  · subst h2; exact room_2 w
  by_cases h3 : k = 3
  · subst h3; exact room_3 w
  by_cases h4 : k = 4
  · subst h4; exact room_4 w
  by_cases h5 : k = 5
  · subst h5; exact room_5 w
  by_cases h6 : k = 6
  · subst h6; exact room_6 w
  by_cases h7 : k = 7
  · subst h7; exact room_7 w
  by_cases h8 : k = 8
  · subst h8; exact room_8 w
  have e : roomR k = (⟨0, 0, 0, 0, 0⟩, false) := by
    unfold roomR
    rw [if_neg h1, if_neg h2, if_neg h3, if_neg h4, if_neg h8, if_neg (by omega)]
  rw [e]
  exact room_no k (hn _ h1) (hn _ h2) (hn _ h3) (hn _ h4) (hn _ h5) (hn _ h6) (hn _ h7) (hn _ h8) w

end Lt
end Go.Proofs.Ytmllaighjhpbmaa
