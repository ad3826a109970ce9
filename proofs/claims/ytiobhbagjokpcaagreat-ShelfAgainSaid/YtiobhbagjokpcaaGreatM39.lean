/- Parts of the proof, joined: LtRoom, LtHolds; their conditions stand with each. -/
import Derived.Test.YtiobhbagjokpcaaGreatM16
import Derived.Test.YtiobhbagjokpcaaGreatM38

/- What the landed package's roomOf answers; contract; no condition. -/
namespace Go.Proofs.YtiobhbagjokpcaaGreat
namespace Lt
open Go.RowKit Bk

attribute [local go_sem ↓] Go.wp_at_zero Go.wp_at_succ
attribute [local go_sem] floatUpon pick

/-- five cells are written over -/
def set5 (W : World) (R : Nat) (v0 v1 v2 v3 v4 : Value) : World :=
  (((((W.setCell ⟨R, 0, none⟩ v0).setCell ⟨R, 1, none⟩ v1).setCell ⟨R, 2, none⟩ v2).setCell ⟨R, 3, none⟩ v3).setCell ⟨R, 4, none⟩ v4)

theorem set5_cel {W : World} {R : Nat} {t : TypeId} {u0 u1 u2 u3 u4 v0 v1 v2 v3 v4 : Value} (h : Cel W R t [u0, u1, u2, u3, u4]) : Cel (set5 W R v0 v1 v2 v3 v4) R t [v0, v1, v2, v3, v4] :=
  ((((h.set (i := 0) (v := v0)).set (i := 1) (v := v1)).set (i := 2) (v := v2)).set (i := 3) (v := v3)).set (i := 4) (v := v4)

theorem set5_below {w W : World} {H R : Nat} {v0 v1 v2 v3 v4 : Value} (h : Below H w W) (hR : H ≤ R) : Below H w (set5 W R v0 v1 v2 v3 v4) :=
  ((((h.setCell (p := ⟨R, 0, none⟩) hR v0).setCell (p := ⟨R, 1, none⟩) hR v1).setCell (p := ⟨R, 2, none⟩) hR v2).setCell (p := ⟨R, 3, none⟩) hR v3).setCell (p := ⟨R, 4, none⟩) hR v4

set_option maxRecDepth 20000 in
set_option maxHeartbeats 4000000 in
theorem room_2 (w : World) : Calls Tryz.prog 158 #[.int .i64 2] w fun e w' => e = .returned (.tuple #[rmV ⟨4, 2052, 1, 1, 0⟩, .bool true]) ∧ Below w.heap.size w w' := by
  have hB1 : Below w.heap.size w (w.alloc (.cells #[.int .i64 0, .int .i64 0, .int .i64 0, .int .i64 0, .int .i64 0] 185)) := (Below.refl _ w).alloc (Nat.le_refl _) _
  have HB1 := Lib.hid hB1
  have HC := Lib.hid (room_blk w)
  clear hB1
  go_enter Tryz.func158, Tryz.ntmps158
  go_upto_region 1 with fail
  generalize w.alloc (.cells #[.int .i64 0, .int .i64 0, .int .i64 0, .int .i64 0, .int .i64 0] 185) = W1 at HB1 HC ⊢
  have a0 := HC.out.cell (i := 0) rfl
  have a1 := HC.out.cell (i := 1) rfl
  have a2 := HC.out.cell (i := 2) rfl
  have a3 := HC.out.cell (i := 3) rfl
  have a4 := HC.out.cell (i := 4) rfl
  have aq := fun i => HC.out.free (i := i)
  go_wp2_with fail
  have HF := Lib.hid (set5_cel (v0 := .int .i64 4) (v1 := .int .i64 2052) (v2 := .int .i64 1) (v3 := .int .i64 1) (v4 := .int .i64 0) ((((HC.out.set (i := 0) (v := .int .i64 4)).set (i := 1) (v := .int .i64 2052)).set (i := 2) (v := .int .i64 1)).set (i := 3) (v := .int .i64 1)))
  have z0 := HF.out.cell (i := 0) rfl
  have z1 := HF.out.cell (i := 1) rfl
  have z2 := HF.out.cell (i := 2) rfl
  have z3 := HF.out.cell (i := 3) rfl
  have z4 := HF.out.cell (i := 4) rfl
  have HBF := Lib.hid (set5_below (v0 := .int .i64 4) (v1 := .int .i64 2052) (v2 := .int .i64 1) (v3 := .int .i64 1) (v4 := .int .i64 0) ((((HB1.out.setCell (p := ⟨w.heap.size, 0, none⟩) (Nat.le_refl _) (.int .i64 4)).setCell (p := ⟨w.heap.size, 1, none⟩) (Nat.le_refl _) (.int .i64 2052)).setCell (p := ⟨w.heap.size, 2, none⟩) (Nat.le_refl _) (.int .i64 1)).setCell (p := ⟨w.heap.size, 3, none⟩) (Nat.le_refl _) (.int .i64 1)) (Nat.le_refl _))
  unfold set5 at z0 z1 z2 z3 z4
  exact bodyPost_ret (v := .tuple #[rmV ⟨4, 2052, 1, 1, 0⟩, .bool true]) (by simp [results, Tryz.results158, go_sem, rmV, z0, z1, z2, z3, z4]) rfl ⟨rfl, HBF.out⟩

set_option maxRecDepth 20000 in
set_option maxHeartbeats 4000000 in
theorem room_1 (w : World) : Calls Tryz.prog 158 #[.int .i64 1] w fun e w' => e = .returned (.tuple #[rmV ⟨0, 0, 1, 1, 0⟩, .bool true]) ∧ Below w.heap.size w w' := by
  have hB1 : Below w.heap.size w (w.alloc (.cells #[.int .i64 0, .int .i64 0, .int .i64 0, .int .i64 0, .int .i64 0] 185)) := (Below.refl _ w).alloc (Nat.le_refl _) _
  have HB1 := Lib.hid hB1
  have HC := Lib.hid (room_blk w)
  clear hB1
  go_enter Tryz.func158, Tryz.ntmps158
  go_upto_region 1 with fail
  generalize w.alloc (.cells #[.int .i64 0, .int .i64 0, .int .i64 0, .int .i64 0, .int .i64 0] 185) = W1 at HB1 HC ⊢
  have a0 := HC.out.cell (i := 0) rfl
  have a1 := HC.out.cell (i := 1) rfl
  have a2 := HC.out.cell (i := 2) rfl
  have a3 := HC.out.cell (i := 3) rfl
  have a4 := HC.out.cell (i := 4) rfl
  have aq := fun i => HC.out.free (i := i)
  go_wp2_with fail
  have HF := Lib.hid (set5_cel (v0 := .int .i64 0) (v1 := .int .i64 0) (v2 := .int .i64 1) (v3 := .int .i64 1) (v4 := .int .i64 0) ((HC.out.set (i := 2) (v := .int .i64 1)).set (i := 3) (v := .int .i64 1)))
  have z0 := HF.out.cell (i := 0) rfl
  have z1 := HF.out.cell (i := 1) rfl
  have z2 := HF.out.cell (i := 2) rfl
  have z3 := HF.out.cell (i := 3) rfl
  have z4 := HF.out.cell (i := 4) rfl
  have HBF := Lib.hid (set5_below (v0 := .int .i64 0) (v1 := .int .i64 0) (v2 := .int .i64 1) (v3 := .int .i64 1) (v4 := .int .i64 0) ((HB1.out.setCell (p := ⟨w.heap.size, 2, none⟩) (Nat.le_refl _) (.int .i64 1)).setCell (p := ⟨w.heap.size, 3, none⟩) (Nat.le_refl _) (.int .i64 1)) (Nat.le_refl _))
  unfold set5 at z0 z1 z2 z3 z4
  exact bodyPost_ret (v := .tuple #[rmV ⟨0, 0, 1, 1, 0⟩, .bool true]) (by simp [results, Tryz.results158, go_sem, rmV, z0, z1, z2, z3, z4]) rfl ⟨rfl, HBF.out⟩

set_option maxRecDepth 20000 in
set_option maxHeartbeats 4000000 in
theorem room_3 (w : World) : Calls Tryz.prog 158 #[.int .i64 3] w fun e w' => e = .returned (.tuple #[rmV ⟨0, 0, 0, 16, 16⟩, .bool true]) ∧ Below w.heap.size w w' := by
  have hB1 : Below w.heap.size w (w.alloc (.cells #[.int .i64 0, .int .i64 0, .int .i64 0, .int .i64 0, .int .i64 0] 185)) := (Below.refl _ w).alloc (Nat.le_refl _) _
  have HB1 := Lib.hid hB1
  have HC := Lib.hid (room_blk w)
  clear hB1
  go_enter Tryz.func158, Tryz.ntmps158
  go_upto_region 1 with fail
  generalize w.alloc (.cells #[.int .i64 0, .int .i64 0, .int .i64 0, .int .i64 0, .int .i64 0] 185) = W1 at HB1 HC ⊢
  have a0 := HC.out.cell (i := 0) rfl
  have a1 := HC.out.cell (i := 1) rfl
  have a2 := HC.out.cell (i := 2) rfl
  have a3 := HC.out.cell (i := 3) rfl
  have a4 := HC.out.cell (i := 4) rfl
  have aq := fun i => HC.out.free (i := i)
  go_wp2_with fail
  have HF := Lib.hid (set5_cel (v0 := .int .i64 0) (v1 := .int .i64 0) (v2 := .int .i64 0) (v3 := .int .i64 16) (v4 := .int .i64 16) ((HC.out.set (i := 3) (v := .int .i64 16)).set (i := 4) (v := .int .i64 16)))
  have z0 := HF.out.cell (i := 0) rfl
  have z1 := HF.out.cell (i := 1) rfl
  have z2 := HF.out.cell (i := 2) rfl
  have z3 := HF.out.cell (i := 3) rfl
  have z4 := HF.out.cell (i := 4) rfl
  have HBF := Lib.hid (set5_below (v0 := .int .i64 0) (v1 := .int .i64 0) (v2 := .int .i64 0) (v3 := .int .i64 16) (v4 := .int .i64 16) ((HB1.out.setCell (p := ⟨w.heap.size, 3, none⟩) (Nat.le_refl _) (.int .i64 16)).setCell (p := ⟨w.heap.size, 4, none⟩) (Nat.le_refl _) (.int .i64 16)) (Nat.le_refl _))
  unfold set5 at z0 z1 z2 z3 z4
  exact bodyPost_ret (v := .tuple #[rmV ⟨0, 0, 0, 16, 16⟩, .bool true]) (by simp [results, Tryz.results158, go_sem, rmV, z0, z1, z2, z3, z4]) rfl ⟨rfl, HBF.out⟩

set_option maxRecDepth 20000 in
set_option maxHeartbeats 4000000 in
theorem room_4 (w : World) : Calls Tryz.prog 158 #[.int .i64 4] w fun e w' => e = .returned (.tuple #[rmV ⟨1, 0, 0, 0, 0⟩, .bool true]) ∧ Below w.heap.size w w' := by
  have hB1 : Below w.heap.size w (w.alloc (.cells #[.int .i64 0, .int .i64 0, .int .i64 0, .int .i64 0, .int .i64 0] 185)) := (Below.refl _ w).alloc (Nat.le_refl _) _
  have HB1 := Lib.hid hB1
  have HC := Lib.hid (room_blk w)
  clear hB1
  go_enter Tryz.func158, Tryz.ntmps158
  go_upto_region 1 with fail
  generalize w.alloc (.cells #[.int .i64 0, .int .i64 0, .int .i64 0, .int .i64 0, .int .i64 0] 185) = W1 at HB1 HC ⊢
  have a0 := HC.out.cell (i := 0) rfl
  have a1 := HC.out.cell (i := 1) rfl
  have a2 := HC.out.cell (i := 2) rfl
  have a3 := HC.out.cell (i := 3) rfl
  have a4 := HC.out.cell (i := 4) rfl
  have aq := fun i => HC.out.free (i := i)
  go_wp2_with fail
  have HF := Lib.hid (set5_cel (v0 := .int .i64 1) (v1 := .int .i64 0) (v2 := .int .i64 0) (v3 := .int .i64 0) (v4 := .int .i64 0) (HC.out.set (i := 0) (v := .int .i64 1)))
  have z0 := HF.out.cell (i := 0) rfl
  have z1 := HF.out.cell (i := 1) rfl
  have z2 := HF.out.cell (i := 2) rfl
  have z3 := HF.out.cell (i := 3) rfl
  have z4 := HF.out.cell (i := 4) rfl
  have HBF := Lib.hid (set5_below (v0 := .int .i64 1) (v1 := .int .i64 0) (v2 := .int .i64 0) (v3 := .int .i64 0) (v4 := .int .i64 0) (HB1.out.setCell (p := ⟨w.heap.size, 0, none⟩) (Nat.le_refl _) (.int .i64 1)) (Nat.le_refl _))
  unfold set5 at z0 z1 z2 z3 z4
  exact bodyPost_ret (v := .tuple #[rmV ⟨1, 0, 0, 0, 0⟩, .bool true]) (by simp [results, Tryz.results158, go_sem, rmV, z0, z1, z2, z3, z4]) rfl ⟨rfl, HBF.out⟩

set_option maxRecDepth 20000 in
set_option maxHeartbeats 4000000 in
theorem room_8 (w : World) : Calls Tryz.prog 158 #[.int .i64 8] w fun e w' => e = .returned (.tuple #[rmV ⟨2, 0, 0, 0, 0⟩, .bool true]) ∧ Below w.heap.size w w' := by
  have hB1 : Below w.heap.size w (w.alloc (.cells #[.int .i64 0, .int .i64 0, .int .i64 0, .int .i64 0, .int .i64 0] 185)) := (Below.refl _ w).alloc (Nat.le_refl _) _
  have HB1 := Lib.hid hB1
  have HC := Lib.hid (room_blk w)
  clear hB1
  go_enter Tryz.func158, Tryz.ntmps158
  go_upto_region 1 with fail
  generalize w.alloc (.cells #[.int .i64 0, .int .i64 0, .int .i64 0, .int .i64 0, .int .i64 0] 185) = W1 at HB1 HC ⊢
  have a0 := HC.out.cell (i := 0) rfl
  have a1 := HC.out.cell (i := 1) rfl
  have a2 := HC.out.cell (i := 2) rfl
  have a3 := HC.out.cell (i := 3) rfl
  have a4 := HC.out.cell (i := 4) rfl
  have aq := fun i => HC.out.free (i := i)
  go_wp2_with fail
  have HF := Lib.hid (set5_cel (v0 := .int .i64 2) (v1 := .int .i64 0) (v2 := .int .i64 0) (v3 := .int .i64 0) (v4 := .int .i64 0) (HC.out.set (i := 0) (v := .int .i64 2)))
  have z0 := HF.out.cell (i := 0) rfl
  have z1 := HF.out.cell (i := 1) rfl
  have z2 := HF.out.cell (i := 2) rfl
  have z3 := HF.out.cell (i := 3) rfl
  have z4 := HF.out.cell (i := 4) rfl
  have HBF := Lib.hid (set5_below (v0 := .int .i64 2) (v1 := .int .i64 0) (v2 := .int .i64 0) (v3 := .int .i64 0) (v4 := .int .i64 0) (HB1.out.setCell (p := ⟨w.heap.size, 0, none⟩) (Nat.le_refl _) (.int .i64 2)) (Nat.le_refl _))
  unfold set5 at z0 z1 z2 z3 z4
  exact bodyPost_ret (v := .tuple #[rmV ⟨2, 0, 0, 0, 0⟩, .bool true]) (by simp [results, Tryz.results158, go_sem, rmV, z0, z1, z2, z3, z4]) rfl ⟨rfl, HBF.out⟩

set_option maxRecDepth 20000 in
set_option maxHeartbeats 4000000 in
theorem room_5 (w : World) : Calls Tryz.prog 158 #[.int .i64 5] w fun e w' => e = .returned (.tuple #[rmV ⟨0, 0, 0, 0, 0⟩, .bool true]) ∧ Below w.heap.size w w' := by
  have hB1 : Below w.heap.size w (w.alloc (.cells #[.int .i64 0, .int .i64 0, .int .i64 0, .int .i64 0, .int .i64 0] 185)) := (Below.refl _ w).alloc (Nat.le_refl _) _
  have HB1 := Lib.hid hB1
  have HC := Lib.hid (room_blk w)
  clear hB1
  go_enter Tryz.func158, Tryz.ntmps158
  go_upto_region 1 with fail
  generalize w.alloc (.cells #[.int .i64 0, .int .i64 0, .int .i64 0, .int .i64 0, .int .i64 0] 185) = W1 at HB1 HC ⊢
  have a0 := HC.out.cell (i := 0) rfl
  have a1 := HC.out.cell (i := 1) rfl
  have a2 := HC.out.cell (i := 2) rfl
  have a3 := HC.out.cell (i := 3) rfl
  have a4 := HC.out.cell (i := 4) rfl
  have aq := fun i => HC.out.free (i := i)
  go_wp2_with fail
  have HF := Lib.hid (set5_cel (v0 := .int .i64 0) (v1 := .int .i64 0) (v2 := .int .i64 0) (v3 := .int .i64 0) (v4 := .int .i64 0) HC.out)
  have z0 := HF.out.cell (i := 0) rfl
  have z1 := HF.out.cell (i := 1) rfl
  have z2 := HF.out.cell (i := 2) rfl
  have z3 := HF.out.cell (i := 3) rfl
  have z4 := HF.out.cell (i := 4) rfl
  have HBF := Lib.hid (set5_below (v0 := .int .i64 0) (v1 := .int .i64 0) (v2 := .int .i64 0) (v3 := .int .i64 0) (v4 := .int .i64 0) HB1.out (Nat.le_refl _))
  unfold set5 at z0 z1 z2 z3 z4
  exact bodyPost_ret (v := .tuple #[rmV ⟨0, 0, 0, 0, 0⟩, .bool true]) (by simp [results, Tryz.results158, go_sem, rmV, z0, z1, z2, z3, z4]) rfl ⟨rfl, HBF.out⟩

set_option maxRecDepth 20000 in
set_option maxHeartbeats 4000000 in
theorem room_6 (w : World) : Calls Tryz.prog 158 #[.int .i64 6] w fun e w' => e = .returned (.tuple #[rmV ⟨0, 0, 0, 0, 0⟩, .bool true]) ∧ Below w.heap.size w w' := by
  have hB1 : Below w.heap.size w (w.alloc (.cells #[.int .i64 0, .int .i64 0, .int .i64 0, .int .i64 0, .int .i64 0] 185)) := (Below.refl _ w).alloc (Nat.le_refl _) _
  have HB1 := Lib.hid hB1
  have HC := Lib.hid (room_blk w)
  clear hB1
  go_enter Tryz.func158, Tryz.ntmps158
  go_upto_region 1 with fail
  generalize w.alloc (.cells #[.int .i64 0, .int .i64 0, .int .i64 0, .int .i64 0, .int .i64 0] 185) = W1 at HB1 HC ⊢
  have a0 := HC.out.cell (i := 0) rfl
  have a1 := HC.out.cell (i := 1) rfl
  have a2 := HC.out.cell (i := 2) rfl
  have a3 := HC.out.cell (i := 3) rfl
  have a4 := HC.out.cell (i := 4) rfl
  have aq := fun i => HC.out.free (i := i)
  go_wp2_with fail
  have HF := Lib.hid (set5_cel (v0 := .int .i64 0) (v1 := .int .i64 0) (v2 := .int .i64 0) (v3 := .int .i64 0) (v4 := .int .i64 0) HC.out)
  have z0 := HF.out.cell (i := 0) rfl
  have z1 := HF.out.cell (i := 1) rfl
  have z2 := HF.out.cell (i := 2) rfl
  have z3 := HF.out.cell (i := 3) rfl
  have z4 := HF.out.cell (i := 4) rfl
  have HBF := Lib.hid (set5_below (v0 := .int .i64 0) (v1 := .int .i64 0) (v2 := .int .i64 0) (v3 := .int .i64 0) (v4 := .int .i64 0) HB1.out (Nat.le_refl _))
  unfold set5 at z0 z1 z2 z3 z4
  exact bodyPost_ret (v := .tuple #[rmV ⟨0, 0, 0, 0, 0⟩, .bool true]) (by simp [results, Tryz.results158, go_sem, rmV, z0, z1, z2, z3, z4]) rfl ⟨rfl, HBF.out⟩

set_option maxRecDepth 20000 in
set_option maxHeartbeats 4000000 in
theorem room_7 (w : World) : Calls Tryz.prog 158 #[.int .i64 7] w fun e w' => e = .returned (.tuple #[rmV ⟨0, 0, 0, 0, 0⟩, .bool true]) ∧ Below w.heap.size w w' := by
  have hB1 : Below w.heap.size w (w.alloc (.cells #[.int .i64 0, .int .i64 0, .int .i64 0, .int .i64 0, .int .i64 0] 185)) := (Below.refl _ w).alloc (Nat.le_refl _) _
  have HB1 := Lib.hid hB1
  have HC := Lib.hid (room_blk w)
  clear hB1
  go_enter Tryz.func158, Tryz.ntmps158
  go_upto_region 1 with fail
  generalize w.alloc (.cells #[.int .i64 0, .int .i64 0, .int .i64 0, .int .i64 0, .int .i64 0] 185) = W1 at HB1 HC ⊢
  have a0 := HC.out.cell (i := 0) rfl
  have a1 := HC.out.cell (i := 1) rfl
  have a2 := HC.out.cell (i := 2) rfl
  have a3 := HC.out.cell (i := 3) rfl
  have a4 := HC.out.cell (i := 4) rfl
  have aq := fun i => HC.out.free (i := i)
  go_wp2_with fail
  have HF := Lib.hid (set5_cel (v0 := .int .i64 0) (v1 := .int .i64 0) (v2 := .int .i64 0) (v3 := .int .i64 0) (v4 := .int .i64 0) HC.out)
  have z0 := HF.out.cell (i := 0) rfl
  have z1 := HF.out.cell (i := 1) rfl
  have z2 := HF.out.cell (i := 2) rfl
  have z3 := HF.out.cell (i := 3) rfl
  have z4 := HF.out.cell (i := 4) rfl
  have HBF := Lib.hid (set5_below (v0 := .int .i64 0) (v1 := .int .i64 0) (v2 := .int .i64 0) (v3 := .int .i64 0) (v4 := .int .i64 0) HB1.out (Nat.le_refl _))
  unfold set5 at z0 z1 z2 z3 z4
  exact bodyPost_ret (v := .tuple #[rmV ⟨0, 0, 0, 0, 0⟩, .bool true]) (by simp [results, Tryz.results158, go_sem, rmV, z0, z1, z2, z3, z4]) rfl ⟨rfl, HBF.out⟩

set_option maxRecDepth 20000 in
set_option maxHeartbeats 4000000 in
theorem room_no (k : Int) (n1 : (k == 1) = false) (n2 : (k == 2) = false) (n3 : (k == 3) = false) (n4 : (k == 4) = false) (n5 : (k == 5) = false) (n6 : (k == 6) = false) (n7 : (k == 7) = false) (n8 : (k == 8) = false) (w : World) : Calls Tryz.prog 158 #[.int .i64 k] w fun e w' => e = .returned (.tuple #[rmV ⟨0, 0, 0, 0, 0⟩, .bool false]) ∧ Below w.heap.size w w' := by
  have hB1 : Below w.heap.size w (w.alloc (.cells #[.int .i64 0, .int .i64 0, .int .i64 0, .int .i64 0, .int .i64 0] 185)) := (Below.refl _ w).alloc (Nat.le_refl _) _
  have HB1 := Lib.hid hB1
  have HC := Lib.hid (room_blk w)
  clear hB1
  go_enter Tryz.func158, Tryz.ntmps158
  go_upto_region 1 with fail
  generalize w.alloc (.cells #[.int .i64 0, .int .i64 0, .int .i64 0, .int .i64 0, .int .i64 0] 185) = W1 at HB1 HC ⊢
  have a0 := HC.out.cell (i := 0) rfl
  have a1 := HC.out.cell (i := 1) rfl
  have a2 := HC.out.cell (i := 2) rfl
  have a3 := HC.out.cell (i := 3) rfl
  have a4 := HC.out.cell (i := 4) rfl
  have aq := fun i => HC.out.free (i := i)
  go_wp2_with fail
  have HF := Lib.hid (set5_cel (v0 := .int .i64 0) (v1 := .int .i64 0) (v2 := .int .i64 0) (v3 := .int .i64 0) (v4 := .int .i64 0) HC.out)
  have z0 := HF.out.cell (i := 0) rfl
  have z1 := HF.out.cell (i := 1) rfl
  have z2 := HF.out.cell (i := 2) rfl
  have z3 := HF.out.cell (i := 3) rfl
  have z4 := HF.out.cell (i := 4) rfl
  have HBF := Lib.hid (set5_below (v0 := .int .i64 0) (v1 := .int .i64 0) (v2 := .int .i64 0) (v3 := .int .i64 0) (v4 := .int .i64 0) HB1.out (Nat.le_refl _))
  unfold set5 at z0 z1 z2 z3 z4
  exact bodyPost_ret (v := .tuple #[rmV ⟨0, 0, 0, 0, 0⟩, .bool false]) (by simp [results, Tryz.results158, go_sem, rmV, z0, z1, z2, z3, z4]) rfl ⟨rfl, HBF.out⟩

theorem roomOf_any (k : Int) (w : World) : Calls Tryz.prog 158 #[.int .i64 k] w fun e w' => e = .returned (.tuple #[rmV (roomR k).1, .bool (roomR k).2]) ∧ Below w.heap.size w w' := by
  have hn : ∀ z : Int, ¬ k = z → (k == z) = false := fun z h => by simpa using h
  by_cases h1 : k = 1
  · subst h1; exact room_1 w
  by_cases h2 : k = 2
  · subst h2; exact room_2 w
  by_cases h3 : k = 3
  · subst h3; exact room_3 w
  by_cases h4 : k = 4
  · subst h4; exact room_4 w
  by_cases h5 : k = 5
  · subst h5; exact room_5 w
  by_cases h6 : k = 6
  · subst h6; exact room_6 w
  by_cases h7 : k = 7
  · subst h7; exact room_7 w
  by_cases h8 : k = 8
  · subst h8; exact room_8 w
  have e : roomR k = (⟨0, 0, 0, 0, 0⟩, false) := by
    unfold roomR
    rw [if_neg h1, if_neg h2, if_neg h3, if_neg h4, if_neg h8, if_neg (by omega)]
  rw [e]
  exact room_no k (hn _ h1) (hn _ h2) (hn _ h3) (hn _ h4) (hn _ h5) (hn _ h6) (hn _ h7) (hn _ h8) w

end Lt
end Go.Proofs.YtiobhbagjokpcaaGreat

/- What the landed package's holds, mayBe and Check answer; contracts; no condition but the range. -/
namespace Go.Proofs.YtiobhbagjokpcaaGreat
namespace Lt
open Go.RowKit Bk

attribute [local go_sem ↓] Go.wp_at_zero Go.wp_at_succ
attribute [local go_sem] floatUpon pick

/-- what a room holds -/
noncomputable def holdsB (r : Rm) (l : Let) : Bool :=
  (decide (0 ≤ l.code) && decide (l.code ≤ r.code)) && (decide ((l.text.size : Int) ≤ r.text) && ((decide (l.text = ⟨#[]⟩) || decide (l.code = 1)) &&
  ((decide (r.fewest ≤ (l.keys.length : Int)) && decide ((l.keys.length : Int) ≤ r.most)) && (risesB l.keys && (decide ((l.ws.length : Int) ≤ r.writes) && areB l.ws)))))

set_option maxRecDepth 20000 in
set_option maxHeartbeats 8000000 in
theorem holds_any (r : Rm) (A B : Option Addr) (c d : Nat) (l : Let) (w : World) (ha : StrsAt w A l.keys) (hb : WrsAt w B l.ws) (hr : LetRng l) :
    Calls Tryz.prog 161 #[rmV r, letV l A B c d] w fun e w' => e = .returned (.bool (holdsB r l)) ∧ Below w.heap.size w w' := by
  have rb : reachBytes = 140737488351232 := by unfold reachBytes; rfl
  have r16 := hr.k16
  have w16 := hr.w16
  have HI := Lib.hid (fun W => within_any l.code 0 r.code W)
  have HL := Lib.hid (fun W => within_any (l.keys.length : Int) r.fewest r.most W)
  have HK := Lib.hid (fun W (hbl : Below w.heap.size w W) => lrising_any A c l.keys W (ha.below hbl) (by omega) (fun s hs => by have := hr.kr s hs; omega))
  have HW := Lib.hid (fun W (hbl : Below w.heap.size w W) => areWrites_any B d l.ws W (hb.below hbl) (by omega) (fun x hx => by have := hr.wr x hx; omega))
  unfold letV rmV
  obtain ⟨s2, b1, b2⟩ := blk2 w (.cells #[.int .i64 r.code, .int .i64 r.text, .int .i64 r.fewest, .int .i64 r.most, .int .i64 r.writes] 185) (.cells #[.int .i64 l.kind, .int .i64 l.src, .int .i64 l.dst, .int .i64 l.txn, .int .i64 l.ts, .int .i64 l.code, .string l.text, .slice A l.keys.length c, .slice B l.ws.length d] 169)
  have hB : Below w.heap.size w ((w.alloc (.cells #[.int .i64 r.code, .int .i64 r.text, .int .i64 r.fewest, .int .i64 r.most, .int .i64 r.writes] 185)).alloc (.cells #[.int .i64 l.kind, .int .i64 l.src, .int .i64 l.dst, .int .i64 l.txn, .int .i64 l.ts, .int .i64 l.code, .string l.text, .slice A l.keys.length c, .slice B l.ws.length d] 169)) :=
    ((Below.refl _ w).alloc (Nat.le_refl _) _).alloc (by simp) _
  have HB := Lib.hid hB
  have C1 : Cel _ _ _ [_, _, _, _, _] := b1
  have C2 : Cel _ _ _ [_, _, _, _, _, _, _, _, _] := b2
  have HC1 := Lib.hid C1
  have HC2 := Lib.hid C2
  clear hB s2 b1 b2 C1 C2 ha hb hr r16 w16
  go_enter Tryz.func161, Tryz.ntmps161
  go_upto_region 1 with fail
  generalize ((w.alloc (.cells #[.int .i64 r.code, .int .i64 r.text, .int .i64 r.fewest, .int .i64 r.most, .int .i64 r.writes] 185)).alloc (.cells #[.int .i64 l.kind, .int .i64 l.src, .int .i64 l.dst, .int .i64 l.txn, .int .i64 l.ts, .int .i64 l.code, .string l.text, .slice A l.keys.length c, .slice B l.ws.length d] 169)) = W1 at HB HC1 HC2 ⊢
  have p0 := HC1.out.cell (i := 0) rfl
  have p1 := HC1.out.cell (i := 1) rfl
  have p2 := HC1.out.cell (i := 2) rfl
  have p3 := HC1.out.cell (i := 3) rfl
  have p4 := HC1.out.cell (i := 4) rfl
  have q5 := HC2.out.cell (i := 5) rfl
  have q6 := HC2.out.cell (i := 6) rfl
  have q7 := HC2.out.cell (i := 7) rfl
  have q8 := HC2.out.cell (i := 8) rfl
  obtain ⟨x1, hx1⟩ : ∃ x, x = (decide (0 ≤ l.code) && decide (l.code ≤ r.code)) := ⟨_, rfl⟩
  obtain ⟨x4, hx4⟩ : ∃ x, x = (decide (r.fewest ≤ (l.keys.length : Int)) && decide ((l.keys.length : Int) ≤ r.most)) := ⟨_, rfl⟩
  have e0 : holdsB r l = (x1 && (decide ((l.text.size : Int) ≤ r.text) && ((decide (l.text = ⟨#[]⟩) || decide (l.code = 1)) && (x4 && (risesB l.keys && (decide ((l.ws.length : Int) ≤ r.writes) && areB l.ws)))))) := by rw [hx1, hx4]; rfl
  rw [← hx1] at HI
  rw [← hx4] at HL
  clear hx1 hx4
  generalize risesB l.keys = x5 at *
  generalize areB l.ws = x7 at *
  cases x1 with
  | false =>
    have E := Lib.hid e0
    clear e0
    go_wp2_with fail
    refine (HI.out _).mono ?_
    rintro e w2 ⟨rfl, rfl⟩
    go_wp2_with fail
    go_ret
    exact ⟨by rw [E.out]; rfl, HB.out⟩
  | true =>
  by_cases h2 : (l.text.size : Int) ≤ r.text
  case neg =>
    have E := Lib.hid (show holdsB r l = false by rw [e0, decide_eq_false h2]; rfl)
    have n2 : r.text < (l.text.size : Int) := by omega
    clear e0
    go_wp2_with fail
    refine (HI.out _).mono ?_
    rintro e w2 ⟨rfl, rfl⟩
    go_wp2_with fail
    go_ret
    exact ⟨by rw [E.out]; rfl, HB.out⟩
  rw [decide_eq_true h2] at e0
  have hor : ((decide (l.text = ⟨#[]⟩) || decide (l.code = 1)) = false ∧ ¬ l.text.toList = [] ∧ (l.code == 1) = false) ∨ ((decide (l.text = ⟨#[]⟩) || decide (l.code = 1)) = true ∧ ((l.text = ⟨#[]⟩) ∨ (¬ l.text.toList = [] ∧ (l.code == 1) = true))) := by
    by_cases he : l.text = ⟨#[]⟩
    · exact .inr ⟨by rw [decide_eq_true he]; rfl, .inl he⟩
    · by_cases hc : l.code = 1
      · exact .inr ⟨by rw [decide_eq_true hc, Bool.or_true], .inr ⟨empty_list he, by simpa using hc⟩⟩
      · exact .inl ⟨by rw [decide_eq_false he, decide_eq_false hc]; rfl, empty_list he, by simpa using hc⟩
  rcases hor with ⟨f3, f4, f5⟩ | ⟨f3, f4⟩
  · have E := Lib.hid (show holdsB r l = false by rw [e0, f3]; rfl)
    have f6 : l.text.toList.isEmpty = false := by rw [List.isEmpty_eq_false_iff]; exact f4
    clear e0 f3
    go_wp2_with fail
    refine (HI.out _).mono ?_
    rintro e w2 ⟨rfl, rfl⟩
    go_wp2_with fail
    go_ret
    exact ⟨by rw [E.out]; rfl, HB.out⟩
  rw [f3] at e0
  have HO : ∀ (P : Prop), (l.text = ⟨#[]⟩ → P) → (¬ l.text.toList = [] → l.text.toList.isEmpty = false → (l.code == 1) = true → P) → P := fun P h1 h2 => by
    rcases f4 with f4 | ⟨f4, f5⟩
    · exact h1 f4
    · exact h2 f4 (by rw [List.isEmpty_eq_false_iff]; exact f4) f5
  have HO2 := Lib.hid HO
  clear f3 f4 HO
  cases x4 with
  | false =>
    have E := Lib.hid e0
    clear e0
    refine HO2.out _ (fun f4 => ?_) (fun f4 f5 f6 => ?_)
    · rw [f4] at q6 h2
      have t0 := text_eq ⟨#[]⟩
      go_wp2_with fail
      refine (HI.out _).mono ?_
      rintro e w2 ⟨rfl, rfl⟩
      go_wp2_with fail
      refine (HL.out _).mono ?_
      rintro e w2 ⟨rfl, rfl⟩
      go_wp2_with fail
      go_ret
      exact ⟨by rw [E.out]; rfl, HB.out⟩
    · go_wp2_with fail
      refine (HI.out _).mono ?_
      rintro e w2 ⟨rfl, rfl⟩
      go_wp2_with fail
      refine (HL.out _).mono ?_
      rintro e w2 ⟨rfl, rfl⟩
      go_wp2_with fail
      go_ret
      exact ⟨by rw [E.out]; rfl, HB.out⟩
  | true =>
  have hrest : ∀ (W2 : World), Below W1.heap.size W1 W2 → Hid (Below w.heap.size w W2 ∧ W2.cell? ⟨w.heap.size + 1, 8, none⟩ = some (.slice B l.ws.length d) ∧ W2.cell? ⟨w.heap.size, 4, none⟩ = some (.int .i64 r.writes)) := fun W2 hb =>
    Lib.hid ⟨HB.out.trans (hb.mono HB.out.size), (HC2.out.below hb).cell (i := 8) rfl, (HC1.out.below hb).cell (i := 4) rfl⟩
  have HRest := Lib.hid hrest
  clear hrest HC1 HC2
  have hcase : (x5 = false) ∨ (x5 = true ∧ ¬ (l.ws.length : Int) ≤ r.writes) ∨ (x5 = true ∧ (l.ws.length : Int) ≤ r.writes) := by
    cases x5 with
    | false => exact .inl rfl
    | true => exact .inr (by by_cases h : (l.ws.length : Int) ≤ r.writes; exact .inr ⟨rfl, h⟩; exact .inl ⟨rfl, h⟩)
  rcases hcase with rfl | ⟨rfl, h6⟩ | ⟨rfl, h6⟩
  · have E := Lib.hid e0
    clear e0
    refine HO2.out _ (fun f4 => ?_) (fun f4 f5 f6 => ?_)
    · rw [f4] at q6 h2
      have t0 := text_eq ⟨#[]⟩
      go_wp2_with fail
      refine (HI.out _).mono ?_
      rintro e w2 ⟨rfl, rfl⟩
      go_wp2_with fail
      refine (HL.out _).mono ?_
      rintro e w2 ⟨rfl, rfl⟩
      go_wp2_with fail
      refine (HK.out _ HB.out).mono ?_
      rintro e w2 ⟨rfl, hb⟩
      have HB2 := HRest.out _ hb
      clear hb
      go_wp2_with fail
      go_ret
      exact ⟨by rw [E.out]; rfl, HB2.out.1⟩
    · go_wp2_with fail
      refine (HI.out _).mono ?_
      rintro e w2 ⟨rfl, rfl⟩
      go_wp2_with fail
      refine (HL.out _).mono ?_
      rintro e w2 ⟨rfl, rfl⟩
      go_wp2_with fail
      refine (HK.out _ HB.out).mono ?_
      rintro e w2 ⟨rfl, hb⟩
      have HB2 := HRest.out _ hb
      clear hb
      go_wp2_with fail
      go_ret
      exact ⟨by rw [E.out]; rfl, HB2.out.1⟩
  · have E := Lib.hid (show holdsB r l = false by rw [e0, decide_eq_false h6]; rfl)
    have n6 : r.writes < (l.ws.length : Int) := by omega
    clear e0
    refine HO2.out _ (fun f4 => ?_) (fun f4 f5 f6 => ?_)
    · rw [f4] at q6 h2
      have t0 := text_eq ⟨#[]⟩
      go_wp2_with fail
      refine (HI.out _).mono ?_
      rintro e w2 ⟨rfl, rfl⟩
      go_wp2_with fail
      refine (HL.out _).mono ?_
      rintro e w2 ⟨rfl, rfl⟩
      go_wp2_with fail
      refine (HK.out _ HB.out).mono ?_
      rintro e w2 ⟨rfl, hb⟩
      have HB2 := HRest.out _ hb
      have y8 := HB2.out.2.1
      have y4 := HB2.out.2.2
      clear hb
      go_wp2_with fail
      go_ret
      exact ⟨by rw [E.out]; rfl, HB2.out.1⟩
    · go_wp2_with fail
      refine (HI.out _).mono ?_
      rintro e w2 ⟨rfl, rfl⟩
      go_wp2_with fail
      refine (HL.out _).mono ?_
      rintro e w2 ⟨rfl, rfl⟩
      go_wp2_with fail
      refine (HK.out _ HB.out).mono ?_
      rintro e w2 ⟨rfl, hb⟩
      have HB2 := HRest.out _ hb
      have y8 := HB2.out.2.1
      have y4 := HB2.out.2.2
      clear hb
      go_wp2_with fail
      go_ret
      exact ⟨by rw [E.out]; rfl, HB2.out.1⟩
  · have E := Lib.hid (show holdsB r l = x7 by rw [e0, decide_eq_true h6]; simp)
    clear e0
    refine HO2.out _ (fun f4 => ?_) (fun f4 f5 f6 => ?_)
    · rw [f4] at q6 h2
      have t0 := text_eq ⟨#[]⟩
      go_wp2_with fail
      refine (HI.out _).mono ?_
      rintro e w2 ⟨rfl, rfl⟩
      go_wp2_with fail
      refine (HL.out _).mono ?_
      rintro e w2 ⟨rfl, rfl⟩
      go_wp2_with fail
      refine (HK.out _ HB.out).mono ?_
      rintro e w2 ⟨rfl, hb⟩
      have HB2 := HRest.out _ hb
      have y8 := HB2.out.2.1
      have y4 := HB2.out.2.2
      clear hb
      go_wp2_with fail
      refine (HW.out _ HB2.out.1).mono ?_
      rintro e w3 ⟨rfl, hb⟩
      have HB3 := Lib.hid (HB2.out.1.trans (hb.mono HB2.out.1.size))
      clear hb
      go_wp2_with fail
      go_ret
      exact ⟨by rw [E.out]; rfl, HB3.out⟩
    · go_wp2_with fail
      refine (HI.out _).mono ?_
      rintro e w2 ⟨rfl, rfl⟩
      go_wp2_with fail
      refine (HL.out _).mono ?_
      rintro e w2 ⟨rfl, rfl⟩
      go_wp2_with fail
      refine (HK.out _ HB.out).mono ?_
      rintro e w2 ⟨rfl, hb⟩
      have HB2 := HRest.out _ hb
      have y8 := HB2.out.2.1
      have y4 := HB2.out.2.2
      clear hb
      go_wp2_with fail
      refine (HW.out _ HB2.out.1).mono ?_
      rintro e w3 ⟨rfl, hb⟩
      have HB3 := Lib.hid (HB2.out.1.trans (hb.mono HB2.out.1.size))
      clear hb
      go_wp2_with fail
      go_ret
      exact ⟨by rw [E.out]; rfl, HB3.out⟩

end Lt
end Go.Proofs.YtiobhbagjokpcaaGreat
