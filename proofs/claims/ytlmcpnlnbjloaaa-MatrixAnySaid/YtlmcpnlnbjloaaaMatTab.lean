/- The table of rows by which the landed package inverts: how it lies in memory, and what its methods on one row do; no condition but the range. -/
import Derived.Test.YtlmcpnlnbjloaaaMatLandMul
import Derived.BigRegion
namespace Go.Proofs.Ytlmcpnlnbjloaaa
open Go.RowKit

/-- a row of m bytes; the headers of n rows -/
def rowA (m : Nat) (x : Nat → UInt8) : Array Value := ((List.range m).map fun j => Value.int .u8 ((x j).toNat : Int)).toArray

def hdrA (n m : Nat) (g : Nat → Nat) : Array Value := ((List.range n).map fun i => Value.slice (some ⟨g i, 0, none⟩) m m).toArray

theorem rowA_size (m : Nat) (x : Nat → UInt8) : (rowA m x).size = m := by simp [rowA]

theorem rowA_at (m : Nat) (x : Nat → UInt8) (j : Nat) (h : j < m) : (rowA m x)[j]? = some (.int .u8 ((x j).toNat : Int)) := by simp [rowA, h]

theorem hdrA_at (n m : Nat) (g : Nat → Nat) (i : Nat) (h : i < n) : (hdrA n m g)[i]? = some (.slice (some ⟨g i, 0, none⟩) m m) := by simp [hdrA, h]

theorem rowA_congr (m : Nat) {x y : Nat → UInt8} (h : ∀ j, j < m → x j = y j) : rowA m x = rowA m y := by
  unfold rowA
  rw [List.map_congr_left fun j hj => by rw [h j (List.mem_range.1 hj)]]

theorem rowA_set (m : Nat) (x y : Nat → UInt8) (k : Nat) (hk : k < m) (h : ∀ j, j < m → j ≠ k → y j = x j) (v : Int) (hv : v = ((y k).toNat : Int)) : (rowA m x).setIfInBounds k (.int .u8 v) = rowA m y := by
  subst hv
  apply Array.ext_getElem?
  intro p
  rw [Array.getElem?_setIfInBounds, rowA_size]
  by_cases e : k = p
  · subst e; rw [if_pos rfl, if_pos hk, rowA_at m y k hk]
  · rw [if_neg e]
    by_cases hp : p < m
    · rw [rowA_at m x p hp, rowA_at m y p hp, h p hp (fun z => e z.symm)]
    · rw [Array.getElem?_eq_none (by rw [rowA_size]; omega), Array.getElem?_eq_none (by rw [rowA_size]; omega)]

/-- the table stands: its struct in block tp, the field in B, the headers in rb, row i in g i, all rows from block H on -/
structure Tab (H : Nat) (w : World) (tp B rb n : Nat) (g : Nat → Nat) (X : Nat → Nat → UInt8) : Prop where
  tc : w.heap[tp]? = some (.cells #[.pointer (some ⟨B, 0, none⟩), .slice (some ⟨rb, 0, none⟩) n n] 76 (0, 0))
  fl : w.heap[B]? = some (.cells (Cf 255) 72 (0, 0))
  rc : w.heap[rb]? = some (.cells (hdrA n (2 * n) g) 68 (0, 0))
  row : ∀ i, i < n → w.heap[g i]? = some (.cells (rowA (2 * n) (X i)) 5 (0, 0))
  inj : ∀ i j, i < n → j < n → g i = g j → i = j
  lo : H ≤ rb ∧ ∀ i, i < n → H ≤ g i

variable {H tp B rb n : Nat} {g : Nat → Nat} {X Y : Nat → Nat → UInt8} {w w' : World}

theorem heap_lt {o : Obj} {b : Nat} (h : w.heap[b]? = some o) : b < w.heap.size := (Array.getElem?_eq_some_iff.1 h).1

theorem Tab.below (h : Tab H w tp B rb n g X) (hb : Below w.heap.size w w') : Tab H w' tp B rb n g X :=
  ⟨(hb.block _ (heap_lt h.tc)).trans h.tc, (hb.block _ (heap_lt h.fl)).trans h.fl, (hb.block _ (heap_lt h.rc)).trans h.rc, fun i hi => (hb.block _ (heap_lt (h.row i hi))).trans (h.row i hi), h.inj, h.lo⟩

theorem Tab.drewN (h : Tab H w tp B rb n g X) (d : Nat) : Tab H (w.drewN d) tp B rb n g X := ⟨h.tc, h.fl, h.rc, h.row, h.inj, h.lo⟩

theorem Tab.drew (h : Tab H w tp B rb n g X) : Tab H w.drew tp B rb n g X := ⟨h.tc, h.fl, h.rc, h.row, h.inj, h.lo⟩

theorem Tab.congr (h : Tab H w tp B rb n g X) (e : ∀ i j, i < n → j < 2 * n → Y i j = X i j) : Tab H w tp B rb n g Y :=
  ⟨h.tc, h.fl, h.rc, fun i hi => by rw [rowA_congr (2 * n) (x := Y i) (y := X i) fun j hj => e i j hi hj]; exact h.row i hi, h.inj, h.lo⟩

theorem Tab.field (h : Tab H w tp B rb n g X) : FieldAt w B := fieldAt_blk h.fl

theorem Tab.t0 (h : Tab H w tp B rb n g X) : w.cell? ⟨tp, 0, none⟩ = some (.pointer (some ⟨B, 0, none⟩)) := blk_cell h.tc rfl

theorem Tab.t1 (h : Tab H w tp B rb n g X) : w.cell? ⟨tp, 1, none⟩ = some (.slice (some ⟨rb, 0, none⟩) n n) := blk_cell h.tc rfl

theorem Tab.hd (h : Tab H w tp B rb n g X) (i : Nat) (hi : i < n) : w.cell? ⟨rb, i, none⟩ = some (.slice (some ⟨g i, 0, none⟩) (2 * n) (2 * n)) := blk_cell h.rc (hdrA_at n (2 * n) g i hi)

theorem Tab.at (h : Tab H w tp B rb n g X) (i j : Nat) (hi : i < n) (hj : j < 2 * n) : w.cell? ⟨g i, j, none⟩ = some (.int .u8 ((X i j).toNat : Int)) := blk_cell (h.row i hi) (rowA_at (2 * n) (X i) j hj)

/-- one row turned -/
theorem Tab.turn (h : Tab H w tp B rb n g X) (r : Nat) (hr : r < n) (hk : ∀ b, b ≠ g r → b < w.heap.size → w'.heap[b]? = w.heap[b]?) (hn : w'.heap[g r]? = some (.cells (rowA (2 * n) (Y r)) 5 (0, 0))) (he : ∀ i j, i < n → i ≠ r → j < 2 * n → Y i j = X i j) : Tab H w' tp B rb n g Y := by
  have hne : ∀ {b : Nat} {cs : Array Value} {T : TypeId}, w.heap[b]? = some (.cells cs T (0, 0)) → T ≠ 5 → b ≠ g r := by
    intro b cs T hb hT e
    rw [e, h.row r hr] at hb
    injection hb with hb
    injection hb with _ hb _
    exact hT hb.symm
  refine ⟨(hk _ (hne h.tc (by decide)) (heap_lt h.tc)).trans h.tc, (hk _ (hne h.fl (by decide)) (heap_lt h.fl)).trans h.fl, (hk _ (hne h.rc (by decide)) (heap_lt h.rc)).trans h.rc, ?_, h.inj, h.lo⟩
  intro i hi
  by_cases e : i = r
  · subst e; exact hn
  · rw [hk _ (fun z => e (h.inj i r hi hr z)) (heap_lt (h.row i hi)), h.row i hi, rowA_congr (2 * n) (x := Y i) (y := X i) fun j hj => he i j hi e hj]

theorem Tab.store (h : Tab H w tp B rb n g X) (r k : Nat) (hr : r < n) (hk : k < 2 * n) (v : Int) (hv : v = ((Y r k).toNat : Int)) (he : ∀ i j, i < n → j < 2 * n → (i ≠ r ∨ j ≠ k) → Y i j = X i j) : Tab H (w.setCell ⟨g r, k, none⟩ (.int .u8 v)) tp B rb n g Y := by
  refine h.turn r hr (fun b hb _ => heap_setCell_other _ _ _ _ hb) ?_ (fun i j hi hir hj => he i j hi hj (.inl hir))
  rw [heap_setCell_same _ _ _ _ _ _ (h.row r hr), rowA_set (2 * n) (X r) (Y r) k hk (fun j hj hjk => he r j hr hj (.inr hjk)) v hv]

set_option maxRecDepth 20000 in
set_option maxHeartbeats 1000000 in
theorem leads_yes (i c : Nat) (h : Tab H w tp B rb n g X) (hi : i < n) (hc : c < n) (_hn : n ≤ 255) (hx : X i c ≠ 0) :
    Calls Try.prog 55 #[.pointer (some ⟨tp, 0, none⟩), .int .i64 (i : Int), .int .i64 (c : Int)] w fun e w' => e = .returned (.bool true) ∧ w' = w := by
  have c1 := h.t1
  have c2 := h.hd i hi
  have c3 := h.at i c hi (by omega)
  have p1 : (i : Int) < (n : Int) := by omega
  have p2 : (c : Int) < 2 * (n : Int) := by omega
  have t : (((X i c).toNat : Int) != 0) = true := by have := GfU.ne_zero.1 hx; simp; omega
  clear hx h
  go_enter Try.func55, Try.ntmps55
  go_wp2
  go_ret
  exact ⟨rfl, rfl⟩

set_option maxRecDepth 20000 in
set_option maxHeartbeats 1000000 in
theorem leads_no (i c : Nat) (h : Tab H w tp B rb n g X) (hi : i < n) (hc : c < n) (_hn : n ≤ 255) (hx : X i c = 0) :
    Calls Try.prog 55 #[.pointer (some ⟨tp, 0, none⟩), .int .i64 (i : Int), .int .i64 (c : Int)] w fun e w' => e = .returned (.bool false) ∧ w' = w := by
  have c1 := h.t1
  have c2 := h.hd i hi
  have c3 := h.at i c hi (by omega)
  have p1 : (i : Int) < (n : Int) := by omega
  have p2 : (c : Int) < 2 * (n : Int) := by omega
  have e0 : ((X i c).toNat : Int) = 0 := by rw [hx]; rfl
  rw [e0] at c3
  clear hx h e0
  go_enter Try.func55, Try.ntmps55
  go_wp2
  go_ret
  exact ⟨rfl, rfl⟩

set_option maxRecDepth 20000 in
set_option maxHeartbeats 1000000 in
theorem beside_any (i j : Nat) (h : Tab H w tp B rb n g X) (hi : i < n) (hj : j < n) (hn : n ≤ 255) :
    Calls Try.prog 40 #[.pointer (some ⟨tp, 0, none⟩), .int .i64 (i : Int), .int .i64 (j : Int)] w fun e w' => e = .returned (.int .u8 ((X i (n + j)).toNat : Int)) ∧ Below w.heap.size w w' := by
  have c1 := h.t1
  have c2 := h.hd i hi
  have c3 := h.at i (n + j) hi (by omega)
  have p1 : (i : Int) < (n : Int) := by omega
  have p2 : (n : Int) + (j : Int) < 2 * (n : Int) := by omega
  have p3 : ((n : Int) + (j : Int)).toNat = n + j := by omega
  clear h
  go_enter Try.func40, Try.ntmps40
  go_wp2_with fail
  go_quiet (fail)
  go_wp2
  go_ret
  exact ⟨rfl, below_drewN (Below.refl _ _) _⟩

end Go.Proofs.Ytlmcpnlnbjloaaa
