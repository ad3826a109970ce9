/- Matrices as bytes: tables, their cells, blocks of memory that stay; plain lemmas, no condition. -/
import Derived.Test.YtmnciipfepeccaaGfTexts
import Derived.Test.YtmnciipfepeccaaGfAlg
namespace Go.Proofs.Ytmnciipfepeccaa
open Go.RowKit

theorem bcell {W w1 : World} (hb : Below W.heap.size W w1) : (∀ b o, b < W.heap.size → w1.cell? ⟨b, o, none⟩ = W.cell? ⟨b, o, none⟩) ∧ (∀ b o, b < W.heap.size → w1.frozen? ⟨b, o, none⟩ = W.frozen? ⟨b, o, none⟩) :=
  ⟨fun b o h => hb.cell (p := ⟨b, o, none⟩) h, fun b o h => hb.frozen (p := ⟨b, o, none⟩) h⟩

theorem below_agg3 {B b : Nat} {w w1 : World} (h : Below B w w1) (hb : B ≤ b) (x y z : Value) : Below B w (((w1.setCell ⟨b, 0, none⟩ x).setCell ⟨b, 1, none⟩ y).setCell ⟨b, 2, none⟩ z) :=
  ((h.setCell hb _).setCell hb _).setCell hb _

theorem below_new {w w1 : World} {o : Obj} (h : Below (w.alloc o).heap.size (w.alloc o) w1) : Below w.heap.size w w1 :=
  ((Below.refl _ w).alloc (Nat.le_refl _) o).trans (h.mono (by simp))

theorem below_new3 {w w1 : World} {A B C : Obj} (h : Below (((w.alloc A).alloc B).alloc C).heap.size (((w.alloc A).alloc B).alloc C) w1) : Below w.heap.size w w1 :=
  ((((Below.refl _ w).alloc (Nat.le_refl _) _).alloc (by simp) _).alloc (by simp; omega) _).trans (h.mono (by simp; omega))

theorem blk1 (w : World) (A : Obj) : (w.alloc A).heap.size = w.heap.size + 1 ∧ (w.alloc A).heap[w.heap.size]? = some A :=
  ⟨by simp, heap_alloc_new w A⟩

theorem blk2 (w : World) (A B : Obj) : ((w.alloc A).alloc B).heap.size = w.heap.size + 2 ∧ ((w.alloc A).alloc B).heap[w.heap.size]? = some A ∧ ((w.alloc A).alloc B).heap[w.heap.size + 1]? = some B := by
  obtain ⟨s1, b1⟩ := blk1 w A
  obtain ⟨s2, b2⟩ := blk1 (w.alloc A) B
  refine ⟨by omega, ?_, by rw [← s1]; exact b2⟩
  rw [heap_alloc_old _ _ (by omega)]; exact b1

theorem blk3 (w : World) (A B C : Obj) : (((w.alloc A).alloc B).alloc C).heap.size = w.heap.size + 3 ∧ (((w.alloc A).alloc B).alloc C).heap[w.heap.size]? = some A ∧
    (((w.alloc A).alloc B).alloc C).heap[w.heap.size + 1]? = some B ∧ (((w.alloc A).alloc B).alloc C).heap[w.heap.size + 2]? = some C := by
  obtain ⟨s1, b1, b2⟩ := blk2 w A B
  obtain ⟨s2, b3⟩ := blk1 ((w.alloc A).alloc B) C
  refine ⟨by omega, ?_, ?_, by rw [← s1]; exact b3⟩
  · rw [heap_alloc_old _ _ (by omega)]; exact b1
  · rw [heap_alloc_old _ _ (by omega)]; exact b2

theorem blk_cell {w : World} {g j : Nat} {cs : Array Value} {T : TypeId} {v : Value} (h : w.heap[g]? = some (.cells cs T (0, 0))) (hv : cs[j]? = some v) : w.cell? ⟨g, j, none⟩ = some v :=
  (cell_of_row w g j cs T (0, 0) h).trans hv

theorem blk_free {w : World} {g : Nat} {cs : Array Value} {T : TypeId} (h : w.heap[g]? = some (.cells cs T (0, 0))) : ∀ j, w.frozen? ⟨g, j, none⟩ = false := fun j => frozen_of_row w g j cs T h

theorem quiet_plus {P : Program} {f : FuncId} {args : Array Value} {w : World} {d x : Nat} {v : Value}
    (h : Calls P f args (w.drewN (d + x)) fun e w' => e = .returned v ∧ w' = w.drewN (d + x)) : Calls P f args (w.drewN (d + x)) fun e w'' => e = .returned v ∧ ∃ n, w'' = w.drewN (d + n) :=
  h.mono fun _ _ ⟨he, hw⟩ => ⟨he, x, hw⟩

/-- may it be? -/
def may (r c : Int) (s : ByteArray) : Prop := 1 ≤ r ∧ r ≤ 255 ∧ 1 ≤ c ∧ c ≤ 255 ∧ (s.size : Int) = r * c

instance (r c : Int) (s : ByteArray) : Decidable (may r c s) := by unfold may; exact inferInstance

def chk (r c : Int) (s : ByteArray) : Nat := if may r c s then 0 else 4

theorem chk_yes {r c : Nat} {s : ByteArray} (h1 : 1 ≤ r) (h2 : r ≤ 255) (h3 : 1 ≤ c) (h4 : c ≤ 255) (hs : s.size = r * c) : chk (r : Int) (c : Int) s = 0 :=
  if_pos ⟨by omega, by omega, by omega, by omega, by rw [hs, Int.natCast_mul]⟩

theorem chk_no {r c : Int} {s : ByteArray} (h : ¬ may r c s) : chk r c s = 4 := if_neg h

theorem may_nat {r c : Int} {s : ByteArray} (h : may r c s) : ∃ m n : Nat, r = (m : Int) ∧ c = (n : Int) ∧ 1 ≤ m ∧ m ≤ 255 ∧ 1 ≤ n ∧ n ≤ 255 ∧ s.size = m * n := by
  obtain ⟨h1, h2, h3, h4, h5⟩ := h
  obtain ⟨m, rfl⟩ := Int.eq_ofNat_of_zero_le (a := r) (by omega)
  obtain ⟨n, rfl⟩ := Int.eq_ofNat_of_zero_le (a := c) (by omega)
  exact ⟨m, n, rfl, rfl, by omega, by omega, by omega, by omega, by rw [← Int.natCast_mul] at h5; omega⟩

theorem prod_rng {r c : Int} (h1 : 1 ≤ r) (h2 : r ≤ 255) (h3 : 1 ≤ c) (h4 : c ≤ 255) : 1 ≤ r * c ∧ r * c ≤ 65025 := by
  constructor
  · have := Int.mul_le_mul h1 h3 (by omega) (by omega); omega
  · have := Int.mul_le_mul h2 h4 (by omega) (by omega); omega

/-- a matrix of r rows and c columns as bytes, row by row; the byte at a row and a column -/
def tabL (r c : Nat) (f : Nat → Nat → UInt8) : List UInt8 := (List.range (r * c)).map fun p => f (p / c) (p % c)

def cel (s : ByteArray) (c i j : Nat) : UInt8 := s.data[i * c + j]?.getD 0

def cellsU (L : List UInt8) : List Value := L.map fun b => Value.int .u8 (b.toNat : Int)

theorem tab_length (r c : Nat) (f : Nat → Nat → UInt8) : (tabL r c f).length = r * c := by simp [tabL]

theorem size_tab (r c : Nat) (f : Nat → Nat → UInt8) : (⟨(tabL r c f).toArray⟩ : ByteArray).size = r * c := by
  show (tabL r c f).toArray.size = _; rw [List.size_toArray, tab_length]

theorem tab_at (r c : Nat) (f : Nat → Nat → UInt8) (p : Nat) (h : p < r * c) : (tabL r c f)[p]? = some (f (p / c) (p % c)) := by
  simp [tabL, List.getElem?_map, List.getElem?_range h]

theorem place_lt {r c i j : Nat} (hi : i < r) (hj : j < c) : i * c + j < r * c := by
  have : (i + 1) * c ≤ r * c := Nat.mul_le_mul_right c hi
  rw [Nat.add_mul, Nat.one_mul] at this
  omega

theorem place_div {c i j : Nat} (hj : j < c) : (i * c + j) / c = i := by
  rw [Nat.mul_comm, Nat.mul_add_div (by omega), Nat.div_eq_of_lt hj, Nat.add_zero]

theorem place_mod {c i j : Nat} (hj : j < c) : (i * c + j) % c = j := by
  rw [Nat.mul_comm, Nat.mul_add_mod, Nat.mod_eq_of_lt hj]

theorem tab_place (r c : Nat) (f : Nat → Nat → UInt8) (i j : Nat) (hi : i < r) (hj : j < c) : (tabL r c f)[i * c + j]? = some (f i j) := by
  rw [tab_at r c f _ (place_lt hi hj), place_div hj, place_mod hj]

theorem tab_congr (r c : Nat) {f g : Nat → Nat → UInt8} (h : ∀ i j, i < r → j < c → f i j = g i j) : tabL r c f = tabL r c g := by
  unfold tabL
  apply List.map_congr_left
  intro p hp
  have hp' := List.mem_range.1 hp
  have hc : 0 < c := by
    rcases Nat.eq_zero_or_pos c with e | e
    · subst e; simp at hp'
    · exact e
  exact h _ _ ((Nat.div_lt_iff_lt_mul hc).2 hp') (Nat.mod_lt _ hc)

theorem cel_tab (r c : Nat) (f : Nat → Nat → UInt8) (i j : Nat) (hi : i < r) (hj : j < c) : cel ⟨(tabL r c f).toArray⟩ c i j = f i j := by
  unfold cel
  rw [List.getElem?_toArray, tab_place r c f i j hi hj]; rfl

theorem tab_cel (r c : Nat) (s : ByteArray) (h : s.size = r * c) : (⟨(tabL r c (cel s c)).toArray⟩ : ByteArray) = s := by
  have hl : s.data.toList = tabL r c (cel s c) := by
    apply List.ext_getElem?
    intro p
    by_cases hp : p < r * c
    · rw [tab_at r c _ p hp]
      unfold cel
      rw [Nat.mul_comm, Nat.div_add_mod]
      have hp' : p < s.data.size := by show p < s.size; omega
      rw [Array.getElem?_toList, Array.getElem?_eq_getElem hp', Option.getD_some]
    · rw [List.getElem?_eq_none (by show s.size ≤ p; omega), List.getElem?_eq_none (by rw [tab_length]; omega)]
  rw [← hl]

/-- the cells of a table with another function's values are those that a store makes -/
theorem cellsU_set (r c i j : Nat) (f g : Nat → Nat → UInt8) (hi : i < r) (hj : j < c) (hg : ∀ a b, a < r → b < c → (a ≠ i ∨ b ≠ j) → g a b = f a b) (v : Int) (hv : v = ((g i j).toNat : Int)) :
    (cellsU (tabL r c f)).set (i * c + j) (.int .u8 v) = cellsU (tabL r c g) := by
  subst hv
  apply List.ext_getElem?
  intro p
  unfold cellsU
  rw [List.getElem?_set]
  by_cases e : i * c + j = p
  · subst e
    rw [if_pos rfl, if_pos (by rw [List.length_map, tab_length]; exact place_lt hi hj), List.getElem?_map, tab_place r c g i j hi hj]; rfl
  · rw [if_neg e, List.getElem?_map, List.getElem?_map]
    by_cases hp : p < r * c
    · rw [tab_at r c f p hp, tab_at r c g p hp]
      have hc : 0 < c := by omega
      rw [hg (p / c) (p % c) ((Nat.div_lt_iff_lt_mul hc).2 hp) (Nat.mod_lt _ hc)]
      by_cases h1 : p / c = i
      · right
        intro h2
        apply e
        rw [← h1, ← h2, Nat.mul_comm, Nat.div_add_mod]
      · left; exact h1
    · rw [List.getElem?_eq_none (by rw [tab_length]; omega), List.getElem?_eq_none (by rw [tab_length]; omega)]

theorem cellsU_at (r c i j : Nat) (f : Nat → Nat → UInt8) (hi : i < r) (hj : j < c) : (cellsU (tabL r c f))[i * c + j]? = some (.int .u8 ((f i j).toNat : Int)) := by
  unfold cellsU
  rw [List.getElem?_map, tab_place r c f i j hi hj]; rfl

theorem cellsU_zero (r c n : Nat) (h : r * c = n) : (madeCells (Value.int .u8 0).cells (n * 1)).toList = cellsU (tabL r c fun _ _ => 0) := by
  rw [Nat.mul_one, show (Value.int .u8 0).cells = #[.int .u8 0] from rfl, toList_madeCells_one]
  unfold cellsU tabL
  subst h
  apply List.ext_getElem?
  intro p
  by_cases hp : p < r * c
  · simp [hp]
  · simp [hp]

/-- 'string(b)' of a row that is the call's own -/
theorem run_own_text {P : Program} {w : World} {H g n cap : Nat} {e src dst : TypeId} {L : List UInt8} (hown : w.ownsRow H e 1 (.slice (some ⟨g, 0, none⟩) n cap) n (cellsU L)) (hL : L.length = n)
    (hs : P.underlying src = some (.slice e)) (he : P.underlying e = some (.int .u8)) (hd : P.underlying dst = some .string) :
    (convert src dst (.slice (some ⟨g, 0, none⟩) n cap)).run P w = .ok (.string ⟨L.toArray⟩) w := by
  subst hL
  exact run_convert_bytes_back (P := P) w src dst e ⟨g, 0, none⟩ cap L hs he hd (fun j hj => by
    have h1 := hown.cellAt j (by omega)
    unfold cellsU at h1
    rw [List.getElem?_map, List.getElem?_eq_getElem hj] at h1
    rw [addr_head]; exact h1)

/-- the identity, of which the first k rows stand -/
def oneUp (k i j : Nat) : UInt8 := if i < k then GfU.one i j else 0

theorem oneUp_off (k : Nat) {n : Nat} : ∀ a b, a < n → b < n → (a ≠ k ∨ b ≠ k) → oneUp (k + 1) a b = oneUp k a b := by
  intro a b _ _ h
  unfold oneUp GfU.one
  by_cases e : a = k
  · rw [if_pos (by omega), if_neg (by omega), if_neg (by omega)]
  · by_cases e2 : a < k
    · rw [if_pos (by omega), if_pos e2]
    · rw [if_neg (by omega), if_neg e2]

end Go.Proofs.Ytmnciipfepeccaa
