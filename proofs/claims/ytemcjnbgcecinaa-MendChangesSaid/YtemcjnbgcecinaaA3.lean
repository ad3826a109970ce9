/- Parts of the proof, joined: MatSpec, MatRef, MatRef2, MatInv, MatAny, MatLaw0; their conditions stand with each. -/
import Derived.Lib.BufferWrite
import Derived.Test.YtemcjnbgcecinaaA0
import Derived.Test.YtemcjnbgcecinaaA2

/- Matrices as bytes: tables, their cells, blocks of memory that stay; plain lemmas, no condition. -/
namespace Go.Proofs.Ytemcjnbgcecinaa
open Go.RowKit

theorem bcell {W w1 : World} (hb : Below W.heap.size W w1) : (∀ b o, b < W.heap.size → w1.cell? ⟨b, o, none⟩ = W.cell? ⟨b, o, none⟩) ∧ (∀ b o, b < W.heap.size → w1.frozen? ⟨b, o, none⟩ = W.frozen? ⟨b, o, none⟩) :=
  ⟨fun b o h => hb.cell (p := ⟨b, o, none⟩) h, fun b o h => hb.frozen (p := ⟨b, o, none⟩) h⟩

theorem below_agg3 {B b : Nat} {w w1 : World} (h : Below B w w1) (hb : B ≤ b) (x y z : Value) : Below B w (((w1.setCell ⟨b, 0, none⟩ x).setCell ⟨b, 1, none⟩ y).setCell ⟨b, 2, none⟩ z) :=
  ((h.setCell hb _).setCell hb _).setCell hb _

theorem below_new {w w1 : World} {o : Obj} (h : Below (w.alloc o).heap.size (w.alloc o) w1) : Below w.heap.size w w1 :=
  ((Below.refl _ w).alloc (Nat.le_refl _) o).trans (h.mono (by simp))

theorem below_new3 {w w1 : World} {A B C : Obj} (h : Below (((w.alloc A).alloc B).alloc C).heap.size (((w.alloc A).alloc B).alloc C) w1) : Below w.heap.size w w1 :=
  ((((Below.refl _ w).alloc (Nat.le_refl _) _).alloc (by simp) _).alloc (by simp; omega) _).trans (h.mono (by simp; omega))

theorem blk1 (w : World) (A : Obj) : (w.alloc A).heap.size = w.heap.size + 1 ∧ (w.alloc A).heap[w.heap.size]? = some A :=
  ⟨by simp, heap_alloc_new w A⟩

theorem blk2 (w : World) (A B : Obj) : ((w.alloc A).alloc B).heap.size = w.heap.size + 2 ∧ ((w.alloc A).alloc B).heap[w.heap.size]? = some A ∧ ((w.alloc A).alloc B).heap[w.heap.size + 1]? = some B := by
  obtain ⟨s1, b1⟩ := blk1 w A
  obtain ⟨s2, b2⟩ := blk1 (w.alloc A) B
  refine ⟨by omega, ?_, by rw [← s1]; exact b2⟩
  rw [heap_alloc_old _ _ (by omega)]; exact b1

theorem blk3 (w : World) (A B C : Obj) : (((w.alloc A).alloc B).alloc C).heap.size = w.heap.size + 3 ∧ (((w.alloc A).alloc B).alloc C).heap[w.heap.size]? = some A ∧
    (((w.alloc A).alloc B).alloc C).heap[w.heap.size + 1]? = some B ∧ (((w.alloc A).alloc B).alloc C).heap[w.heap.size + 2]? = some C := by
  obtain ⟨s1, b1, b2⟩ := blk2 w A B
  obtain ⟨s2, b3⟩ := blk1 ((w.alloc A).alloc B) C
  refine ⟨by omega, ?_, ?_, by rw [← s1]; exact b3⟩
  · rw [heap_alloc_old _ _ (by omega)]; exact b1
  · rw [heap_alloc_old _ _ (by omega)]; exact b2

theorem blk_cell {w : World} {g j : Nat} {cs : Array Value} {T : TypeId} {v : Value} (h : w.heap[g]? = some (.cells cs T (0, 0))) (hv : cs[j]? = some v) : w.cell? ⟨g, j, none⟩ = some v :=
  (cell_of_row w g j cs T (0, 0) h).trans hv

theorem blk_free {w : World} {g : Nat} {cs : Array Value} {T : TypeId} (h : w.heap[g]? = some (.cells cs T (0, 0))) : ∀ j, w.frozen? ⟨g, j, none⟩ = false := fun j => frozen_of_row w g j cs T h

theorem quiet_plus {P : Program} {f : FuncId} {args : Array Value} {w : World} {d x : Nat} {v : Value}
    (h : Calls P f args (w.drewN (d + x)) fun e w' => e = .returned v ∧ w' = w.drewN (d + x)) : Calls P f args (w.drewN (d + x)) fun e w'' => e = .returned v ∧ ∃ n, w'' = w.drewN (d + n) :=
  h.mono fun _ _ ⟨he, hw⟩ => ⟨he, x, hw⟩

/-- may it be? -/
def may (r c : Int) (s : ByteArray) : Prop := 1 ≤ r ∧ r ≤ 255 ∧ 1 ≤ c ∧ c ≤ 255 ∧ (s.size : Int) = r * c

instance (r c : Int) (s : ByteArray) : Decidable (may r c s) := by unfold may; exact inferInstance

def chk (r c : Int) (s : ByteArray) : Nat := if may r c s then 0 else 4

theorem chk_yes {r c : Nat} {s : ByteArray} (h1 : 1 ≤ r) (h2 : r ≤ 255) (h3 : 1 ≤ c) (h4 : c ≤ 255) (hs : s.size = r * c) : chk (r : Int) (c : Int) s = 0 :=
  if_pos ⟨by omega, by omega, by omega, by omega, by rw [hs, Int.natCast_mul]⟩

theorem chk_no {r c : Int} {s : ByteArray} (h : ¬ may r c s) : chk r c s = 4 := if_neg h

theorem may_nat {r c : Int} {s : ByteArray} (h : may r c s) : ∃ m n : Nat, r = (m : Int) ∧ c = (n : Int) ∧ 1 ≤ m ∧ m ≤ 255 ∧ 1 ≤ n ∧ n ≤ 255 ∧ s.size = m * n := by
  obtain ⟨h1, h2, h3, h4, h5⟩ := h
  obtain ⟨m, rfl⟩ := Int.eq_ofNat_of_zero_le (a := r) (by omega)
  obtain ⟨n, rfl⟩ := Int.eq_ofNat_of_zero_le (a := c) (by omega)
  exact ⟨m, n, rfl, rfl, by omega, by omega, by omega, by omega, by rw [← Int.natCast_mul] at h5; omega⟩

theorem prod_rng {r c : Int} (h1 : 1 ≤ r) (h2 : r ≤ 255) (h3 : 1 ≤ c) (h4 : c ≤ 255) : 1 ≤ r * c ∧ r * c ≤ 65025 := by
  constructor
  · have := Int.mul_le_mul h1 h3 (by omega) (by omega); omega
  · have := Int.mul_le_mul h2 h4 (by omega) (by omega); omega

/-- a matrix of r rows and c columns as bytes, row by row; the byte at a row and a column -/
def tabL (r c : Nat) (f : Nat → Nat → UInt8) : List UInt8 := (List.range (r * c)).map fun p => f (p / c) (p % c)

def cel (s : ByteArray) (c i j : Nat) : UInt8 := s.data[i * c + j]?.getD 0

def cellsU (L : List UInt8) : List Value := L.map fun b => Value.int .u8 (b.toNat : Int)

theorem tab_length (r c : Nat) (f : Nat → Nat → UInt8) : (tabL r c f).length = r * c := by simp [tabL]

theorem size_tab (r c : Nat) (f : Nat → Nat → UInt8) : (⟨(tabL r c f).toArray⟩ : ByteArray).size = r * c := by
  show (tabL r c f).toArray.size = _; rw [List.size_toArray, tab_length]

theorem tab_at (r c : Nat) (f : Nat → Nat → UInt8) (p : Nat) (h : p < r * c) : (tabL r c f)[p]? = some (f (p / c) (p % c)) := by
  simp [tabL, List.getElem?_map, List.getElem?_range h]

theorem place_lt {r c i j : Nat} (hi : i < r) (hj : j < c) : i * c + j < r * c := by
  have : (i + 1) * c ≤ r * c := Nat.mul_le_mul_right c hi
  rw [Nat.add_mul, Nat.one_mul] at this
  omega

theorem place_div {c i j : Nat} (hj : j < c) : (i * c + j) / c = i := by
  rw [Nat.mul_comm, Nat.mul_add_div (by omega), Nat.div_eq_of_lt hj, Nat.add_zero]

theorem place_mod {c i j : Nat} (hj : j < c) : (i * c + j) % c = j := by
  rw [Nat.mul_comm, Nat.mul_add_mod, Nat.mod_eq_of_lt hj]

theorem tab_place (r c : Nat) (f : Nat → Nat → UInt8) (i j : Nat) (hi : i < r) (hj : j < c) : (tabL r c f)[i * c + j]? = some (f i j) := by
  rw [tab_at r c f _ (place_lt hi hj), place_div hj, place_mod hj]

theorem tab_congr (r c : Nat) {f g : Nat → Nat → UInt8} (h : ∀ i j, i < r → j < c → f i j = g i j) : tabL r c f = tabL r c g := by
  unfold tabL
  apply List.map_congr_left
  intro p hp
  have hp' := List.mem_range.1 hp
  have hc : 0 < c := by
    rcases Nat.eq_zero_or_pos c with e | e
    · subst e; simp at hp'
    · exact e
  exact h _ _ ((Nat.div_lt_iff_lt_mul hc).2 hp') (Nat.mod_lt _ hc)

theorem cel_tab (r c : Nat) (f : Nat → Nat → UInt8) (i j : Nat) (hi : i < r) (hj : j < c) : cel ⟨(tabL r c f).toArray⟩ c i j = f i j := by
  unfold cel
  rw [List.getElem?_toArray, tab_place r c f i j hi hj]; rfl

theorem tab_cel (r c : Nat) (s : ByteArray) (h : s.size = r * c) : (⟨(tabL r c (cel s c)).toArray⟩ : ByteArray) = s := by
  have hl : s.data.toList = tabL r c (cel s c) := by
    apply List.ext_getElem?
    intro p
    by_cases hp : p < r * c
    · rw [tab_at r c _ p hp]
      unfold cel
      rw [Nat.mul_comm, Nat.div_add_mod]
      have hp' : p < s.data.size := by show p < s.size; omega
      rw [Array.getElem?_toList, Array.getElem?_eq_getElem hp', Option.getD_some]
    · rw [List.getElem?_eq_none (by show s.size ≤ p; omega), List.getElem?_eq_none (by rw [tab_length]; omega)]
  rw [← hl]

/-- the cells of a table with another function's values are those that a store makes -/
theorem cellsU_set (r c i j : Nat) (f g : Nat → Nat → UInt8) (hi : i < r) (hj : j < c) (hg : ∀ a b, a < r → b < c → (a ≠ i ∨ b ≠ j) → g a b = f a b) (v : Int) (hv : v = ((g i j).toNat : Int)) :
    (cellsU (tabL r c f)).set (i * c + j) (.int .u8 v) = cellsU (tabL r c g) := by
  subst hv
  apply List.ext_getElem?
  intro p
  unfold cellsU
  rw [List.getElem?_set]
  by_cases e : i * c + j = p
  · subst e
    rw [if_pos rfl, if_pos (by rw [List.length_map, tab_length]; exact place_lt hi hj), List.getElem?_map, tab_place r c g i j hi hj]; rfl
  · rw [if_neg e, List.getElem?_map, List.getElem?_map]
    by_cases hp : p < r * c
    · rw [tab_at r c f p hp, tab_at r c g p hp]
      have hc : 0 < c := by omega
      rw [hg (p / c) (p % c) ((Nat.div_lt_iff_lt_mul hc).2 hp) (Nat.mod_lt _ hc)]
      by_cases h1 : p / c = i
      · right
        intro h2
        apply e
        rw [← h1, ← h2, Nat.mul_comm, Nat.div_add_mod]
      · left; exact h1
    · rw [List.getElem?_eq_none (by rw [tab_length]; omega), List.getElem?_eq_none (by rw [tab_length]; omega)]

theorem cellsU_at (r c i j : Nat) (f : Nat → Nat → UInt8) (hi : i < r) (hj : j < c) : (cellsU (tabL r c f))[i * c + j]? = some (.int .u8 ((f i j).toNat : Int)) := by
  unfold cellsU
  rw [List.getElem?_map, tab_place r c f i j hi hj]; rfl

theorem cellsU_zero (r c n : Nat) (h : r * c = n) : (madeCells (Value.int .u8 0).cells (n * 1)).toList = cellsU (tabL r c fun _ _ => 0) := by
  rw [Nat.mul_one, show (Value.int .u8 0).cells = #[.int .u8 0] from rfl, toList_madeCells_one]
  unfold cellsU tabL
  subst h
  apply List.ext_getElem?
  intro p
  by_cases hp : p < r * c
  · simp [hp]
  · simp [hp]

/-- 'string(b)' of a row that is the call's own -/
theorem run_own_text {P : Program} {w : World} {H g n cap : Nat} {e src dst : TypeId} {L : List UInt8} (hown : w.ownsRow H e 1 (.slice (some ⟨g, 0, none⟩) n cap) n (cellsU L)) (hL : L.length = n)
    (hs : P.underlying src = some (.slice e)) (he : P.underlying e = some (.int .u8)) (hd : P.underlying dst = some .string) :
    (convert src dst (.slice (some ⟨g, 0, none⟩) n cap)).run P w = .ok (.string ⟨L.toArray⟩) w := by
  subst hL
  exact run_convert_bytes_back (P := P) w src dst e ⟨g, 0, none⟩ cap L hs he hd (fun j hj => by
    have h1 := hown.cellAt j (by omega)
    unfold cellsU at h1
    rw [List.getElem?_map, List.getElem?_eq_getElem hj] at h1
    rw [addr_head]; exact h1)

/-- the identity, of which the first k rows stand -/
def oneUp (k i j : Nat) : UInt8 := if i < k then GfU.one i j else 0

theorem oneUp_off (k : Nat) {n : Nat} : ∀ a b, a < n → b < n → (a ≠ k ∨ b ≠ k) → oneUp (k + 1) a b = oneUp k a b := by
  intro a b _ _ h
  unfold oneUp GfU.one
  by_cases e : a = k
  · rw [if_pos (by omega), if_neg (by omega), if_neg (by omega)]
  · by_cases e2 : a < k
    · rw [if_pos (by omega), if_pos e2]
    · rw [if_neg (by omega), if_neg e2]

end Go.Proofs.Ytemcjnbgcecinaa

/- What the document's own answers for matrices do: checks, the identity, products; one contract a function; no condition but the form's reach. -/
namespace Go.Proofs.Ytemcjnbgcecinaa
open Go.RowKit

set_option maxRecDepth 20000 in
set_option maxHeartbeats 1000000 in
theorem rcheck_any (r c : Int) (s : ByteArray) (w : World) :
    Calls Try.prog 50 #[.agg #[.int .i64 r, .int .i64 c, .string s]] w fun e w' => e = .returned (.int .i64 ((chk r c s : Nat) : Int)) ∧ Below w.heap.size w w' := by
  by_cases h1 : r < 1
  · have E : Hid (chk r c s = 4) := if_neg (fun h => by unfold may at h; omega)
    go_enter Try.func50, Try.ntmps50
    go_wp2
    go_ret
    exact ⟨by rw [E.out]; rfl, (Below.refl _ _).alloc (Nat.le_refl _) _⟩
  by_cases h2 : 255 < r
  · have E : Hid (chk r c s = 4) := if_neg (fun h => by unfold may at h; omega)
    go_enter Try.func50, Try.ntmps50
    go_wp2
    go_ret
    exact ⟨by rw [E.out]; rfl, (Below.refl _ _).alloc (Nat.le_refl _) _⟩
  by_cases h3 : c < 1
  · have E : Hid (chk r c s = 4) := if_neg (fun h => by unfold may at h; omega)
    go_enter Try.func50, Try.ntmps50
    go_wp2
    go_ret
    exact ⟨by rw [E.out]; rfl, (Below.refl _ _).alloc (Nat.le_refl _) _⟩
  by_cases h4 : 255 < c
  · have E : Hid (chk r c s = 4) := if_neg (fun h => by unfold may at h; omega)
    go_enter Try.func50, Try.ntmps50
    go_wp2
    go_ret
    exact ⟨by rw [E.out]; rfl, (Below.refl _ _).alloc (Nat.le_refl _) _⟩
  obtain ⟨p1, p2⟩ := prod_rng (r := r) (c := c) (by omega) (by omega) (by omega) (by omega)
  by_cases h5 : (s.size : Int) = r * c
  · have E : Hid (chk r c s = 0) := if_pos ⟨by omega, by omega, by omega, by omega, h5⟩
    have t5 : ((s.size : Int) != r * c) = false := by simp [h5]
    clear h5
    go_enter Try.func50, Try.ntmps50
    go_wp2
    go_ret
    exact ⟨by rw [E.out]; rfl, (Below.refl _ _).alloc (Nat.le_refl _) _⟩
  · have E : Hid (chk r c s = 4) := if_neg (fun h => h5 h.2.2.2.2)
    have t5 : ((s.size : Int) != r * c) = true := by simpa using h5
    clear h5
    go_enter Try.func50, Try.ntmps50
    go_wp2
    go_ret
    exact ⟨by rw [E.out]; rfl, (Below.refl _ _).alloc (Nat.le_refl _) _⟩

set_option maxRecDepth 20000 in
set_option maxHeartbeats 1000000 in
theorem rone_any (n : Nat) (w : World) (h1 : 1 ≤ n) (h2 : n ≤ 255) :
    Calls Try.prog 52 #[.int .i64 (n : Int)] w fun e w' => e = .returned (.agg #[.int .i64 (n : Int), .int .i64 (n : Int), .string ⟨(tabL n n GfU.one).toArray⟩]) ∧ Below w.heap.size w w' := by
  obtain ⟨p1, p2⟩ := prod_rng (r := (n : Int)) (c := (n : Int)) (by omega) (by omega) (by omega) (by omega)
  obtain ⟨i0, hi, hz0, hz1, hz2⟩ := info_parts Try.infoU8
  have hN : n * n ≤ 65025 := by have : ((n * n : Nat) : Int) ≤ 65025 := by rw [Int.natCast_mul]; exact p2
                                omega
  go_enter Try.func52, Try.ntmps52
  go_wp2_with (at_make; refine wpList_make_full _ rfl (.tmp 7) (.tmp 7) 48 rfl (w.heap.size + 1) 5 i0 (.int .u8 0) 1 Try.underlying48 hi hz0 hz1 .i64 .i64 _ _ (n * n) rfl rfl (Int.natCast_mul n n).symm (Int.natCast_mul n n).symm (by rw [hz2]; omega) (by unfold maxLen; omega) (by simp) ?_; intro w1 hown hgrow)
  have HO : Hid (w1.ownsRow (w.heap.size + 1) 5 1 (.slice (some ⟨w.heap.size + 1, 0, none⟩) (n * n) (n * n)) (n * n) (cellsU (tabL n n (oneUp 0)))) := by
    rw [cellsU_zero n n (n * n) rfl] at hown
    have e : tabL n n (fun _ _ => 0) = tabL n n (oneUp 0) := tab_congr n n fun _ _ _ _ => rfl
    rw [e] at hown
    have hs : (w.alloc (.cells #[.int .i64 0, .int .i64 0, .string ⟨#[]⟩] 59)).heap.size = w.heap.size + 1 := by simp
    rw [hs] at hown
    exact hown
  have HB : Hid (Below (w.heap.size + 1) (w.alloc (.cells #[.int .i64 0, .int .i64 0, .string ⟨#[]⟩] 59)) w1) := (Below.refl _ _).grown hgrow (by simp) (fun k hk => by cases hk)
  clear hown hgrow
  go_loopw [4] (fun i wr => ∃ k : Nat, k ≤ n ∧ i = .int .i64 (k : Int) ∧ Hid (wr.ownsRow (w.heap.size + 1) 5 1 (.slice (some ⟨w.heap.size + 1, 0, none⟩) (n * n) (n * n)) (n * n) (cellsU (tabL n n (oneUp k)))) ∧ Hid (Below (w.heap.size + 1) (w.alloc (.cells #[.int .i64 0, .int .i64 0, .string ⟨#[]⟩] 59)) wr)) (fun i _ => n - (intOf i).toNat)
  case atStart => exact ⟨0, by omega, rfl, HO, HB⟩
  case round =>
    obtain ⟨k, hk, rfl, hown, hbel⟩ := hrel
    clear HO HB
    by_cases hlt : k < n
    · have hpl := place_lt (r := n) (c := n) (i := k) (j := k) hlt hlt
      have q0 : 0 ≤ (k : Int) * (n : Int) := by rw [← Int.natCast_mul]; omega
      have q1 : (k : Int) * (n : Int) + (k : Int) < (n : Int) * (n : Int) := by rw [← Int.natCast_mul, ← Int.natCast_mul]; omega
      have q2 : ((k : Int) * (n : Int) + (k : Int)).toNat = k * n + k := by rw [← Int.natCast_mul]; omega
      have hcell := (hown.out.cellAt (k * n + k) (by omega)).trans (cellsU_at n n k k (oneUp k) hlt hlt)
      have hfro := hown.out.frozenAt (k * n + k)
      go_wp2_with fail
      go_roundw
      case rel =>
        have R := hown.out.stored (k * n + k) (.int .u8 1)
        rw [cellsU_set n n k k (oneUp k) (oneUp (k + 1)) hlt hlt (oneUp_off k) 1 (by unfold oneUp GfU.one; rw [if_pos (by omega), if_pos rfl]; rfl)] at R
        exact ⟨k + 1, by omega, by go_num, R.1, hbel.out.setCell (by simp) _⟩
      case measure => simp [intOf]; omega
    · obtain rfl : k = n := by omega
      have hcv := run_own_text (P := Try.prog) (w := wr) (src := 48) (dst := 9) hown.out (by rw [tab_length]) Try.underlying48 Try.underlying5 Try.underlying9
      rw [tab_congr k k (f := oneUp k) (g := GfU.one) fun i j hi _ => if_pos hi] at hcv
      have c0 : wr.cell? ⟨w.heap.size, 0, none⟩ = some (.int .i64 0) := (hbel.out.cell (p := ⟨w.heap.size, 0, none⟩) (by simp)).trans (by simp)
      have c1 : wr.cell? ⟨w.heap.size, 1, none⟩ = some (.int .i64 0) := (hbel.out.cell (p := ⟨w.heap.size, 1, none⟩) (by simp)).trans (by simp)
      have c2 : wr.cell? ⟨w.heap.size, 2, none⟩ = some (.string ⟨#[]⟩) := (hbel.out.cell (p := ⟨w.heap.size, 2, none⟩) (by simp)).trans (by simp)
      have cf : ∀ o, wr.frozen? ⟨w.heap.size, o, none⟩ = false := fun o => (hbel.out.frozen (p := ⟨w.heap.size, o, none⟩) (by simp)).trans (by simp)
      clear hown
      go_wp2_with fail
      exact bodyPost_ret (v := .agg #[.int .i64 (k : Int), .int .i64 (k : Int), .string ⟨(tabL k k GfU.one).toArray⟩]) (by simp [results, Try.results52, go_sem, c0, c1, c2]) rfl
        ⟨rfl, (((((Below.refl _ w).alloc (Nat.le_refl _) _).trans (hbel.out.mono (by omega))).setCell (Nat.le_refl _) _).setCell (Nat.le_refl _) _).setCell (Nat.le_refl _) _⟩

/-- the product's bytes of a and b when n places stand in it, whole rows first -/
def timesF (ca cb : Nat) (a b : ByteArray) (i j : Nat) : UInt8 := GfU.mm ca (cel a ca) (cel b cb) i j

theorem cel_at (s : ByteArray) (c i j : Nat) (h : i * c + j < s.size) : (s[i * c + j]'h) = cel s c i j := by
  unfold cel
  have h' : i * c + j < s.data.size := h
  rw [Array.getElem?_eq_getElem h']; rfl

/-- the first k products of a row and a column -/
def dotF (ca cb : Nat) (a b : ByteArray) (i j k : Nat) : UInt8 := GfU.sum k fun l => GfU.ml (cel a ca i l) (cel b cb l j)

theorem dotF_succ (ca cb : Nat) (a b : ByteArray) (i j k : Nat) (h1 : i * ca + k < a.size) (h2 : k * cb + j < b.size) :
    (dotF ca cb a b i j (k + 1)).toNat = (dotF ca cb a b i j k).toNat ^^^ GfM.mul (a[i * ca + k]'h1).toNat (b[k * cb + j]'h2).toNat := by
  unfold dotF
  rw [GfU.sum_succ, UInt8.toNat_xor, GfU.ml_toNat, cel_at, cel_at]

theorem take_tab (r c : Nat) (f : Nat → Nat → UInt8) (i j : Nat) (hi : i < r) (hj : j < c) : cellsU ((tabL r c f).take (i * c + j)) ++ [.int .u8 ((f i j).toNat : Int)] = cellsU ((tabL r c f).take (i * c + j + 1)) := by
  have h : i * c + j < (tabL r c f).length := by rw [tab_length]; exact place_lt hi hj
  unfold cellsU
  rw [List.take_succ_eq_append_getElem h, List.map_append, List.map_cons, List.map_nil]
  have e := tab_place r c f i j hi hj
  rw [List.getElem?_eq_getElem h, Option.some.injEq] at e
  rw [e]

end Go.Proofs.Ytemcjnbgcecinaa

/- What the document's own answers for matrices do: products with their checks, rows, what is picked, generators; one contract a function; no condition but the form's reach. -/
namespace Go.Proofs.Ytemcjnbgcecinaa
open Go.RowKit

end Go.Proofs.Ytemcjnbgcecinaa

/- Inverses by steps on rows, in plain functions: what each step keeps, what stands at the end, why there is none; no condition. -/
namespace Go.Proofs.Ytemcjnbgcecinaa.GfU

theorem sq_refl (n : Nat) (A : Nat → Nat → UInt8) : sq n A A := fun _ _ _ _ => rfl

theorem sq_symm {n : Nat} {A B : Nat → Nat → UInt8} (h : sq n A B) : sq n B A := fun i j hi hj => (h i j hi hj).symm

theorem sq_trans {n : Nat} {A B C : Nat → Nat → UInt8} (h : sq n A B) (k : sq n B C) : sq n A C := fun i j hi hj => (h i j hi hj).trans (k i j hi hj)

theorem sq_mm {n : Nat} {A A' B B' : Nat → Nat → UInt8} (h : sq n A A') (k : sq n B B') : sq n (mm n A B) (mm n A' B') :=
  fun i j hi hj => mm_congr n i j (fun l hl => h i l hi hl) (fun l hl => k l j hl hj)

theorem sq_assoc (n : Nat) (A B C : Nat → Nat → UInt8) : sq n (mm n (mm n A B) C) (mm n A (mm n B C)) := fun i j _ _ => mm_assoc n n A B C i j

theorem sq_one_mm (n : Nat) (A : Nat → Nat → UInt8) : sq n (mm n one A) A := fun i j hi _ => one_mm n A i j hi

theorem sq_mm_one (n : Nat) (A : Nat → Nat → UInt8) : sq n (mm n A one) A := fun i j _ hj => mm_one n A i j hj

/-- what stands while rows of M and of the identity are worked on: Q undoes R; M is Q times what M's rows have become -/
def Going (n : Nat) (M Q R A : Nat → Nat → UInt8) : Prop := sq n (mm n Q R) one ∧ sq n (mm n R Q) one ∧ sq n M (mm n Q A)

theorem going_start (n : Nat) (M : Nat → Nat → UInt8) : Going n M one one M :=
  ⟨sq_one_mm n one, sq_one_mm n one, sq_symm (sq_one_mm n M)⟩

theorem going_step {n : Nat} {M Q R A T T' R' A' : Nat → Nat → UInt8} (h : Going n M Q R A) (h1 : sq n (mm n T T') one) (h2 : sq n (mm n T' T) one) (hR : sq n R' (mm n T R)) (hA : sq n A' (mm n T A)) :
    Going n M (mm n Q T') R' A' := by
  obtain ⟨q1, q2, q3⟩ := h
  have mid : ∀ X, sq n (mm n (mm n Q T') (mm n T X)) (mm n Q X) := fun X =>
    sq_trans (sq_assoc n Q T' (mm n T X)) (sq_mm (sq_refl n Q) (sq_trans (sq_symm (sq_assoc n T' T X)) (sq_trans (sq_mm h2 (sq_refl n X)) (sq_one_mm n X))))
  refine ⟨sq_trans (sq_mm (sq_refl n _) hR) (sq_trans (mid R) q1), ?_, sq_trans q3 (sq_symm (sq_trans (sq_mm (sq_refl n _) hA) (mid A)))⟩
  refine sq_trans (sq_mm hR (sq_refl n _)) (sq_trans (sq_assoc n T R (mm n Q T')) (sq_trans (sq_mm (sq_refl n T) ?_) h1))
  exact sq_trans (sq_symm (sq_assoc n R Q T')) (sq_trans (sq_mm q2 (sq_refl n T')) (sq_one_mm n T'))

theorem going_end {n : Nat} {M Q R A : Nat → Nat → UInt8} (h : Going n M Q R A) (hA : sq n A one) : sq n (mm n R M) one ∧ sq n (mm n M R) one := by
  obtain ⟨q1, q2, q3⟩ := h
  have hMQ : sq n M Q := sq_trans q3 (sq_trans (sq_mm (sq_refl n Q) hA) (sq_mm_one n Q))
  exact ⟨sq_trans (sq_mm (sq_refl n R) hMQ) q2, sq_trans (sq_mm hMQ (sq_refl n R)) q1⟩

/-- two rows exchanged -/
def swp (c a i : Nat) : Nat := if i = c then a else if i = a then c else i

theorem swp_lt {n c a i : Nat} (hc : c < n) (ha : a < n) (hi : i < n) : swp c a i < n := by unfold swp; split <;> (try split) <;> omega

theorem swp_swp (c a i : Nat) : swp c a (swp c a i) = i := by
  unfold swp
  by_cases h1 : i = c
  · by_cases h2 : a = c <;> simp [h1, h2]
  · by_cases h2 : i = a
    · simp [h2]
    · simp [h1, h2]

theorem swp_mm (n c a : Nat) (hc : c < n) (ha : a < n) (X : Nat → Nat → UInt8) : sq n (fun i j => X (swp c a i) j) (mm n (fun i j => one (swp c a i) j) X) := by
  intro i j hi _
  show X (swp c a i) j = sum n fun k => ml (one (swp c a i) k) (X k j)
  exact (one_mm n X (swp c a i) j (swp_lt hc ha hi)).symm

theorem swp_inv (n c a : Nat) (hc : c < n) (ha : a < n) : sq n (mm n (fun i j => one (swp c a i) j) (fun i j => one (swp c a i) j)) one := by
  intro i j hi hj
  rw [← swp_mm n c a hc ha (fun i j => one (swp c a i) j) i j hi hj]
  show one (swp c a (swp c a i)) j = one i j
  rw [swp_swp]

theorem going_swap {n c a : Nat} {M Q R A : Nat → Nat → UInt8} (hc : c < n) (ha : a < n) (h : Going n M Q R A) :
    ∃ Q', Going n M Q' (fun i j => R (swp c a i) j) (fun i j => A (swp c a i) j) :=
  ⟨_, going_step h (swp_inv n c a hc ha) (swp_inv n c a hc ha) (swp_mm n c a hc ha R) (swp_mm n c a hc ha A)⟩

/-- the identity with another column c -/
def colT (c : Nat) (t : Nat → UInt8) (i j : Nat) : UInt8 := if j = c then t i else one i j

theorem colT_mm (n c : Nat) (hc : c < n) (t : Nat → UInt8) (X : Nat → Nat → UInt8) (i j : Nat) (hi : i < n) :
    mm n (colT c t) X i j = if i = c then ml (t c) (X c j) else X i j ^^^ ml (t i) (X c j) := by
  unfold mm
  rw [sum_off n c hc]
  have e : (colT c t i c) = t i := by unfold colT; rw [if_pos rfl]
  rw [e]
  by_cases h : i = c
  · subst h
    rw [if_pos rfl, sum_null n, UInt8.xor_zero]
    intro k _
    by_cases hk : k = i
    · rw [if_pos hk]
    · rw [if_neg hk]; unfold colT one; rw [if_neg hk, if_neg (fun x => hk x.symm), zero_ml]
  · rw [if_neg h, sum_single n i hi, if_neg h]
    · unfold colT one
      rw [if_neg h, if_pos rfl, one_ml, UInt8.xor_comm]
    · intro k _ hk
      by_cases h2 : k = c
      · rw [if_pos h2]
      · rw [if_neg h2]; unfold colT one; rw [if_neg h2, if_neg (fun x => hk x.symm), zero_ml]

/-- the step that makes column c plain -/
def colR (c : Nat) (x : Nat → UInt8) (i : Nat) : UInt8 := if i = c then iv (x c) else ml (x i) (iv (x c))

theorem colR_inv (n c : Nat) (hc : c < n) (x : Nat → UInt8) (hx : x c ≠ 0) : sq n (mm n (colT c (colR c x)) (colT c x)) one ∧ sq n (mm n (colT c x) (colT c (colR c x))) one := by
  constructor
  · intro i j hi _
    rw [colT_mm n c hc _ _ i j hi]
    unfold colT colR
    by_cases h : i = c
    · subst h
      rw [if_pos rfl, if_pos rfl]
      by_cases hj : j = i
      · subst hj; rw [if_pos rfl, iv_ml hx]; unfold one; rw [if_pos rfl]
      · rw [if_neg hj]; unfold one; rw [if_neg (fun e => hj e.symm), ml_zero]
    · rw [if_neg h, if_neg h]
      by_cases hj : j = c
      · subst hj
        rw [if_pos rfl, if_pos rfl, ml_assoc, iv_ml hx, ml_one, xor_self]; unfold one; rw [if_neg h]
      · rw [if_neg hj, if_neg hj]
        have e : one c j = 0 := by unfold one; rw [if_neg (fun e => hj e.symm)]
        rw [e, ml_zero, UInt8.xor_zero]
  · intro i j hi _
    rw [colT_mm n c hc _ _ i j hi]
    unfold colT colR
    by_cases h : i = c
    · subst h
      rw [if_pos rfl]
      by_cases hj : j = i
      · subst hj; rw [if_pos rfl, if_pos rfl, ml_iv hx]; unfold one; rw [if_pos rfl]
      · rw [if_neg hj]; unfold one; rw [if_neg (fun e => hj e.symm), ml_zero]
    · rw [if_neg h]
      by_cases hj : j = c
      · subst hj
        rw [if_pos rfl, if_pos rfl, if_neg h, if_pos rfl, xor_self]; unfold one; rw [if_neg h]
      · rw [if_neg hj, if_neg hj]
        have e : one c j = 0 := by unfold one; rw [if_neg (fun e => hj e.symm)]
        rw [e, ml_zero, UInt8.xor_zero]

/-- what the step makes of rows: row c by the inverse of the pivot, each other one plus its own byte of column c times the new row c -/
def elim (c : Nat) (x : Nat → UInt8) (X : Nat → Nat → UInt8) (i j : Nat) : UInt8 := if i = c then ml (iv (x c)) (X c j) else X i j ^^^ ml (x i) (ml (iv (x c)) (X c j))

theorem elim_mm (n c : Nat) (hc : c < n) (x : Nat → UInt8) (X : Nat → Nat → UInt8) : sq n (elim c x X) (mm n (colT c (colR c x)) X) := by
  intro i j hi _
  rw [colT_mm n c hc _ _ i j hi]
  unfold elim colR
  by_cases h : i = c
  · subst h; rw [if_pos rfl, if_pos rfl, if_pos rfl]
  · rw [if_neg h, if_neg h, if_neg h, ml_assoc]

theorem going_elim {n c : Nat} {M Q R A : Nat → Nat → UInt8} (hc : c < n) (hp : A c c ≠ 0) (h : Going n M Q R A) :
    ∃ Q', Going n M Q' (elim c (fun i => A i c) R) (elim c (fun i => A i c) A) := by
  obtain ⟨h1, h2⟩ := colR_inv n c hc (fun i => A i c) hp
  exact ⟨_, going_step h h1 h2 (elim_mm n c hc _ R) (elim_mm n c hc _ A)⟩

/-- the first c columns are plain -/
def plain (n c : Nat) (A : Nat → Nat → UInt8) : Prop := ∀ i j, i < n → j < c → A i j = one i j

theorem plain_swap {n c a : Nat} {A : Nat → Nat → UInt8} (hc : c < n) (hca : c ≤ a) (ha : a < n) (h : plain n c A) : plain n c (fun i j => A (swp c a i) j) := by
  intro i j hi hj
  show A (swp c a i) j = one i j
  rw [h _ j (swp_lt hc ha hi) hj]
  unfold one swp
  by_cases h1 : i = c
  · rw [if_pos h1, if_neg (by omega), if_neg (by omega)]
  · rw [if_neg h1]
    by_cases h2 : i = a
    · rw [if_pos h2, if_neg (by omega), if_neg (by omega)]
    · rw [if_neg h2]

theorem plain_elim {n c : Nat} {A : Nat → Nat → UInt8} (hc : c < n) (hp : A c c ≠ 0) (h : plain n c A) : plain n (c + 1) (elim c (fun i => A i c) A) := by
  intro i j hi hj
  unfold elim
  by_cases e : j = c
  · subst e
    by_cases h1 : i = j
    · subst h1; rw [if_pos rfl]; unfold one; rw [if_pos rfl]; exact iv_ml hp
    · rw [if_neg h1]
      show A i j ^^^ ml (A i j) (ml (iv (A j j)) (A j j)) = one i j
      rw [iv_ml hp, ml_one, xor_self]; unfold one; rw [if_neg h1]
  · have h0 : A c j = 0 := by rw [h c j hc (by omega)]; unfold one; rw [if_neg (fun x => e x.symm)]
    by_cases h1 : i = c
    · subst h1; rw [if_pos rfl, h0, ml_zero]; unfold one; rw [if_neg (fun x => e x.symm)]
    · rw [if_neg h1, h0, ml_zero, ml_zero, UInt8.xor_zero]; exact h i j hi (by omega)

/-- M sends something to 0 that is not 0 -/
def Sing (n : Nat) (M : Nat → Nat → UInt8) : Prop := ∃ (v : Nat → UInt8) (c : Nat), c < n ∧ v c ≠ 0 ∧ ∀ i, i < n → sum n (fun k => ml (M i k) (v k)) = 0

theorem going_sing {n c : Nat} {M Q R A : Nat → Nat → UInt8} (hc : c < n) (h : Going n M Q R A) (hp : plain n c A) (h0 : ∀ i, c ≤ i → i < n → A i c = 0) : Sing n M := by
  refine ⟨fun k => if k = c then 1 else if k < c then A k c else 0, c, hc, by simp, ?_⟩
  intro i hi
  have hv : ∀ l, l < n → sum n (fun k => ml (A l k) (if k = c then 1 else if k < c then A k c else 0)) = 0 := by
    intro l hl
    rw [sum_off n c hc, if_pos rfl, ml_one]
    by_cases e : l < c
    · rw [sum_single n l hl, if_neg (by omega), if_neg (by omega), if_pos e, hp l l hl e]
      · unfold one; rw [if_pos rfl, one_ml, xor_self]
      · intro k hk hkl
        by_cases k1 : k = c
        · rw [if_pos k1]
        · rw [if_neg k1, if_neg k1]
          by_cases k2 : k < c
          · rw [if_pos k2, hp l k hl k2]; unfold one; rw [if_neg (fun x => hkl x.symm), zero_ml]
          · rw [if_neg k2, ml_zero]
    · rw [h0 l (by omega) hl, sum_null n, xor_self]
      intro k hk
      by_cases k1 : k = c
      · rw [if_pos k1]
      · rw [if_neg k1, if_neg k1]
        by_cases k2 : k < c
        · rw [if_pos k2, hp l k hl k2]; unfold one; rw [if_neg (by omega), zero_ml]
        · rw [if_neg k2, ml_zero]
  have e := mm_assoc n n Q A (fun k _ => if k = c then 1 else if k < c then A k c else 0) i 0
  have e1 : sum n (fun k => ml (M i k) (if k = c then 1 else if k < c then A k c else 0)) = mm n (mm n Q A) (fun k _ => if k = c then 1 else if k < c then A k c else 0) i 0 :=
    sum_congr n fun k hk => by rw [h.2.2 i k hi hk]
  rw [e1, e]
  exact sum_null n fun k hk => by
    show ml (Q i k) (sum n fun l => ml (A k l) (if l = c then 1 else if l < c then A l c else 0)) = 0
    rw [hv k hk, ml_zero]

theorem sing_no_inv {n : Nat} {M R : Nat → Nat → UInt8} (h : Sing n M) (h1 : sq n (mm n R M) one) : False := by
  obtain ⟨v, c, hc, hv, h0⟩ := h
  exact hv (inv_ker n h1 h0 c hc)
end Go.Proofs.Ytemcjnbgcecinaa.GfU

/- Any k unlike rows of a generator send nothing but 0 to 0, in plain functions; no condition but that rows and columns are below 256. -/
namespace Go.Proofs.Ytemcjnbgcecinaa.GfU

/-- a sum over a list -/
def sumL (L : List Nat) (f : Nat → UInt8) : UInt8 := match L with
  | [] => 0
  | a :: L => f a ^^^ sumL L f

theorem sumL_append (L K : List Nat) (f : Nat → UInt8) : sumL (L ++ K) f = sumL L f ^^^ sumL K f := by
  induction L with
  | nil => exact (UInt8.zero_xor).symm
  | cons a L ih => show f a ^^^ sumL (L ++ K) f = _; rw [ih, ← UInt8.xor_assoc]; rfl

theorem sum_range (n : Nat) (f : Nat → UInt8) : sum n f = sumL (List.range n) f := by
  induction n with
  | zero => rfl
  | succ n ih => rw [sum_succ, List.range_succ, sumL_append, ih]; show _ = _ ^^^ (f n ^^^ 0); rw [UInt8.xor_zero]

theorem sumL_filter (p : Nat → Bool) (L : List Nat) (f : Nat → UInt8) (h : ∀ a, a ∈ L → p a = false → f a = 0) : sumL L f = sumL (L.filter p) f := by
  induction L with
  | nil => rfl
  | cons a L ih =>
    have hL := ih fun b hb => h b (List.mem_cons_of_mem _ hb)
    by_cases e : p a = true
    · rw [List.filter_cons_of_pos e]; show f a ^^^ _ = f a ^^^ _; rw [hL]
    · rw [List.filter_cons_of_neg e]; show f a ^^^ _ = _
      rw [h a (List.mem_cons_self ..) (by simpa using e), UInt8.zero_xor, hL]

theorem sumL_get (L : List Nat) (f : Nat → UInt8) : sumL L f = sum L.length (fun t => f (L.getD t 0)) := by
  have key : ∀ (K L : List Nat), sumL L f = sum L.length (fun t => f ((K ++ L).getD (K.length + t) 0)) := by
    intro K L
    induction L generalizing K with
    | nil => rfl
    | cons a L ih =>
      have h1 : ∀ n (g : Nat → UInt8), sum (n + 1) g = g 0 ^^^ sum n (fun t => g (t + 1)) := by
        intro n g
        induction n with
        | zero => show 0 ^^^ g 0 = g 0 ^^^ 0; rw [UInt8.zero_xor, UInt8.xor_zero]
        | succ n ihn => rw [sum_succ, ihn, sum_succ, UInt8.xor_assoc]
      rw [List.length_cons, h1]
      show f a ^^^ sumL L f = _
      rw [ih (K ++ [a])]
      congr 1
      · congr 1; simp
      · refine sum_congr _ fun t _ => ?_
        congr 1
        rw [List.append_assoc, List.length_append, List.length_singleton, show K.length + 1 + t = K.length + (t + 1) from by omega]
        rfl
  have := key [] L
  simpa using this

/-- the generator of k: the identity, below it Cauchy's rows -/
def gen (k : Nat) (i j : Nat) : UInt8 := if i < k then one i j else iv (UInt8.ofNat (i ^^^ j))

theorem byte_inj {a b : Nat} (ha : a < 256) (hb : b < 256) (h : UInt8.ofNat a = UInt8.ofNat b) : a = b := by
  have := congrArg UInt8.toNat h
  rwa [toNat_ofNat (by omega), toNat_ofNat (by omega)] at this

theorem byte_xor (a b : Nat) (ha : a < 256) (hb : b < 256) : UInt8.ofNat (a ^^^ b) = UInt8.ofNat a ^^^ UInt8.ofNat b := by
  apply eq_of
  have := GfM.xor_le (b := a) (c := b) (by omega) (by omega)
  rw [UInt8.toNat_xor, toNat_ofNat this, toNat_ofNat (by omega), toNat_ofNat (by omega)]

theorem nodup_getD {L : List Nat} (h : L.Nodup) {i j : Nat} (hi : i < L.length) (hj : j < L.length) (e : L.getD i 0 = L.getD j 0) : i = j := by
  rw [List.getD_eq_getElem?_getD, List.getD_eq_getElem?_getD, List.getElem?_eq_getElem hi, List.getElem?_eq_getElem hj] at e
  have e' : L[i] = L[j] := by simpa using e
  have hp := List.pairwise_iff_getElem.1 h
  rcases Nat.lt_trichotomy i j with h1 | h1 | h1
  · exact absurd e' (hp i j hi hj h1)
  · exact h1
  · exact absurd e'.symm (hp j i hj hi h1)

theorem getD_mem {L : List Nat} {i : Nat} (hi : i < L.length) : L.getD i 0 ∈ L := by
  rw [List.getD_eq_getElem?_getD, List.getElem?_eq_getElem hi]
  exact List.getElem_mem hi

theorem filter_split (L : List Nat) (p : Nat → Bool) : L.length = (L.filter p).length + (L.filter fun a => !p a).length := by
  induction L with
  | nil => rfl
  | cons a L ih =>
    cases h : p a with
    | true => rw [List.filter_cons_of_pos h, List.filter_cons_of_neg (by simp [h]), List.length_cons, List.length_cons]; omega
    | false => rw [List.filter_cons_of_neg (by simp [h]), List.filter_cons_of_pos (by simp [h]), List.length_cons, List.length_cons]; omega

/-- rows of numbers that are unlike: as many columns are left as there are rows of Cauchy -/
theorem left_length (k : Nat) (L : List Nat) (hn : L.Nodup) (hl : L.length = k) : ((List.range k).filter fun j => !(L.contains j)).length = (L.filter fun i => !(decide (i < k))).length := by
  have e1 : ((List.range k).filter fun j => L.contains j).length = (L.filter fun i => decide (i < k)).length := by
    apply List.Perm.length_eq
    apply (List.perm_ext_iff_of_nodup (List.Pairwise.filter _ List.nodup_range) (List.Pairwise.filter _ hn)).2
    intro a
    simp only [List.mem_filter, List.mem_range, List.contains_iff_mem, decide_eq_true_eq]
    exact ⟨fun h => ⟨h.2, h.1⟩, fun h => ⟨h.2, h.1⟩⟩
  have a1 := filter_split (List.range k) (fun j => L.contains j)
  have a2 := filter_split L (fun i => decide (i < k))
  rw [List.length_range] at a1
  omega

theorem gen_any (k : Nat) (L : List Nat) (hn : L.Nodup) (hl : L.length = k) (hm : ∀ i, i ∈ L → i < 256) (hk : k < 256) (v : Nat → UInt8)
    (h0 : ∀ t, t < k → sum k (fun j => ml (gen k (L.getD t 0) j) (v j)) = 0) : ∀ j, j < k → v j = 0 := by
  -- what the rows of the identity say
  have hid : ∀ j, j < k → L.contains j = true → v j = 0 := by
    intro j hj hc
    have hmem : j ∈ L := by simpa using hc
    obtain ⟨t, ht, e⟩ := List.getElem_of_mem hmem
    have h := h0 t (by omega)
    have e2 : L.getD t 0 = j := by rw [List.getD_eq_getElem?_getD, List.getElem?_eq_getElem ht]; simpa using e
    rw [e2, sum_single k j hj] at h
    · unfold gen one at h; rw [if_pos hj, if_pos rfl, one_ml] at h; exact h
    · intro i _ hi
      unfold gen one; rw [if_pos hj, if_neg (fun x => hi x.symm), zero_ml]
  have hlen := left_length k L hn hl
  generalize hC : (L.filter fun i => !(decide (i < k))) = C at hlen
  generalize hJ : ((List.range k).filter fun j => !(L.contains j)) = J at hlen
  have hCn : C.Nodup := by rw [← hC]; exact List.Pairwise.filter _ hn
  have hJn : J.Nodup := by rw [← hJ]; exact List.Pairwise.filter _ List.nodup_range
  have hCm : ∀ i, i ∈ C → i ∈ L ∧ k ≤ i := by
    intro i hi; rw [← hC] at hi
    simp only [List.mem_filter, Bool.not_eq_true', decide_eq_false_iff_not] at hi
    exact ⟨hi.1, by omega⟩
  have hJm : ∀ j, j ∈ J → j < k ∧ L.contains j = false := by
    intro j hj; rw [← hJ] at hj
    simp only [List.mem_filter, List.mem_range, Bool.not_eq_true'] at hj
    exact hj
  have hrow : ∀ i, i ∈ C → sum J.length (fun t => ml (iv (UInt8.ofNat i ^^^ UInt8.ofNat (J.getD t 0))) (v (J.getD t 0))) = 0 := by
    intro i hi
    obtain ⟨hiL, hik⟩ := hCm i hi
    obtain ⟨t, ht, e⟩ := List.getElem_of_mem hiL
    have h := h0 t (by omega)
    have e2 : L.getD t 0 = i := by rw [List.getD_eq_getElem?_getD, List.getElem?_eq_getElem ht]; simpa using e
    rw [e2, sum_range, sumL_filter (fun j => !(L.contains j)), hJ, sumL_get] at h
    · rw [← h]
      refine sum_congr _ fun s hs => ?_
      have hj := (hJm _ (getD_mem hs)).1
      unfold gen; rw [if_neg (by omega), byte_xor _ _ (hm i hiL) (by omega)]
    · intro j hj hc
      rw [hid j (List.mem_range.1 hj) (by simpa using hc), ml_zero]
  have hz := cauchy J.length (fun t => UInt8.ofNat (C.getD t 0)) (fun t => UInt8.ofNat (J.getD t 0)) (fun t => v (J.getD t 0))
    (fun i j hi hj e => nodup_getD hCn (by omega) (by omega) (byte_inj (hm _ (hCm _ (getD_mem (by omega))).1) (hm _ (hCm _ (getD_mem (by omega))).1) e))
    (fun i j hi hj e => nodup_getD hJn hi hj (byte_inj (by have := (hJm _ (getD_mem hi)).1; omega) (by have := (hJm _ (getD_mem hj)).1; omega) e))
    (fun i j hi hj e => by
      have h1 := (hCm _ (getD_mem (L := C) (i := i) (by omega)))
      have h2 := (hJm _ (getD_mem hj)).1
      have := byte_inj (hm _ h1.1) (by omega) e
      omega)
    (fun i hi => hrow _ (getD_mem (by omega)))
  intro j hj
  by_cases hc : L.contains j = true
  · exact hid j hj hc
  · have hmem : j ∈ J := by rw [← hJ]; simp only [List.mem_filter, List.mem_range, Bool.not_eq_true']; exact ⟨hj, by simpa using hc⟩
    obtain ⟨t, ht, e⟩ := List.getElem_of_mem hmem
    have h := hz t ht
    have e2 : J.getD t 0 = j := by rw [List.getD_eq_getElem?_getD, List.getElem?_eq_getElem ht]; simpa using e
    simpa only [e2] using h

theorem gen_not_sing (k : Nat) (L : List Nat) (hn : L.Nodup) (hl : L.length = k) (hm : ∀ i, i ∈ L → i < 256) (hk : k < 256) : ¬ Sing k (fun i j => gen k (L.getD i 0) j) := by
  rintro ⟨v, c, hc, hv, h0⟩
  exact hv (gen_any k L hn hl hm hk v h0 c hc)
end Go.Proofs.Ytemcjnbgcecinaa.GfU

/- The small functions that the laws of matrices lean on; what they ask of the program's own functions stands as hypotheses. -/
namespace Go.Proofs.Ytemcjnbgcecinaa
open Go.RowKit

/-- a number from 1 to 6 -/
def sideV (n : Int) : Nat := 1 + (n % 18446744073709551616 % 6).toNat

theorem sideV_rng (n : Int) : 1 ≤ sideV n ∧ sideV n ≤ 6 := by unfold sideV; omega

/-- the program's generator of 2 and 1 is the chapter's -/
def GenExample : Prop := ∀ w : World, Calls Try.prog 44 #[.int .i64 2, .int .i64 1] w fun e w' =>
  e = .returned (.tuple #[.agg #[.int .i64 3, .int .i64 2, .string ⟨#[1, 0, 0, 1, 142, 244]⟩], .int .i64 0]) ∧ Below w.heap.size w w'

/-- 'copy(b, s)', s a string, b a row of the call's own: as many bytes as the shorter has go over -/
theorem run_copy_text {P : Program} (w : World) (dT sT ty elem : TypeId) (g dLen dCap : Nat) (s : ByteArray) (cur : Array Value) (t : TypeId)
    (hu : P.underlying dT = some (.slice elem)) (hs : (P.info? elem).map (·.size) = some 1) (hg : w.heap[g]? = some (.cells cur t (0, 0))) (hfit : dLen ≤ cur.size) :
    (Builtin.copy_ #[dT, sT] ty #[.slice (some ⟨g, 0, none⟩) dLen dCap, .string s]).run P w =
      .ok (goInt ((min s.size dLen : Nat) : Int)) (w.setRow g ((Lib.byteCells s.data.toList).take (min s.size dLen) ++ cur.toList.drop (min s.size dLen)).toArray) := by
  have hlen : ((Lib.byteCells s.data.toList).take (min s.size dLen)).length = min s.size dLen := by rw [List.length_take, Lib.byteCells_length, ← Lib.size_eq]; omega
  have hst := run_storeCells_at P g 0 t ((Lib.byteCells s.data.toList).take (min s.size dLen)) 0 cur w hg (by rw [hlen]; omega) (fun v hv => Lib.byteCells_one _ v (List.mem_of_mem_take hv))
  rw [hlen] at hst
  simp only [Nat.add_zero, Nat.zero_add, List.take_zero, List.nil_append] at hst
  cases hq : P.info? elem with
  | none => simp [hq] at hs
  | some i =>
    have hi1 : i.size = 1 := by simpa [hq] using hs
    simp [Builtin.copy_, run_underlying hu, Builtin.lenOf, Builtin.firstCells, sizeOf, typeInfo, hq]
    rw [show List.take (s.size.min dLen) (List.map (fun b : UInt8 => Value.int IntKind.u8 (b.toNat : Int)) s.data.toList) = (Lib.byteCells s.data.toList).take (min s.size dLen) from rfl, hst]
    rfl

/-- the bytes of a text, row by row; behind its end 0 -/
def madeF (c : Nat) (s : ByteArray) (i j : Nat) : UInt8 := s.data[i * c + j]?.getD 0

/-- what stands in the row behind the copy -/
theorem copied_cells (r c : Nat) (s : ByteArray) (cur : Array Value) (hcur : cur.toList = cellsU (tabL r c fun _ _ => 0)) :
    (Lib.byteCells s.data.toList).take (min s.size (r * c)) ++ cur.toList.drop (min s.size (r * c)) = cellsU (tabL r c (madeF c s)) := by
  have hb : (Lib.byteCells s.data.toList).length = s.size := by rw [Lib.byteCells_length, ← Lib.size_eq]
  have hl : ((Lib.byteCells s.data.toList).take (min s.size (r * c))).length = min s.size (r * c) := by rw [List.length_take, hb]; omega
  apply List.ext_getElem?
  intro p
  unfold cellsU
  rw [List.getElem?_map]
  by_cases hp : p < r * c
  · rw [tab_at r c _ p hp]
    unfold madeF
    rw [show p / c * c + p % c = p from by rw [Nat.mul_comm (p / c), Nat.div_add_mod]]
    by_cases hs : p < s.size
    · have hs' : p < s.data.size := hs
      rw [List.getElem?_append_left (by omega), List.getElem?_take, if_pos (by omega), Array.getElem?_eq_getElem hs']
      show (Lib.byteCells s.data.toList)[p]? = _
      unfold Lib.byteCells
      rw [List.getElem?_map, List.getElem?_eq_getElem (by simpa using hs')]; rfl
    · have hs' : ¬ p < s.data.size := hs
      rw [List.getElem?_append_right (by omega), hl, List.getElem?_drop, hcur]
      unfold cellsU
      rw [List.getElem?_map, show min s.size (r * c) + (p - min s.size (r * c)) = p from by omega, tab_at r c _ p hp, Array.getElem?_eq_none (by omega)]; rfl
  · rw [List.getElem?_eq_none (l := tabL r c _) (by rw [tab_length]; omega), List.getElem?_eq_none]; · rfl
    rw [List.length_append, hl, List.length_drop, hcur]; unfold cellsU; rw [List.length_map, tab_length]; omega

end Go.Proofs.Ytemcjnbgcecinaa
