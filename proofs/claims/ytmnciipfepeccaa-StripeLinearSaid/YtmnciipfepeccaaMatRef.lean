/- What the document's own answers for matrices do: checks, the identity, products; one contract a function; no condition but the form's reach. -/
import Derived.Test.YtmnciipfepeccaaMatSpec
namespace Go.Proofs.Ytmnciipfepeccaa
open Go.RowKit

set_option maxRecDepth 20000 in
set_option maxHeartbeats 1000000 in
theorem rone_any (n : Nat) (w : World) (h1 : 1 ≤ n) (h2 : n ≤ 255) :
    Calls Try.prog 69 #[.int .i64 (n : Int)] w fun e w' => e = .returned (.agg #[.int .i64 (n : Int), .int .i64 (n : Int), .string ⟨(tabL n n GfU.one).toArray⟩]) ∧ Below w.heap.size w w' := by
  obtain ⟨p1, p2⟩ := prod_rng (r := (n : Int)) (c := (n : Int)) (by omega) (by omega) (by omega) (by omega)
  obtain ⟨i0, hi, hz0, hz1, hz2⟩ := info_parts Try.infoU8
  have hN : n * n ≤ 65025 := by have : ((n * n : Nat) : Int) ≤ 65025 := by rw [Int.natCast_mul]; exact p2
                                omega
  go_enter Try.func69, Try.ntmps69
  go_wp2_with (at_make; refine wpList_make_full _ rfl (.tmp 7) (.tmp 7) 61 rfl (w.heap.size + 1) 5 i0 (.int .u8 0) 1 Try.underlying61 hi hz0 hz1 .i64 .i64 _ _ (n * n) rfl rfl (Int.natCast_mul n n).symm (Int.natCast_mul n n).symm (by rw [hz2]; omega) (by unfold maxLen; omega) (by simp) ?_; intro w1 hown hgrow)
  have HO : Hid (w1.ownsRow (w.heap.size + 1) 5 1 (.slice (some ⟨w.heap.size + 1, 0, none⟩) (n * n) (n * n)) (n * n) (cellsU (tabL n n (oneUp 0)))) := by
    rw [cellsU_zero n n (n * n) rfl] at hown
    have e : tabL n n (fun _ _ => 0) = tabL n n (oneUp 0) := tab_congr n n fun _ _ _ _ => rfl
    rw [e] at hown
    have hs : (w.alloc (.cells #[.int .i64 0, .int .i64 0, .string ⟨#[]⟩] 26)).heap.size = w.heap.size + 1 := by simp
    rw [hs] at hown
    exact hown
  have HB : Hid (Below (w.heap.size + 1) (w.alloc (.cells #[.int .i64 0, .int .i64 0, .string ⟨#[]⟩] 26)) w1) := (Below.refl _ _).grown hgrow (by simp) (fun k hk => by cases hk)
  clear hown hgrow
  go_loopw [4] (fun i wr => ∃ k : Nat, k ≤ n ∧ i = .int .i64 (k : Int) ∧ Hid (wr.ownsRow (w.heap.size + 1) 5 1 (.slice (some ⟨w.heap.size + 1, 0, none⟩) (n * n) (n * n)) (n * n) (cellsU (tabL n n (oneUp k)))) ∧ Hid (Below (w.heap.size + 1) (w.alloc (.cells #[.int .i64 0, .int .i64 0, .string ⟨#[]⟩] 26)) wr)) (fun i _ => n - (intOf i).toNat)
  case atStart => exact ⟨0, by omega, rfl, HO, HB⟩
  case round =>
    obtain ⟨k, hk, rfl, hown, hbel⟩ := hrel
    clear HO HB
    by_cases hlt : k < n
    · have hpl := place_lt (r := n) (c := n) (i := k) (j := k) hlt hlt
      have q0 : 0 ≤ (k : Int) * (n : Int) := by rw [← Int.natCast_mul]; omega
      have q1 : (k : Int) * (n : Int) + (k : Int) < (n : Int) * (n : Int) := by rw [← Int.natCast_mul, ← Int.natCast_mul]; omega
      have q2 : ((k : Int) * (n : Int) + (k : Int)).toNat = k * n + k := by rw [← Int.natCast_mul]; omega
      have hcell := (hown.out.cellAt (k * n + k) (by omega)).trans (cellsU_at n n k k (oneUp k) hlt hlt)
      have hfro := hown.out.frozenAt (k * n + k)
      go_wp2_with fail
      go_roundw
      case rel =>
        have R := hown.out.stored (k * n + k) (.int .u8 1)
        rw [cellsU_set n n k k (oneUp k) (oneUp (k + 1)) hlt hlt (oneUp_off k) 1 (by unfold oneUp GfU.one; rw [if_pos (by omega), if_pos rfl]; rfl)] at R
        exact ⟨k + 1, by omega, by go_num, R.1, hbel.out.setCell (by simp) _⟩
      case measure => simp [intOf]; omega
    · obtain rfl : k = n := by omega
      have hcv := run_own_text (P := Try.prog) (w := wr) (src := 61) (dst := 9) hown.out (by rw [tab_length]) Try.underlying61 Try.underlying5 Try.underlying9
      rw [tab_congr k k (f := oneUp k) (g := GfU.one) fun i j hi _ => if_pos hi] at hcv
      have c0 : wr.cell? ⟨w.heap.size, 0, none⟩ = some (.int .i64 0) := (hbel.out.cell (p := ⟨w.heap.size, 0, none⟩) (by simp)).trans (by simp)
      have c1 : wr.cell? ⟨w.heap.size, 1, none⟩ = some (.int .i64 0) := (hbel.out.cell (p := ⟨w.heap.size, 1, none⟩) (by simp)).trans (by simp)
      have c2 : wr.cell? ⟨w.heap.size, 2, none⟩ = some (.string ⟨#[]⟩) := (hbel.out.cell (p := ⟨w.heap.size, 2, none⟩) (by simp)).trans (by simp)
      have cf : ∀ o, wr.frozen? ⟨w.heap.size, o, none⟩ = false := fun o => (hbel.out.frozen (p := ⟨w.heap.size, o, none⟩) (by simp)).trans (by simp)
      clear hown
      go_wp2_with fail
      exact bodyPost_ret (v := .agg #[.int .i64 (k : Int), .int .i64 (k : Int), .string ⟨(tabL k k GfU.one).toArray⟩]) (by simp [results, Try.results69, go_sem, c0, c1, c2]) rfl
        ⟨rfl, (((((Below.refl _ w).alloc (Nat.le_refl _) _).trans (hbel.out.mono (by omega))).setCell (Nat.le_refl _) _).setCell (Nat.le_refl _) _).setCell (Nat.le_refl _) _⟩

/-- the product's bytes of a and b when n places stand in it, whole rows first -/
def timesF (ca cb : Nat) (a b : ByteArray) (i j : Nat) : UInt8 := GfU.mm ca (cel a ca) (cel b cb) i j

theorem cel_at (s : ByteArray) (c i j : Nat) (h : i * c + j < s.size) : (s[i * c + j]'h) = cel s c i j := by
  unfold cel
  have h' : i * c + j < s.data.size := h
  rw [Array.getElem?_eq_getElem h']; rfl

/-- the first k products of a row and a column -/
def dotF (ca cb : Nat) (a b : ByteArray) (i j k : Nat) : UInt8 := GfU.sum k fun l => GfU.ml (cel a ca i l) (cel b cb l j)

theorem dotF_succ (ca cb : Nat) (a b : ByteArray) (i j k : Nat) (h1 : i * ca + k < a.size) (h2 : k * cb + j < b.size) :
    (dotF ca cb a b i j (k + 1)).toNat = (dotF ca cb a b i j k).toNat ^^^ GfM.mul (a[i * ca + k]'h1).toNat (b[k * cb + j]'h2).toNat := by
  unfold dotF
  rw [GfU.sum_succ, UInt8.toNat_xor, GfU.ml_toNat, cel_at, cel_at]

theorem take_tab (r c : Nat) (f : Nat → Nat → UInt8) (i j : Nat) (hi : i < r) (hj : j < c) : cellsU ((tabL r c f).take (i * c + j)) ++ [.int .u8 ((f i j).toNat : Int)] = cellsU ((tabL r c f).take (i * c + j + 1)) := by
  have h : i * c + j < (tabL r c f).length := by rw [tab_length]; exact place_lt hi hj
  unfold cellsU
  rw [List.take_succ_eq_append_getElem h, List.map_append, List.map_cons, List.map_nil]
  have e := tab_place r c f i j hi hj
  rw [List.getElem?_eq_getElem h, Option.some.injEq] at e
  rw [e]

end Go.Proofs.Ytmnciipfepeccaa
