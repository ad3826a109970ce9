/- What the landed package matrix does, its small functions: sides, an identity's cells, Check, a row's text, fill; no condition but the range. -/
import Derived.Test.YtmnciipfepeccaaMatTold
import Derived.Deep.RegionWith
import Derived.Shelf.Abstract
namespace Go.Proofs.Ytmnciipfepeccaa
open Go.RowKit

theorem isSide_v (n : Int) (b : Bool) (w : World) (h : decide (1 ≤ n ∧ n ≤ 255) = b) :
    Calls Try.prog 43 #[.int .i64 n] w fun e w' => e = .returned (.bool b) ∧ w' = w := by
  by_cases h1 : 1 ≤ n
  · by_cases h2 : n ≤ 255
    · obtain rfl : b = true := by rw [← h]; simp [h1, h2]
      clear h
      go_enter Try.func43, Try.ntmps43
      go_wp2
      go_ret
      exact ⟨rfl, rfl⟩
    · obtain rfl : b = false := by rw [← h]; simp [h2]
      clear h
      go_enter Try.func43, Try.ntmps43
      go_wp2
      go_ret
      exact ⟨rfl, rfl⟩
  · obtain rfl : b = false := by rw [← h]; simp [h1]
    clear h
    go_enter Try.func43, Try.ntmps43
    go_wp2
    go_ret
    exact ⟨rfl, rfl⟩

theorem unit_any (i j : Nat) (w : World) (_hi : i < 1000) (_hj : j < 1000) :
    Calls Try.prog 44 #[.int .i64 (i : Int), .int .i64 (j : Int)] w fun e w' => e = .returned (.int .u8 ((GfU.one i j).toNat : Int)) ∧ w' = w := by
  by_cases h : i = j
  · have E : Hid (((GfU.one i j).toNat : Int) = 1) := by show _ = _; unfold GfU.one; rw [if_pos h]; rfl
    have t : ((i : Int) == (j : Int)) = true := by simp [h]
    clear h
    go_enter Try.func44, Try.ntmps44
    go_wp2
    go_ret
    exact ⟨by rw [E.out]; rfl, rfl⟩
  · have E : Hid (((GfU.one i j).toNat : Int) = 0) := by show _ = _; unfold GfU.one; rw [if_neg h]; rfl
    have t : ((i : Int) == (j : Int)) = false := by simp; omega
    clear h
    go_enter Try.func44, Try.ntmps44
    go_wp2
    go_ret
    exact ⟨by rw [E.out]; rfl, rfl⟩

set_option maxRecDepth 20000 in
set_option maxHeartbeats 1000000 in
theorem check_any (r c : Int) (s : ByteArray) (w : World) :
    Calls Try.prog 36 #[.agg #[.int .i64 r, .int .i64 c, .string s]] w fun e w' => e = .returned (.int .i64 ((chk r c s : Nat) : Int)) ∧ Below w.heap.size w w' := by
  cases hr : decide (1 ≤ r ∧ r ≤ 255)
  · have E : Hid (chk r c s = 4) := if_neg (fun h => by unfold may at h; simp at hr; omega)
    go_enter Try.func36, Try.ntmps36
    go_wp2_with (go_at_call 43; refine (isSide_v _ _ _ (by assumption)).mono ?_; rintro e w' ⟨rfl, rfl⟩)
    go_ret
    exact ⟨by rw [E.out]; rfl, (Below.refl _ _).alloc (Nat.le_refl _) _⟩
  cases hc : decide (1 ≤ c ∧ c ≤ 255)
  · have E : Hid (chk r c s = 4) := if_neg (fun h => by unfold may at h; simp at hc; omega)
    go_enter Try.func36, Try.ntmps36
    go_wp2_with (go_at_call 43; refine (isSide_v _ _ _ (by assumption)).mono ?_; rintro e w' ⟨rfl, rfl⟩)
    go_ret
    exact ⟨by rw [E.out]; rfl, (Below.refl _ _).alloc (Nat.le_refl _) _⟩
  obtain ⟨r1, r2⟩ := of_decide_eq_true hr
  obtain ⟨c1, c2⟩ := of_decide_eq_true hc
  obtain ⟨p1, p2⟩ := prod_rng (r := r) (c := c) (by omega) (by omega) (by omega) (by omega)
  by_cases h5 : (s.size : Int) = r * c
  · have E : Hid (chk r c s = 0) := if_pos ⟨by omega, by omega, by omega, by omega, h5⟩
    have t5 : ((s.size : Int) != r * c) = false := by simp [h5]
    clear h5
    go_enter Try.func36, Try.ntmps36
    go_wp2_with (go_at_call 43; refine (isSide_v _ _ _ (by assumption)).mono ?_; rintro e w' ⟨rfl, rfl⟩)
    go_ret
    exact ⟨by rw [E.out]; rfl, (Below.refl _ _).alloc (Nat.le_refl _) _⟩
  · have E : Hid (chk r c s = 4) := if_neg (fun h => h5 h.2.2.2.2)
    have t5 : ((s.size : Int) != r * c) = true := by simpa using h5
    clear h5
    go_enter Try.func36, Try.ntmps36
    go_wp2_with (go_at_call 43; refine (isSide_v _ _ _ (by assumption)).mono ?_; rintro e w' ⟨rfl, rfl⟩)
    go_ret
    exact ⟨by rw [E.out]; rfl, (Below.refl _ _).alloc (Nat.le_refl _) _⟩

/-- the bytes of a row -/
def rowS (s : ByteArray) (c i : Nat) : ByteArray := s.extract (i * c) ((i + 1) * c)

set_option maxRecDepth 20000 in
set_option maxHeartbeats 1000000 in
theorem cells_any (r c i : Nat) (s : ByteArray) (w : World) (hr : r ≤ 255) (hc : c ≤ 255) (hi : i < r) (hs : s.size = r * c) :
    Calls Try.prog 42 #[.agg #[.int .i64 (r : Int), .int .i64 (c : Int), .string s], .int .i64 (i : Int)] w fun e w' => e = .returned (.string (rowS s c i)) ∧ Below w.heap.size w w' := by
  have h1 : (i + 1) * c ≤ r * c := Nat.mul_le_mul_right c hi
  have h2 : r * c ≤ 255 * 255 := Nat.mul_le_mul hr hc
  have h3 : i * c ≤ (i + 1) * c := Nat.mul_le_mul_right c (by omega)
  have q1 : (i : Int) * (c : Int) = ((i * c : Nat) : Int) := by rw [Int.natCast_mul]
  have q2 : ((i : Int) + 1) * (c : Int) = (((i + 1) * c : Nat) : Int) := by rw [Int.natCast_mul]; rfl
  have E : Hid (rowS s c i = s.extract (i * c) ((i + 1) * c)) := rfl
  have HS := Lib.hid hs
  generalize hA : i * c = A at *
  generalize hB : (i + 1) * c = B at *
  have hsz : B ≤ s.size := by omega
  have b1 : B ≤ 65025 := by omega
  clear hs h1 h2 hA hB
  go_enter Try.func42, Try.ntmps42
  go_wp2
  go_ret
  exact ⟨by rw [E.out]; rfl, (Below.refl _ _).alloc (Nat.le_refl _) _⟩

theorem owns_any {w w' : World} {H n : Nat} {v : Value} {e : TypeId} {xs : List Value} (h : w.ownsRow H e 1 v n xs) (hb : Below w.heap.size w w') : w'.ownsRow H e 1 v n xs :=
  h.kept (row := none) ⟨hb.os, hb.tape, hb.output, hb.size, fun k hk _ => hb.block k hk⟩ (by cases hv : v.ownBlock <;> simp)

/-- a function value tells the cells of a table, in each world that comes after W -/
def Gives2 (K : Nat) (fst cap : Array Value) (W : World) (n c : Nat) (f : Nat → Nat → UInt8) : Prop :=
  ∀ (i j : Nat) (w : World), i < n → j < c → Below W.heap.size W w →
    Calls Try.prog K (fst ++ (#[.int .i64 (i : Int), .int .i64 (j : Int)] ++ cap)) w fun e w' => e = .returned (.int .u8 ((f i j).toNat : Int)) ∧ Below w.heap.size w w'

set_option maxRecDepth 20000 in
set_option maxHeartbeats 2000000 in
theorem fill_any (K : Nat) (fst cap : Array Value) (n c : Nat) (f : Nat → Nat → UInt8) (w : World) (h1 : 1 ≤ n) (h2 : n ≤ 255) (h3 : 1 ≤ c) (h4 : c ≤ 255)
    (eg : ∀ args w, (callFunc K args).run Try.prog w = .ok (.enter K args) w) (hg : Gives2 K fst cap w n c f) :
    Calls Try.prog 39 #[.int .i64 (n : Int), .int .i64 (c : Int), .func (.func K) fst cap] w fun e w' =>
      e = .returned (.agg #[.int .i64 (n : Int), .int .i64 (c : Int), .string ⟨(tabL n c f).toArray⟩]) ∧ Below w.heap.size w w' := by
  obtain ⟨i0, hi, hz0, hz1, hz2'⟩ := info_parts Try.infoU8
  have hN : n * c ≤ 65025 := Nat.mul_le_mul h2 h4
  have hN1 : 1 ≤ n * c := Nat.mul_le_mul h1 h3
  have G := Lib.hid hg
  clear hg
  go_enter Try.func39, Try.ntmps39
  go_wp2_with (at_make; refine wpList_make_own _ rfl _ (.tmp 12) 61 rfl (w.heap.size + 1) 5 i0 (.int .u8 0) 1 Try.underlying61 hi hz0 hz1 .i64 .i64 _ (n * c) rfl rfl (Int.natCast_mul n c).symm (by rw [hz2']; omega) (by unfold maxLen; omega) (by simp) ?_; intro w1 hown hgrow)
  have hs0 : (w.alloc (.cells #[.int .i64 0, .int .i64 0, .string ⟨#[]⟩] 26)).heap.size = w.heap.size + 1 := by simp
  have bZ0 := (blk1 w (.cells #[.int .i64 0, .int .i64 0, .string ⟨#[]⟩] 26)).2
  have HB0 : Hid (Below (w.heap.size + 1) (w.alloc (.cells #[.int .i64 0, .int .i64 0, .string ⟨#[]⟩] 26)) w1) := (Below.refl _ _).grown hgrow (by simp) (fun k hk => by cases hk)
  rw [hs0] at hown
  have HBW : Hid (Below w.heap.size w (w.alloc (.cells #[.int .i64 0, .int .i64 0, .string ⟨#[]⟩] 26))) := (Below.refl _ w).alloc (Nat.le_refl _) _
  generalize (w.alloc (.cells #[.int .i64 0, .int .i64 0, .string ⟨#[]⟩] 26)) = w0 at *
  have S0 := Lib.hid hs0
  have BZ := Lib.hid bZ0
  have HO0 := Lib.hid hown
  clear hown hgrow bZ0 hs0
  go_loopw [7, 15] (fun v i wr => ∃ k : Nat, k ≤ n ∧ i = .int .i64 (k : Int) ∧ Hid (wr.ownsRow (w.heap.size + 1) 5 1 v (k * c) (cellsU ((tabL n c f).take (k * c)))) ∧ Hid (Below (w.heap.size + 1) w0 wr)) (fun _ i _ => n - (intOf i).toNat)
  case atStart => exact ⟨0, by omega, rfl, by rw [Nat.zero_mul]; exact HO0.out, HB0.out⟩
  case round =>
    obtain ⟨k, hk, rfl, hown, hbel⟩ := hrel
    have hq := hbel.out.size
    by_cases hlt : k < n
    · go_wp2_with fail
      obtain ⟨wn, rfl⟩ : ∃ wn : World, wn = wr := ⟨_, rfl⟩
      go_loopw [7, 19] (fun v i wr => ∃ j : Nat, j ≤ c ∧ i = .int .i64 (j : Int) ∧ Hid (wr.ownsRow (w.heap.size + 1) 5 1 v (k * c + j) (cellsU ((tabL n c f).take (k * c + j)))) ∧ Hid (Below (w.heap.size + 1) w0 wr)) (fun _ i _ => c - (intOf i).toNat)
      case atStart => exact ⟨0, by omega, rfl, hown, hbel⟩
      case round =>
        clear hown hbel hq
        obtain ⟨j, hj, rfl, hown, hbel⟩ := hrel
        by_cases hlt2 : j < c
        · have hpl := place_lt (r := n) (c := c) hlt hlt2
          have cS := G.out k j wr hlt hlt2 (HBW.out.trans (hbel.out.mono (by omega)))
          go_wp2_with fail
          refine cS.mono ?_
          rintro e w2 ⟨rfl, hb2⟩
          have HB2 : Hid (Below wr.heap.size wr w2) := hb2
          have hz2 := hb2.size
          clear hb2
          have hown2 := Lib.hid (owns_any hown.out HB2.out)
          go_wp2_with (at_builtin; refine wpList_append_own _ rfl _ _ 61 rfl (w.heap.size + 1) 5 i0 (.int .u8 0) 1 1 Try.underlying61 hi hz0 hz1 hz2' rfl (by decide) _ _ _ rfl (hown2.out.alloc _) ⟨w2.heap.size, 0, none⟩ 1 1 [.int .u8 ((f k j).toNat : Int)] rfl rfl ?c1 ?c2 ?c3 ?c4 ?c5 ?_)
          case c1 => exact cell_one_new _ _ _
          case c2 => intro u hu; simp at hu; subst hu; rfl
          case c3 => unfold maxLen; omega
          case c4 => omega
          case c5 => have := hbel.out.size; have := S0.out; simp; omega
          intro v' w3 hown' hgrow _
          have HB3 := Lib.hid (below_append (H := w.heap.size + 1) (w := w0) hown2.out (hbel.out.trans (HB2.out.mono (by have := S0.out; have := hbel.out.size; omega))) (by have := S0.out; omega) hgrow)
          rw [take_tab n c f k j hlt hlt2] at hown'
          have HO := Lib.hid hown'
          clear hown' hgrow
          go_wp2_with fail
          go_roundw
          case rel => exact ⟨j + 1, by omega, by go_num, HO.out, HB3.out⟩
          case measure => simp [intOf]; omega
        · obtain rfl : j = c := by omega
          go_wp2_with fail
          go_roundw
          case rel => exact ⟨k + 1, by omega, by go_num, by rw [Nat.add_mul k 1, Nat.one_mul]; exact hown.out, hbel.out⟩
          case measure => simp [intOf]; omega
    · obtain rfl : k = n := by omega
      rcases hown.out.2 with ⟨_, h⟩ | ⟨g, cap', cur, rfl, _⟩
      · exact absurd h (by omega)
      · have ho := hown.out
        rw [List.take_of_length_le (by rw [tab_length]; omega)] at ho
        have hcv := run_own_text (P := Try.prog) (w := wr) (src := 61) (dst := 9) (L := tabL k c f) ho (by rw [tab_length]) Try.underlying61 Try.underlying5 Try.underlying9
        have bZr := (hbel.out.block w.heap.size (by omega)).trans BZ.out
        have c0 := blk_cell (j := 0) bZr rfl
        have c1 := blk_cell (j := 1) bZr rfl
        have c2 := blk_cell (j := 2) bZr rfl
        have cf := blk_free bZr
        clear bZr ho hown
        go_wp2_with fail
        exact bodyPost_ret (v := .agg #[.int .i64 (k : Int), .int .i64 (c : Int), .string ⟨(tabL k c f).toArray⟩]) (by simp [results, Try.results39, go_sem, c0, c1, c2]) rfl
          ⟨rfl, below_agg3 (HBW.out.trans (hbel.out.mono (by omega))) (by omega) _ _ _⟩

end Go.Proofs.Ytmnciipfepeccaa
