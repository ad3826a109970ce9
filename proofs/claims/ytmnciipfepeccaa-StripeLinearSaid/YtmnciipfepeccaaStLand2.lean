/- What the landed package stripe does: an object's plain bytes, and its data shards; no condition but the range. -/
import Derived.Test.YtmnciipfepeccaaStLand
import Derived.Lib.BufferWrite
import Derived.OneCell
namespace Go.Proofs.Ytmnciipfepeccaa
open Go.RowKit

/-- the row's cells once the head stands, and the object behind it -/
theorem head_cells (k : Nat) (s : ByteArray) (hk : 1 ≤ k) :
    (preC (St.plainL k s) 4).take 4 ++ Lib.byteCells s.data.toList ++ (preC (St.plainL k s) 4).drop (4 + s.size) = preC (St.plainL k s) (St.plainL k s).length := by
  have hl := St.plain_len hk s
  have hg := St.sz_ge (n := s.size) hk
  have h4 : (St.plainL k s).take 4 = St.headL s.size := by
    unfold St.plainL
    rw [List.append_assoc, List.take_append_of_le_length (by rw [St.head_len]; omega), List.take_of_length_le (by rw [St.head_len]; omega)]
  have e1 : preC (St.plainL k s) 4 = Lib.byteCells (St.headL s.size) ++ List.replicate (k * St.szN k s.size - 4) (.int .u8 0) := by
    unfold preC
    rw [h4, hl]; rfl
  have e2 : preC (St.plainL k s) (St.plainL k s).length = Lib.byteCells (St.plainL k s) := by
    unfold preC
    rw [List.take_length, Nat.sub_self, List.replicate_zero, List.append_nil]; rfl
  have e3 : (Lib.byteCells (St.headL s.size)).length = 4 := by rw [Lib.byteCells_length, St.head_len]
  rw [e1, e2, List.take_append_of_le_length (by omega), List.take_of_length_le (by omega), List.drop_append, e3, List.drop_of_length_le (by omega), List.nil_append, List.drop_replicate]
  unfold St.plainL Lib.byteCells
  rw [List.map_append, List.map_append, List.map_replicate]
  congr 2
  omega

theorem owns_blk0 {w : World} {H g n : Nat} {e : TypeId} {xs : List Value} (h : w.ownsRow H e 1 (.slice (some ⟨g, 0, none⟩) n n) n xs) : w.heap[g]? = some (.cells xs.toArray e (0, 0)) := by
  rcases h.2 with ⟨h', _⟩ | ⟨g', cap', cur, h', _, hg, _, _, hcs, htake⟩
  · simp at h'
  · simp only [Value.slice.injEq, Option.some.injEq, Addr.mk.injEq, and_true, true_and] at h'
    obtain ⟨rfl, rfl⟩ := h'
    rw [Nat.mul_one] at hcs htake
    rw [List.take_of_length_le (by rw [Array.length_toList]; omega)] at htake
    rw [hg, ← htake]

theorem beN_at (k : Nat) (s : ByteArray) (i : Nat) (h : i < 4) (h2 : i < (St.plainL k s).length) : (((St.plainL k s)[i]'h2).toNat : Int) = ((St.beN s.size i : Nat) : Int) := by
  have e : (St.plainL k s)[i]? = some (UInt8.ofNat (St.beN s.size i)) := by
    unfold St.plainL
    rw [List.append_assoc, List.getElem?_append_left (by rw [St.head_len]; exact h)]
    unfold St.headL
    rw [List.getElem?_map, List.getElem?_range h]; rfl
  rw [List.getElem?_eq_getElem h2] at e
  rw [Option.some.inj e, GfU.toNat_ofNat (by unfold St.beN; omega)]

set_option maxRecDepth 20000 in
set_option maxHeartbeats 2000000 in
theorem plain_any (k : Nat) (s : ByteArray) (w : World) (hk : 1 ≤ k) (hk2 : k ≤ 255) (hs : s.size ≤ 2048) :
    Calls Try.prog 63 #[.int .i64 (k : Int), .string s] w fun e w' =>
      e = .returned (.slice (some ⟨w.heap.size, 0, none⟩) (k * St.szN k s.size) (k * St.szN k s.size)) ∧ w'.heap[w.heap.size]? = some (.cells (Lib.byteCells (St.plainL k s)).toArray 5 (0, 0)) ∧ Below w.heap.size w w' := by
  obtain ⟨i0, hi, hz0, hz1, hz2⟩ := info_parts Try.infoU8
  have hb := St.sz_bound (n := s.size) hk2 hs
  have hg := St.sz_ge (n := s.size) hk
  have hl := St.plain_len hk s
  have HC := Lib.hid (head_cells k s hk)
  obtain ⟨L, hL⟩ : ∃ L, L = St.plainL k s := ⟨_, rfl⟩
  rw [← hL] at hl HC ⊢
  obtain ⟨N, hN⟩ : ∃ N, N = k * St.szN k s.size := ⟨_, rfl⟩
  rw [← hN] at hb hg hl ⊢
  have p3 : (k : Int) * ((St.szN k s.size : Nat) : Int) = (N : Int) := by rw [hN, Int.natCast_mul]
  have p1 : (0 : Int) ≤ (k : Int) * ((St.szN k s.size : Nat) : Int) := by rw [p3]; omega
  have p2 : (k : Int) * ((St.szN k s.size : Nat) : Int) ≤ 2306 := by rw [p3]; omega
  have P3 := Lib.hid p3
  have HL := Lib.hid hL
  have HN := Lib.hid hl
  clear p3 hL hN hl
  go_enter Try.func63, Try.ntmps63
  go_wp2_with fail
  refine (size_any k s.size _ hk (by omega) (by omega)).mono ?_
  rintro e w1 ⟨rfl, rfl⟩
  go_wp2_with (at_make; refine wpList_make_full _ rfl (.tmp 12) (.tmp 12) 61 rfl w1.heap.size 5 i0 (.int .u8 0) 1 Try.underlying61 hi hz0 hz1 .i64 .i64 _ _ N rfl rfl P3.out P3.out (by rw [hz2]; omega) (by unfold maxLen; omega) (by simp) ?_; intro w2 hown hgrow)
  have hown0 : w2.ownsRow w1.heap.size 5 1 (.slice (some ⟨w1.heap.size, 0, none⟩) N N) N (preC L 0) := by
    rw [preC_zero L N HN.out] at hown; exact hown
  have hbel0 : Below w1.heap.size w1 w2 := (Below.refl _ _).grown hgrow (Nat.le_refl _) (fun k hk => by cases hk)
  clear hown hgrow p1 p2
  go_loopw [14] (fun i wr => ∃ j : Nat, j ≤ 4 ∧ i = .int .i64 (j : Int) ∧ Hid (wr.ownsRow w1.heap.size 5 1 (.slice (some ⟨w1.heap.size, 0, none⟩) N N) N (preC L j)) ∧ Hid (Below w1.heap.size w1 wr)) (fun i _ => 4 - (intOf i).toNat)
  case atStart => exact ⟨0, by omega, rfl, hown0, hbel0⟩
  case round =>
    obtain ⟨j, hj, rfl, hown, hbel⟩ := hrel
    clear hown0 hbel0
    by_cases hlt : j < 4
    · have hjL : j < L.length := by rw [HN.out]; omega
      obtain ⟨v, hv⟩ := preC_at L j hjL
      have hcell := (hown.out.cellAt j (by omega)).trans hv
      have hfro := hown.out.frozenAt j
      have E := beN_at k s j hlt (by rw [← HL.out]; exact hjL)
      have E2 : Hid ((((L[j]'hjL).toNat : Nat) : Int) = ((St.beN s.size j : Nat) : Int)) := by show _ = _; rw [← E]; congr 2; simp only [HL.out]
      have R := hown.out.stored j (.int .u8 ((St.beN s.size j : Nat) : Int))
      rw [preC_set L j hjL _ E2.out.symm] at R
      have HR := Lib.hid R.1
      have pj : (j : Int) < (N : Int) := by omega
      clear hv E R
      have hsz : (s.size : Int) ≤ 2048 := by omega
      have V0 := Lib.hid (show ((St.beN s.size 0 : Nat) : Int) = (s.size : Int) / 16777216 by unfold St.beN; simp only [Nat.reduceSub, Nat.reducePow]; omega)
      have V1 := Lib.hid (show ((St.beN s.size 1 : Nat) : Int) = (s.size : Int) / 65536 by unfold St.beN; simp only [Nat.reduceSub, Nat.reducePow]; omega)
      have V2 := Lib.hid (show ((St.beN s.size 2 : Nat) : Int) = (s.size : Int) / 256 by unfold St.beN; simp only [Nat.reduceSub, Nat.reducePow]; omega)
      have V3 := Lib.hid (show ((St.beN s.size 3 : Nat) : Int) = (s.size : Int) % 256 by unfold St.beN; simp only [Nat.reduceSub, Nat.pow_zero]; omega)
      obtain rfl | rfl | rfl | rfl : j = 0 ∨ j = 1 ∨ j = 2 ∨ j = 3 := by omega
      · try simp only [Int.natCast_zero, Int.natCast_one, Int.natCast_ofNat] at *
        go_wp2_with fail
        go_roundw
        case rel => exact ⟨1, by omega, rfl, by have h := HR.out; rw [V0.out] at h; exact h, hbel.out.setCell (Nat.le_refl _) _⟩
        case measure => simp [intOf]
      · try simp only [Int.natCast_zero, Int.natCast_one, Int.natCast_ofNat] at *
        go_wp2_with fail
        go_roundw
        case rel => exact ⟨2, by omega, rfl, by have h := HR.out; rw [V1.out] at h; exact h, hbel.out.setCell (Nat.le_refl _) _⟩
        case measure => simp [intOf]
      · try simp only [Int.natCast_zero, Int.natCast_one, Int.natCast_ofNat] at *
        go_wp2_with fail
        go_roundw
        case rel => exact ⟨3, by omega, rfl, by have h := HR.out; rw [V2.out] at h; exact h, hbel.out.setCell (Nat.le_refl _) _⟩
        case measure => simp [intOf]
      · try simp only [Int.natCast_zero, Int.natCast_one, Int.natCast_ofNat] at *
        go_wp2_with fail
        go_roundw
        case rel => exact ⟨4, by omega, rfl, by have h := HR.out; rw [V3.out] at h; exact h, hbel.out.setCell (Nat.le_refl _) _⟩
        case measure => simp [intOf]
    · obtain rfl : j = 4 := by omega
      have hg4 := owns_blk0 hown.out
      have hpl := preC_length L 4 (by rw [HN.out]; omega)
      have hend : Hid (preC L L.length = Lib.byteCells L) := by
        show _ = _
        unfold preC
        rw [List.take_length, Nat.sub_self, List.replicate_zero, List.append_nil]; rfl
      by_cases hn4 : N = 4
      · have hs0 : s.size = 0 := by omega
        have hcp := Lib.run_copy_empty_string (P := Try.prog) wr 61 9 3 5 (some ⟨w1.heap.size, 0, none⟩) 0 0 s Try.underlying61 (by rw [hi]; simp) hs0
        have hG : wr.heap[w1.heap.size]? = some (.cells (Lib.byteCells L).toArray 5 (0, 0)) := by
          rw [← hend.out, show L.length = 4 by rw [HN.out, hn4]]
          exact hg4
        have HG := Lib.hid hG
        have HS0 := Lib.hid hs0
        subst hn4
        clear hg4 hown hG hs0 hpl hg
        go_wp2_with fail
        go_ret
        exact ⟨rfl, HG.out, hbel.out⟩
      · have hcp := Lib.run_copy_row_string (P := Try.prog) wr 61 9 3 5 w1.heap.size 4 (N - 4) (N - 4) s (preC L 4).toArray 5 Try.underlying61 (by rw [hi]; simp [hz1]) hg4 (by omega) (by simp; rw [hpl, HN.out]; omega)
        rw [List.toList_toArray, HC.out, hend.out] at hcp
        have HG := Lib.hid (setRow_heap wr w1.heap.size (preC L 4).toArray (Lib.byteCells L).toArray 5 (0, 0) hg4)
        have HB : Hid (Below w1.heap.size w1 (wr.setRow w1.heap.size (Lib.byteCells L).toArray)) := hbel.out.trans ⟨rfl, rfl, rfl, by simp [World.setRow], fun k hk => setRow_other _ _ _ _ (by omega)⟩
        clear hg4 hown hbel hpl hend
        go_wp2_with fail
        go_ret
        exact ⟨rfl, HG.out, HB.out⟩

end Go.Proofs.Ytmnciipfepeccaa
