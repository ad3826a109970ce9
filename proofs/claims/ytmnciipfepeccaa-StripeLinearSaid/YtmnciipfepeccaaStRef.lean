/- What the document's own answers of layer 3 do: codes, sizes, plain bytes, data shards; no condition but the range. -/
import Derived.Test.YtmnciipfepeccaaStLaw0
namespace Go.Proofs.Ytmnciipfepeccaa
open Go.RowKit

set_option maxHeartbeats 1000000 in
theorem rcode_any (k m : Int) (w : World) : Calls Try.prog 29 #[.int .i64 k, .int .i64 m] w fun e w' => e = .returned (.bool (codeB k m)) ∧ w' = w := by
  by_cases h1 : 1 ≤ k
  · by_cases h2 : k ≤ 255
    · by_cases h3 : 0 ≤ m
      · by_cases h4 : m ≤ 255 - k
        · have E := Lib.hid (show codeB k m = true by unfold codeB; simp; omega)
          have hw : IntKind.i64.wrap (255 - k) = 255 - k := i64_wrap (by omega) (by omega)
          go_enter Try.func29, Try.ntmps29
          go_wp2
          go_ret
          exact ⟨by rw [E.out]; rfl, rfl⟩
        · have E := Lib.hid (show codeB k m = false by unfold codeB; simp; omega)
          have h5 : 255 - k < m := by omega
          have hw : IntKind.i64.wrap (255 - k) = 255 - k := i64_wrap (by omega) (by omega)
          go_enter Try.func29, Try.ntmps29
          go_wp2
          go_ret
          exact ⟨by rw [E.out]; rfl, rfl⟩
      · have E := Lib.hid (show codeB k m = false by unfold codeB; simp; omega)
        go_enter Try.func29, Try.ntmps29
        go_wp2
        go_ret
        exact ⟨by rw [E.out]; rfl, rfl⟩
    · have E := Lib.hid (show codeB k m = false by unfold codeB; simp; omega)
      go_enter Try.func29, Try.ntmps29
      go_wp2
      go_ret
      exact ⟨by rw [E.out]; rfl, rfl⟩
  · have E := Lib.hid (show codeB k m = false by unfold codeB; simp; omega)
    go_enter Try.func29, Try.ntmps29
    go_wp2
    go_ret
    exact ⟨by rw [E.out]; rfl, rfl⟩

set_option maxHeartbeats 1000000 in
theorem rSize_any (k n : Int) (w : World) :
    Calls Try.prog 20 #[.int .i64 k, .int .i64 n] w fun e w' => e = .returned (sizeAns k n) ∧ w' = w := by
  cases hc : codeB k 0
  · have E := Lib.hid (show sizeAns k n = .tuple #[.int .i64 0, .int .i64 1] by unfold sizeAns; rw [if_neg (by simp [hc])])
    go_enter Try.func20, Try.ntmps20
    go_wp2_with (go_at_call 29; refine (rcode_any _ _ _).mono ?_; rintro e w' ⟨rfl, rfl⟩)
    go_ret2
    exact ⟨by rw [E.out]; rfl, rfl⟩
  · obtain ⟨a, b, rfl, hb, h1, h2⟩ := codeB_nat hc
    obtain rfl : b = 0 := by omega
    clear hb
    by_cases h3 : 0 ≤ n
    · by_cases h4 : n ≤ 2048
      · obtain ⟨m, rfl⟩ : ∃ m : Nat, n = (m : Int) := ⟨n.toNat, by omega⟩
        have E := Lib.hid (sizeAns_yes h1 (by omega) (show m ≤ 2048 by omega))
        have E3 := Lib.hid (show (4 + (m : Int) + (a : Int) - 1) / (a : Int) = ((St.szN a m : Nat) : Int) by
          unfold St.szN
          rw [Int.natCast_ediv]
          congr 1
          omega)
        have hk : ((a : Int) == 0) = false := by simp; omega
        have e2 : (0 : Int) ≤ 4 + (m : Int) + (a : Int) - 1 := by omega
        have e3 : (1 : Int) ≤ (a : Int) := by omega
        go_enter Try.func20, Try.ntmps20
        go_wp2_with (go_at_call 29; refine (rcode_any _ _ _).mono ?_; rintro e w' ⟨rfl, rfl⟩)
        go_ret2
        exact ⟨by rw [E.out, ← E3.out]; rfl, rfl⟩
      · have E := Lib.hid (show sizeAns a n = .tuple #[.int .i64 0, .int .i64 1] by unfold sizeAns; rw [if_neg (by omega)])
        go_enter Try.func20, Try.ntmps20
        go_wp2_with (go_at_call 29; refine (rcode_any _ _ _).mono ?_; rintro e w' ⟨rfl, rfl⟩)
        go_ret2
        exact ⟨by rw [E.out]; rfl, rfl⟩
    · have E := Lib.hid (show sizeAns a n = .tuple #[.int .i64 0, .int .i64 1] by unfold sizeAns; rw [if_neg (by omega)])
      go_enter Try.func20, Try.ntmps20
      go_wp2_with (go_at_call 29; refine (rcode_any _ _ _).mono ?_; rintro e w' ⟨rfl, rfl⟩)
      go_ret2
      exact ⟨by rw [E.out]; rfl, rfl⟩


theorem plain_obj (k : Nat) (s : ByteArray) (i : Nat) (h : i < s.size) (h2 : 4 + i < (St.plainL k s).length) : (((St.plainL k s)[4 + i]'h2).toNat : Int) = ((s[i]'h).toNat : Int) := by
  have e : (St.plainL k s)[4 + i]? = some (s[i]'h) := by
    unfold St.plainL
    rw [List.append_assoc, List.getElem?_append_right (by rw [St.head_len]; omega), St.head_len, show 4 + i - 4 = i by omega, List.getElem?_append_left (by rw [St.data_len]; exact h)]
    rw [List.getElem?_eq_getElem (by rw [St.data_len]; exact h)]; rfl
  rw [List.getElem?_eq_getElem h2] at e
  rw [Option.some.inj e]

theorem plain_tail (k : Nat) (s : ByteArray) (hk : 1 ≤ k) : preC (St.plainL k s) (4 + s.size) = Lib.byteCells (St.plainL k s) := by
  have hl := St.plain_len hk s
  have hg := St.sz_ge (n := s.size) hk
  have e : (St.plainL k s).take (4 + s.size) = St.headL s.size ++ s.data.toList := by
    unfold St.plainL
    rw [List.take_append_of_le_length (by rw [List.length_append, St.head_len, St.data_len]; exact Nat.le_refl _), List.take_of_length_le (by rw [List.length_append, St.head_len, St.data_len]; exact Nat.le_refl _)]
  unfold preC
  rw [e, hl]
  unfold St.plainL Lib.byteCells
  rw [List.map_append (l₂ := List.replicate _ _), List.map_replicate]
  rfl

set_option maxRecDepth 20000 in
set_option maxHeartbeats 2000000 in
theorem rplain_any (k : Nat) (s : ByteArray) (w : World) (hk : 1 ≤ k) (hk2 : k ≤ 255) (hs : s.size ≤ 2048) :
    Calls Try.prog 49 #[.int .i64 (k : Int), .string s] w fun e w' => e = .returned (.string ⟨(St.plainL k s).toArray⟩) ∧ Below w.heap.size w w' := by
  obtain ⟨i0, hi, hz0, hz1, hz2⟩ := info_parts Try.infoU8
  have hb := St.sz_bound (n := s.size) hk2 hs
  have hg := St.sz_ge (n := s.size) hk
  have hl := St.plain_len hk s
  have hobj := fun i h h2 => plain_obj k s i h h2
  have htail := plain_tail k s hk
  have hbe := fun i h h2 => beN_at k s i h h2
  have HSz := Lib.hid (sizeAns_yes hk hk2 hs)
  generalize St.plainL k s = L at *
  generalize hn : St.szN k s.size = n at *
  obtain ⟨N, hN⟩ : ∃ N, N = k * n := ⟨_, rfl⟩
  rw [← hN] at hb hg hl
  have p3 : (n : Int) * (k : Int) = (N : Int) := by rw [hN, Int.natCast_mul, Int.mul_comm]
  have p1 : (0 : Int) ≤ (n : Int) * (k : Int) := by rw [p3]; omega
  have p2 : (n : Int) * (k : Int) ≤ 2306 := by rw [p3]; omega
  have P3 := Lib.hid p3
  have HL := Lib.hid hl
  have HO := Lib.hid hobj
  have HT := Lib.hid htail
  have HBe := Lib.hid hbe
  have HR := Lib.hid (fun w => rSize_any (k : Int) (s.size : Int) w)
  rw [HSz.out] at HR
  have V0 := Lib.hid (show ((St.beN s.size 0 : Nat) : Int) = (s.size : Int) / 16777216 by unfold St.beN; simp only [Nat.reduceSub, Nat.reducePow]; omega)
  have V1 := Lib.hid (show ((St.beN s.size 1 : Nat) : Int) = (s.size : Int) / 65536 by unfold St.beN; simp only [Nat.reduceSub, Nat.reducePow]; omega)
  have V2 := Lib.hid (show ((St.beN s.size 2 : Nat) : Int) = (s.size : Int) / 256 by unfold St.beN; simp only [Nat.reduceSub, Nat.reducePow]; omega)
  have V3 := Lib.hid (show ((St.beN s.size 3 : Nat) : Int) = (s.size : Int) % 256 by unfold St.beN; simp only [Nat.reduceSub, Nat.pow_zero]; omega)
  have hs2 : (s.size : Int) ≤ 2048 := by omega
  have n0 : (0 : Int) < (N : Int) := by omega
  have n1 : (1 : Int) < (N : Int) := by omega
  have n2 : (2 : Int) < (N : Int) := by omega
  have n3 : (3 : Int) < (N : Int) := by omega
  clear p3 hN hl hobj htail hbe HSz hn
  go_enter Try.func49, Try.ntmps49
  go_wp2_with fail
  refine (HR.out _).mono ?_
  rintro e w1 ⟨rfl, rfl⟩
  go_upto_region 3 with (at_make; refine wpList_make_full _ rfl (.tmp 18) (.tmp 18) 61 rfl w1.heap.size 5 i0 (.int .u8 0) 1 Try.underlying61 hi hz0 hz1 .i64 .i64 _ _ N rfl rfl P3.out P3.out (by rw [hz2]; omega) (by unfold maxLen; omega) (by simp) ?_; intro w2 hown hgrow)
  have C0 : Cel w2 w1.heap.size 5 (preC L 0) := by
    rw [preC_zero L N HL.out] at hown
    exact owns_blk0 hown
  have B2 : Hid (Below w1.heap.size w1 w2) := (Below.refl _ _).grown hgrow (Nat.le_refl _) (fun k hk => by cases hk)
  have next : ∀ (W : World) (i : Nat) (v : Int) (hi : i < 4), Cel W w1.heap.size 5 (preC L i) → v = ((St.beN s.size i : Nat) : Int) → Cel (W.setCell ⟨w1.heap.size, i, none⟩ (.int .u8 v)) w1.heap.size 5 (preC L (i + 1)) := fun W i v hi h hv => by
    have hs := h.set (i := i) (v := .int .u8 v)
    rwa [preC_set L i (by rw [HL.out]; omega) v (by rw [hv]; exact (HBe.out i hi (by rw [HL.out]; omega)).symm)] at hs
  have N1 := Lib.hid next
  have cell4 : ∀ (W : World) (i j : Nat), j < 4 → i ≤ L.length → Cel W w1.heap.size 5 (preC L i) → (∃ v, W.cell? ⟨w1.heap.size, j, none⟩ = some v) ∧ W.frozen? ⟨w1.heap.size, j, none⟩ = false := fun W i j hj hi h => by
    refine ⟨⟨_, h.cell (List.getElem?_eq_getElem (by rw [preC_length L i hi, HL.out]; omega))⟩, h.free⟩
  have K4 := Lib.hid cell4
  clear hown hgrow next cell4
  have C0' := Lib.hid C0
  clear C0
  obtain ⟨⟨v0, c0⟩, f0⟩ := K4.out w2 0 0 (by omega) (by rw [HL.out]; omega) C0'.out
  go_upto_region 4 with fail
  have C1' := Lib.hid (N1.out _ 0 _ (by omega) C0'.out V0.out.symm)
  have B3 : Hid (Below w1.heap.size w1 (w2.setCell ⟨w1.heap.size, 0, none⟩ (.int .u8 ((s.size : Int) / 16777216)))) := B2.out.setCell (Nat.le_refl _) _
  clear C0' c0 f0 B2
  generalize w2.setCell ⟨w1.heap.size, 0, none⟩ (.int .u8 ((s.size : Int) / 16777216)) = w3 at C1' B3 ⊢
  obtain ⟨⟨v1, c1⟩, f1⟩ := K4.out w3 1 1 (by omega) (by rw [HL.out]; omega) C1'.out
  go_upto_region 5 with fail
  have C2' := Lib.hid (N1.out _ 1 _ (by omega) C1'.out V1.out.symm)
  have B4 : Hid (Below w1.heap.size w1 (w3.setCell ⟨w1.heap.size, 1, none⟩ (.int .u8 ((s.size : Int) / 65536)))) := B3.out.setCell (Nat.le_refl _) _
  clear C1' c1 f1 B3
  generalize w3.setCell ⟨w1.heap.size, 1, none⟩ (.int .u8 ((s.size : Int) / 65536)) = w4 at C2' B4 ⊢
  obtain ⟨⟨v2, c2⟩, f2⟩ := K4.out w4 2 2 (by omega) (by rw [HL.out]; omega) C2'.out
  go_upto_region 6 with fail
  have C3' := Lib.hid (N1.out _ 2 _ (by omega) C2'.out V2.out.symm)
  have B5 : Hid (Below w1.heap.size w1 (w4.setCell ⟨w1.heap.size, 2, none⟩ (.int .u8 ((s.size : Int) / 256)))) := B4.out.setCell (Nat.le_refl _) _
  clear C2' c2 f2 B4
  generalize w4.setCell ⟨w1.heap.size, 2, none⟩ (.int .u8 ((s.size : Int) / 256)) = w5 at C3' B5 ⊢
  obtain ⟨⟨v3, c3⟩, f3⟩ := K4.out w5 3 3 (by omega) (by rw [HL.out]; omega) C3'.out
  go_wp2_with fail
  have C4' := Lib.hid (N1.out _ 3 _ (by omega) C3'.out V3.out.symm)
  have B6 : Hid (Below w1.heap.size w1 (w5.setCell ⟨w1.heap.size, 3, none⟩ (.int .u8 ((s.size : Int) % 256)))) := B5.out.setCell (Nat.le_refl _) _
  clear C3' c3 f3 B5
  generalize w5.setCell ⟨w1.heap.size, 3, none⟩ (.int .u8 ((s.size : Int) % 256)) = w6 at C4' B6 ⊢
  go_loopw [8] (fun i wr => ∃ j : Nat, j ≤ s.size ∧ i = .int .i64 (j : Int) ∧ Hid (Cel wr w1.heap.size 5 (preC L (4 + j))) ∧ Hid (Below w1.heap.size w1 wr)) (fun i _ => s.size - (intOf i).toNat)
  case atStart => exact ⟨0, by omega, rfl, C4'.out, B6.out⟩
  case round =>
    obtain ⟨j, hj, rfl, hcel, hbel⟩ := hrel
    clear C4' B6 N1 K4
    by_cases hlt : j < s.size
    · have hjL : 4 + j < L.length := by rw [HL.out]; omega
      have pj : (j : Int) < (s.size : Int) := by omega
      have pj2 : 4 + (j : Int) < (N : Int) := by omega
      obtain ⟨v, hv⟩ := preC_at L (4 + j) hjL
      have hold := hcel.out.cell hv
      have hfree := hcel.out.free (i := 4 + j)
      have hset := hcel.out.set (i := 4 + j) (v := .int .u8 ((s[j]'hlt).toNat : Int))
      rw [preC_set L (4 + j) hjL _ (HO.out j hlt hjL).symm] at hset
      have HSET := Lib.hid hset
      clear hv hset
      go_wp2_with fail
      go_roundw
      case rel => exact ⟨j + 1, by omega, by go_num, HSET.out, hbel.out.setCell (Nat.le_refl _) _⟩
      case measure => simp [intOf]; omega
    · obtain rfl : j = s.size := by omega
      have hcel2 : wr.heap[w1.heap.size]? = some (.cells (Lib.byteCells L).toArray 5 (0, 0)) := by
        have h := hcel.out
        rw [HT.out] at h
        exact h
      have hcv := bytes_string hcel2 0 N N (by rw [HL.out]; omega)
      rw [List.drop_zero, List.take_of_length_le (by rw [HL.out]; exact Nat.le_refl _)] at hcv
      clear hcel hcel2
      go_wp2_with fail
      go_ret
      exact ⟨rfl, hbel.out⟩

end Go.Proofs.Ytmnciipfepeccaa
