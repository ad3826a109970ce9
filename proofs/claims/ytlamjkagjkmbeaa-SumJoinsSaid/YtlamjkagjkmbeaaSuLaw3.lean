/- Laws over what is asked of the landed package: Joins. -/
import Derived.Test.YtlamjkagjkmbeaaSuTurn
namespace Go.Proofs.Ytlamjkagjkmbeaa
namespace Su
open Go.RowKit Bk

attribute [local go_sem ↓] Go.wp_at_zero Go.wp_at_succ
attribute [local go_sem] floatUpon pick

/-- Of over a slice just made, of three texts -/
theorem of_three (HO : OfAll) (x y z : ByteArray) (S : List UInt8) (C : Nat) (hS : x.data.toList ++ (y.data.toList ++ z.data.toList) = S) (hC : crc S = C) (hl : S.length ≤ 9223372036854775807) (w : World) :
    Calls Try.prog 13 #[.slice (some ⟨w.heap.size, 0, none⟩) 3 3] (w.alloc (.cells #[.string x, .string y, .string z] 9)) fun e w' => e = .returned (.int .i64 (C : Int)) ∧ Below w.heap.size w w' := by
  have e : catL [x, y, z] = S := by rw [← hS]; simp [catL]
  refine (HO (some ⟨w.heap.size, 0, none⟩) 3 [x, y, z] (w.alloc (.cells #[.string x, .string y, .string z] 9)) (StrsAt.blk (heap_alloc_new w _)) (Nat.le_refl 3) (by show 3 ≤ _; omega) (by rw [e]; exact hl)).mono ?_
  rintro e' w' ⟨rfl, hb⟩
  rw [e, hC]
  exact ⟨rfl, below_new hb⟩

/-- .. of one -/
theorem of_one (HO : OfAll) (x : ByteArray) (S : List UInt8) (C : Nat) (hS : x.data.toList = S) (hC : crc S = C) (hl : S.length ≤ 9223372036854775807) (w : World) :
    Calls Try.prog 13 #[.slice (some ⟨w.heap.size, 0, none⟩) 1 1] (w.alloc (.cells #[.string x] 9)) fun e w' => e = .returned (.int .i64 (C : Int)) ∧ Below w.heap.size w w' := by
  have e : catL [x] = S := by rw [← hS]; simp [catL]
  refine (HO (some ⟨w.heap.size, 0, none⟩) 1 [x] (w.alloc (.cells #[.string x] 9)) (StrsAt.blk (heap_alloc_new w _)) (Nat.le_refl 1) (by show 1 ≤ _; omega) (by rw [e]; exact hl)).mono ?_
  rintro e' w' ⟨rfl, hb⟩
  rw [e, hC]
  exact ⟨rfl, below_new hb⟩

theorem add_list (a b : ByteArray) : (a ++ b).data.toList = a.data.toList ++ b.data.toList := by
  rw [ByteArray.data_append, Array.toList_append]

set_option maxRecDepth 20000 in
set_option maxHeartbeats 2000000 in
theorem joins_walk (HO : OfAll) (a b c : ByteArray) (ha : a.size ≤ reachBytes) (hb : b.size ≤ reachBytes) (hc : c.size ≤ reachBytes) (w : World) :
    Calls Try.prog 9 #[.string a, .string b, .string c] w fun e w' => e = .returned (.bool true) ∧ Below w.heap.size w w' := by
  have ha' : a.size ≤ 140737488351232 := by unfold reachBytes at ha; omega
  have hb' : b.size ≤ 140737488351232 := by unfold reachBytes at hb; omega
  have hc' : c.size ≤ 140737488351232 := by unfold reachBytes at hc; omega
  clear ha hb hc
  have HW := Lib.hid (suworks HO)
  obtain ⟨S, hS⟩ : ∃ S, a.data.toList ++ (b.data.toList ++ c.data.toList) = S := ⟨_, rfl⟩
  have hSl : S.length = a.size + (b.size + c.size) := by rw [← hS, List.length_append, List.length_append, list_size, list_size, list_size]
  obtain ⟨C, hC⟩ : ∃ C, crc S = C := ⟨_, rfl⟩
  have hClt : C < 4294967296 := by rw [← hC]; exact crc_lt S
  have h1 := Lib.hid (of_three HO a b c S C hS hC (by omega))
  have z1 : (a ++ b).size = a.size + b.size := ByteArray.size_append ..
  have hadd1 := fun W => run_string_add_sum (P := Try.prog) W a b (by omega)
  have hadd2 := fun W => run_string_add_sum (P := Try.prog) W (a ++ b) c (by rw [z1]; omega)
  have hadd3 := fun W => run_string_add_sum (P := Try.prog) W b c (by omega)
  have h2 := Lib.hid (of_one HO (a ++ b ++ c) S C (by rw [add_list, add_list, ← hS, List.append_assoc]) hC (by omega))
  have h3 := Lib.hid (of_three HO a ⟨#[]⟩ (b ++ c) S C (by rw [add_list, ← hS]; rfl) hC (by omega))
  clear z1
  generalize (a ++ b ++ c) = ABC at *
  generalize (a ++ b) = AB at *
  generalize (b ++ c) = BC at *
  have pC0 : ¬ (C : Int) < 0 := by omega
  have pC1 : (C : Int) < 4294967296 := by omega
  by_cases hbe : b.size = 0
  · obtain rfl : b = ⟨#[]⟩ := by
      apply ByteArray.ext
      apply Array.eq_empty_of_size_eq_zero
      exact hbe
    have qe := text_eq ⟨#[]⟩
    clear hSl hS hC hClt hbe ha' hb' hc'
    go_enter Try.func9, Try.ntmps9
    go_upto_region 9 with fail
    refine (HW.out _).mono ?_
    rintro e w1 ⟨rfl, hb⟩
    have B1 := Lib.hid hb
    clear hb HW
    go_upto_region 9 with fail
    refine (h1.out _).mono ?_
    rintro e w2 ⟨rfl, hb⟩
    have B2 := Lib.hid (B1.out.trans (hb.mono B1.out.size))
    clear hb B1 h1
    go_upto_region 9 with fail
    refine (h2.out _).mono ?_
    rintro e w3 ⟨rfl, hb⟩
    have B3 := Lib.hid (B2.out.trans (hb.mono B2.out.size))
    clear hb B2 h2
    go_upto_region 9 with fail
    refine (h3.out _).mono ?_
    rintro e w4 ⟨rfl, hb⟩
    have B4 := Lib.hid (B3.out.trans (hb.mono B3.out.size))
    clear hb B3 h3
    have d1 : decide ((C : Int) < 0) = false := by simp
    have d2 : decide (4294967296 ≤ (C : Int)) = false := by simp; omega
    clear pC0 pC1
    generalize (C : Int) = CI at *
    go_upto_region 5 with fail
    go_quiet (fail)
    go_upto_region 9 with fail
    go_ret
    exact ⟨rfl, below_drewN B4.out nq⟩
  · obtain ⟨b0, r, hbl⟩ : ∃ b0 r, b.data.toList = b0 :: r := by
      cases h : b.data.toList with
      | nil => exact absurd (by have := congrArg List.length h; rw [list_size] at this; simpa using this) hbe
      | cons x r => exact ⟨x, r, rfl⟩
    have hne : b ≠ ⟨#[]⟩ := fun h => hbe (by rw [h]; rfl)
    have hq := text_ne hne
    have hix := fun W => str_at b 0 b0 (by rw [hbl]; rfl) 0 rfl W
    have hfr := fun W => str_from b 1 (by omega) 1 rfl W
    rw [hbl, show (b0 :: r).drop 1 = r from rfl] at hfr
    have hxo : bits .xor .u8 (b0.toNat : Int) 1 = ((b0 ^^^ 1).toNat : Int) := u8_xor_nat' b0.toNat 1 b0.toNat_lt (by omega)
    have hqe : ¬ b.toList = [] := by
      intro h
      have h2 : (b.toList == (⟨#[]⟩ : ByteArray).toList) = true := by rw [h]; decide +kernel
      rw [hq] at h2
      exact absurd h2 (by decide)
    have hcv : ∀ (g : Nat) (W : World), W.heap[g]? = some (.cells (Lib.byteCells [b0 ^^^ 1]).toArray 5 (0, 0)) → (convert 41 9 (.slice (some ⟨g, 0, none⟩) 1 1)).run Try.prog W = .ok (.string ⟨[b0 ^^^ 1].toArray⟩) W := fun g W h => bytes_string h 0 1 1 (by simp)
    have hrl : r.length + 1 = b.size := by rw [← list_size, hbl, List.length_cons]
    have hadd4 := fun W => run_string_add_sum (P := Try.prog) W ⟨[b0 ^^^ 1].toArray⟩ ⟨r.toArray⟩ (by rw [cat_size, cat_size, List.length_singleton]; omega)
    rw [show (⟨[b0 ^^^ 1].toArray⟩ : ByteArray) ++ ⟨r.toArray⟩ = ⟨((b0 ^^^ 1) :: r).toArray⟩ by apply ByteArray.ext; apply Array.toList_inj.1; rw [ByteArray.data_append]; simp] at hadd4
    -- the sum of the text with a bit turned
    obtain ⟨D, hD⟩ : ∃ D, crc (a.data.toList ++ ((b0 ^^^ 1) :: r ++ c.data.toList)) = D := ⟨_, rfl⟩
    have hDC : D ≠ C := by
      have hj : a.data.toList.length < S.length := by rw [list_size]; omega
      have h := crc_set S a.data.toList.length 1 hj (by decide)
      rw [hC] at h
      intro e
      refine h ?_
      rw [← e, ← hD]
      congr 1
      subst hS
      simp only [hbl]
      rw [List.set_append_right _ _ (Nat.le_refl _), Nat.sub_self, List.getElem_append_right (Nat.le_refl _)]
      simp
    have hDn : ((D : Int) != (C : Int)) = true := by simp; omega
    have h4 : Hid (∀ (A : Option Addr) (W : World), StrsAt W A [a, ⟨((b0 ^^^ 1) :: r).toArray⟩, c] → Calls Try.prog 13 #[.slice A 3 3] W fun e w' => e = .returned (.int .i64 (D : Int)) ∧ Below W.heap.size W w') := fun A W h => by
      have ec : catL [a, ⟨((b0 ^^^ 1) :: r).toArray⟩, c] = a.data.toList ++ ((b0 ^^^ 1) :: r ++ c.data.toList) := by simp [catL]
      have := HO A 3 _ W h (Nat.le_refl 3) (by show 3 ≤ _; omega) (by rw [ec, List.length_append, List.length_append, List.length_cons, list_size, list_size]; omega)
      rw [ec, hD] at this
      exact this
    have HBx : Hid ((#[.int .u8 ((b0 ^^^ 1).toNat : Int)] : Array Value) = (Lib.byteCells [b0 ^^^ 1]).toArray) := by show _ = _; rfl
    clear hSl hS hC hClt hbe ha' hb' hc' hD hDC hbl hrl hne HO
    generalize (⟨((b0 ^^^ 1) :: r).toArray⟩ : ByteArray) = B2 at *
    generalize (⟨r.toArray⟩ : ByteArray) = RB at *
    generalize hy : b0 ^^^ 1 = y at *
    clear hy
    generalize b0.toNat = x0 at *
    go_enter Try.func9, Try.ntmps9
    go_upto_region 9 with fail
    refine (HW.out _).mono ?_
    rintro e w1 ⟨rfl, hb⟩
    have B1 := Lib.hid hb
    clear hb HW
    go_upto_region 9 with fail
    refine (h1.out _).mono ?_
    rintro e w2 ⟨rfl, hb⟩
    have B2 := Lib.hid (B1.out.trans (hb.mono B1.out.size))
    clear hb B1 h1
    go_upto_region 9 with fail
    refine (h2.out _).mono ?_
    rintro e w3 ⟨rfl, hb⟩
    have B3 := Lib.hid (B2.out.trans (hb.mono B2.out.size))
    clear hb B2 h2
    go_upto_region 9 with fail
    refine (h3.out _).mono ?_
    rintro e w4 ⟨rfl, hb⟩
    have B4 := Lib.hid (B3.out.trans (hb.mono B3.out.size))
    clear hb B3 h3
    have d1 : decide ((C : Int) < 0) = false := by simp
    have d2 : decide (4294967296 ≤ (C : Int)) = false := by simp; omega
    clear pC0 pC1
    generalize hCI : (C : Int) = CI at *
    go_upto_region 6 with fail
    refine wp_region_said 17 [42, 43, 44, 45, 46, 47, 48, 49, 50, 51, 52, 53, 54, 55, 56, 57, 58]
      [.is (.string b), .is (.bool false), .is (.bool false), .is (.string a), .is (.string b), .is (.int .u8 (x0 : Int)), .is (.int .u8 (y.toNat : Int)), .arr 5 (Lib.byteCells [y]).toArray 1 1, .is (.string ⟨[y].toArray⟩),
       .is (.string b), .is (.string RB), .is (.string B2), .is (.string c), .arr 9 #[.string a, .string B2, .string c] 3 3, .is (.int .i64 (D : Int)), .is (.int .i64 CI), .is (.bool true)]
      (fun _ => True) (by kernel_rfl) (by kernel_rfl) (by kernel_rfl) (by kernel_rfl) (by kernel_rfl) (fun _ _ _ _ => trivial) trivial ?steps ?last
    case steps =>
      simp only [List.take_succ_cons, List.take_zero]
      refine ⟨?_, ?_, ?_, ?_, ?_, ?_, ?_, ?_, ?_, ?_, ?_, ?_, ?_, ?_, ?_, ?_, ?_, trivial⟩
      all_goals
        intro vs W ρ hρ hc hf hg hI hH hd R' hR
        have HR := Lib.hid hR
        simp [depsOf, Region.binds, sayAt, Say.holds] at hd
        clear hR
        simp only [Region.wanted, hd, boolOf]
        go_simp
        first
          | exact HR.out _ _ (by simp [sayAt, Say.holds, hqe]) (Below.refl _ _) (by simp [sayAt, Say.isBlk])
          | exact HR.out _ _ ⟨_, hH, by simp, rfl, by rw [HBx.out]; exact heap_alloc_new _ _⟩ ((Below.refl _ _).alloc (Nat.le_refl _) _) (fun h => by cases h)
          | exact HR.out _ _ ⟨_, hH, by simp, rfl, heap_alloc_new _ _⟩ ((Below.refl _ _).alloc (Nat.le_refl _) _) (fun h => by cases h)
          | (obtain ⟨⟨p, _, _, e7, hblk⟩, _⟩ := hd; rw [e7, hcv p W hblk]; exact HR.out _ _ (by simp [sayAt, Say.holds]) (Below.refl _ _) (by simp [sayAt, Say.isBlk]))
          | (obtain ⟨⟨p, _, _, e7, hblk⟩, _⟩ := hd; rw [e7]; refine (h4.out _ W (StrsAt.blk hblk)).mono ?_; rintro e w' ⟨rfl, hb⟩; exact ⟨_, rfl, HR.out _ _ (by simp [sayAt, Say.holds]) hb (by simp [sayAt, Say.isBlk])⟩)
          | trace_state
    case last =>
      intro vs W hI hb hg hd
      have g2 := hg 2 (by omega)
      have g16 := hg 16 (by omega)
      simp only [sayAt, Say.holds, List.getD_cons_succ, List.getD_cons_zero] at g2 g16
      simp only [List.take_succ_cons, List.take_zero, List.drop_succ_cons, List.drop_zero, putAll, Act.put, List.setIfInBounds_toArray, List.set_cons_succ, List.set_cons_zero, Nat.zero_add, Nat.reduceAdd]
      rw [g2, g16]
      have B5 := Lib.hid (B4.out.trans (hb.mono B4.out.size))
      clear g2 g16 hg hd hb hI
      go_upto_region 9 with fail
      go_ret
      exact ⟨rfl, B5.out⟩

end Su
end Go.Proofs.Ytlamjkagjkmbeaa
