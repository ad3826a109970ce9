/- The walk of the law that the parity of two lists' sums is the sums of their parity; no condition but the form's reach. -/
import Derived.Test.YtmnciipfepeccaaStLinMath
import Derived.Test.YtmnciipfepeccaaStLaw0
import Derived.Test.YtmnciipfepeccaaBook
import Derived.BigQuiet
namespace Go.Proofs.Ytmnciipfepeccaa
open Go.RowKit

attribute [local go_sem ↓] Go.wp_at_zero Go.wp_at_succ
attribute [local go_sem] floatUpon pick

set_option maxRecDepth 100000 in
set_option maxHeartbeats 4000000 in
theorem linear_walk (c1 c2 : Int) (x y : ByteArray) (hrx : x.size ≤ reachBytes) (hry : y.size ≤ reachBytes) (w : World) :
    Calls Try.prog 10 #[.agg #[.int .i64 c1, .int .i64 c2], .string x, .string y] w fun e w' => e = .returned (.bool true) ∧ Below w.heap.size w w' := by
  obtain ⟨i0, hi, hz0, hz1, hz2⟩ := info_parts Try.infoStr
  have hka := amongV_lt c1 6 (by omega)
  have hma := amongV_lt c2 5 (by omega)
  have HA1 := Lib.hid (fun w => among_any c1 6 w (by omega) (by omega))
  have HA2 := Lib.hid (fun w => among_any c2 5 w (by omega) (by omega))
  generalize amongV c1 6 = ka at *
  generalize amongV c2 5 = m at *
  obtain ⟨k, hk⟩ : ∃ k, k = 1 + ka := ⟨_, rfl⟩
  have k1 : 1 ≤ k := by omega
  have k2 : k ≤ 6 := by omega
  have HK := Lib.hid (show (1 : Int) + ((ka : Nat) : Int) = (k : Int) by omega)
  obtain ⟨M, hM⟩ : ∃ M, M = min (min x.size y.size) 300 := ⟨_, rfl⟩
  have hmn := fun ts t W => run_min3 (P := Try.prog) ts t x.size y.size W
  rw [← hM] at hmn
  obtain ⟨n, hn⟩ : ∃ n, n = M / k := ⟨_, rfl⟩
  have hkn : k * n ≤ M := by rw [hn]; exact Nat.mul_div_le M k
  have hnM : n ≤ 300 := by rw [hn]; exact Nat.le_trans (Nat.div_le_self _ _) (by omega)
  have D1 : (M : Int) / (k : Int) = (n : Int) := by rw [hn, Int.natCast_ediv]
  have hM0 : (M : Int) ≤ 300 := by omega
  have kx : Hid (k * n ≤ x.size) := by show _ ≤ _; omega
  have ky : Hid (k * n ≤ y.size) := by show _ ≤ _; omega
  have k300 : Hid (k * n ≤ 300) := by show _ ≤ _; omega
  have hk0 : ((k : Int) == 0) = false := by simp; omega
  have hk1 : (1 : Int) ≤ (k : Int) := by omega
  have hrx' : (x.size : Int) ≤ 9223372036854775807 := by unfold reachBytes at hrx; omega
  have hry' : (y.size : Int) ≤ 9223372036854775807 := by unfold reachBytes at hry; omega
  clear hk hM hn hkn hrx hry
  go_enter Try.func10, Try.ntmps10
  go_wp2_with fail
  obtain ⟨s0, bZ⟩ := blk1 w (.cells #[.int .i64 c1, .int .i64 c2] 57)
  have BW : Hid (Below w.heap.size w (w.alloc (.cells #[.int .i64 c1, .int .i64 c2] 57))) := (Below.refl _ w).alloc (Nat.le_refl _) _
  generalize w.alloc (.cells #[.int .i64 c1, .int .i64 c2] 57) = w0 at s0 bZ BW ⊢
  refine (stworks _).mono ?_
  rintro e w1 ⟨rfl, hb⟩
  have bZ1 := (hb.block w.heap.size (by omega)).trans bZ
  have cc0 : w1.cell? ⟨w.heap.size, 0, none⟩ = some (.int .i64 c1) := blk_cell (j := 0) bZ1 rfl
  have cc1 : w1.cell? ⟨w.heap.size, 1, none⟩ = some (.int .i64 c2) := blk_cell (j := 1) bZ1 rfl
  have B1 : Hid (Below w.heap.size w w1) := BW.out.trans (hb.mono BW.out.size)
  clear BW hb bZ bZ1 s0
  go_wp2_with fail
  go_quiet (fail)
  have BQ := Lib.hid (below_drewN B1.out nq)
  generalize w1.drewN nq = wp0 at BQ ⊢
  clear B1
  go_wp2_with fail
  refine (HA1.out _).mono ?_
  rintro e wq0 ⟨rfl, rfl⟩
  go_wp2_with fail
  rw [HK.out]
  refine (HA2.out _).mono ?_
  rintro e wq ⟨rfl, rfl⟩
  go_wp2_with fail
  clear hmn HA1 HA2 HK cc0 cc1 D1 hk0 hrx' hry' hka
  have hT0 : Hid (Three wq.heap.size wq (.slice none 0 0) (.slice none 0 0) (.slice none 0 0) 0 0 0 (strV ((cutL x n k).take 0)) (strV ((cutL y n k).take 0)) (strV ((bothL x y n k).take 0))) :=
    ⟨World.ownsRow_nil _ _ _ _, World.ownsRow_nil _ _ _ _, World.ownsRow_nil _ _ _ _, fun j h => by simp [Value.ownBlock] at h, fun j h => by simp [Value.ownBlock] at h, fun j h => by simp [Value.ownBlock] at h⟩
  go_loopw [10, 11, 12, 40] (fun va vb vc u wr => ∃ i : Nat, i ≤ k ∧ u = .int .i64 (i : Int) ∧ Hid (Three wq.heap.size wr va vb vc i i i (strV ((cutL x n k).take i)) (strV ((cutL y n k).take i)) (strV ((bothL x y n k).take i))) ∧ Hid (Below wq.heap.size wq wr)) (fun _ _ _ u _ => k - (intOf u).toNat)
  case atStart => exact ⟨0, by omega, rfl, hT0.out, Below.refl _ _⟩
  case round =>
    obtain ⟨i, hik, rfl, hT, hbel⟩ := hrel
    clear hT0
    by_cases hlt : i < k
    · have pi : (i : Int) < (k : Int) := by omega
      have e1 : (i : Int) * (n : Int) = ((i * n : Nat) : Int) := by rw [Int.natCast_mul]
      have m1 := Nat.mul_le_mul_right n (show i + 1 ≤ k from hlt)
      rw [Nat.succ_mul] at m1
      have m2 := k300.out
      have m3 := kx.out
      have m4 := ky.out
      have q1 : (0 : Int) ≤ (i : Int) * (n : Int) := by rw [e1]; omega
      have q2 : (i : Int) * (n : Int) ≤ 300 := by rw [e1]; omega
      have q3 : (i : Int) * (n : Int) + (n : Int) ≤ 300 := by rw [e1]; omega
      have hslx : ∀ W, (Instr.slice 9 (.string x) (some (.int .i64 ((i : Int) * (n : Int)))) (some (.int .i64 ((i : Int) * (n : Int) + (n : Int)))) none).run Try.prog W = .ok (.string (cutS x n i)) W := fun W => by
        rw [run_slice_string_if W 9 x .i64 .i64 _ _ Try.underlying9, if_pos (by rw [e1]; omega), if_pos (by rw [e1]; omega), e1, Int.toNat_natCast, show (((i * n : Nat) : Int) + (n : Int)).toNat = i * n + n by omega]
        rfl
      have hsly : ∀ W, (Instr.slice 9 (.string y) (some (.int .i64 ((i : Int) * (n : Int)))) (some (.int .i64 ((i : Int) * (n : Int) + (n : Int)))) none).run Try.prog W = .ok (.string (cutS y n i)) W := fun W => by
        rw [run_slice_string_if W 9 y .i64 .i64 _ _ Try.underlying9, if_pos (by rw [e1]; omega), if_pos (by rw [e1]; omega), e1, Int.toNat_natCast, show (((i * n : Nat) : Int) + (n : Int)).toNat = i * n + n by omega]
        rfl
      have HTx := Lib.hid (cutL_take x n k i hlt)
      have HTy := Lib.hid (cutL_take y n k i hlt)
      have HTb := Lib.hid (bothL_take x y n k i hlt)
      have HLx := Lib.hid (cutL_last x n k i hlt)
      have HLy := Lib.hid (cutL_last y n k i hlt)
      have hsx := cutS_size x n i (by omega)
      have hsy := cutS_size y n i (by omega)
      have HXo := Lib.hid (fun w => xor_any (cutS x n i) (cutS y n i) w (by omega) (by omega))
      generalize cutS x n i = xi at *
      generalize cutS y n i = yi at *
      clear e1 m1 m2 m3 m4
      go_wp2_with (at_builtin; refine wpList_append_own_at _ rfl _ _ 40 rfl wq.heap.size 9 i0 (.string ⟨#[]⟩) 1 16 Try.underlying40 hi hz0 hz1 hz2 rfl (by decide) _ _ _ rfl (hT.out.r0.alloc _) ⟨wr.heap.size, 0, none⟩ 1 1 [.string xi] rfl rfl ?c1 ?c2 ?c3 ?c4 ?c5 ?_)
      case c1 => exact cell_one_new _ _ _
      case c2 => intro q hq; simp at hq; subst hq; rfl
      case c3 => unfold maxLen; omega
      case c4 => omega
      case c5 => have := hbel.out.size; simp; omega
      intro va w3 hown' hgrow _ hat
      rw [HTx.out] at hown'
      have T3 := Lib.hid (((hT.out.below ((Below.refl _ wr).alloc (Nat.le_refl _) _)).step hown' hgrow (by simpa using hat)).rot)
      have B3 := Lib.hid (below_append hT.out.r0 hbel.out (Nat.le_refl _) hgrow)
      clear hown' hgrow hat hslx
      go_wp2_with (at_builtin; refine wpList_append_own_at _ rfl _ _ 40 rfl wq.heap.size 9 i0 (.string ⟨#[]⟩) 1 16 Try.underlying40 hi hz0 hz1 hz2 rfl (by decide) _ _ _ rfl (T3.out.r0.alloc _) ⟨w3.heap.size, 0, none⟩ 1 1 [.string yi] rfl rfl ?c1 ?c2 ?c3 ?c4 ?c5 ?_)
      case c1 => exact cell_one_new _ _ _
      case c2 => intro q hq; simp at hq; subst hq; rfl
      case c3 => unfold maxLen; omega
      case c4 => omega
      case c5 => have := B3.out.size; simp; omega
      intro vb w4 hown' hgrow _ hat
      rw [HTy.out] at hown'
      have T4 := Lib.hid (((T3.out.below ((Below.refl _ w3).alloc (Nat.le_refl _) _)).step hown' hgrow (by simpa using hat)).rot)
      have B4 := Lib.hid (below_append T3.out.r0 B3.out (Nat.le_refl _) hgrow)
      clear hown' hgrow hat hsly
      obtain ⟨ga, capa, rfl, _, hla⟩ := World.ownsRow.form T4.out.r1 (by omega)
      obtain ⟨gb, capb, rfl, _, hlb⟩ := World.ownsRow.form T4.out.r2 (by omega)
      have hcA := (World.ownsRow.cellAt T4.out.r1 i (by omega)).trans HLx.out
      have hcB := (World.ownsRow.cellAt T4.out.r2 i (by omega)).trans HLy.out
      have HOK : Hid ((w4.cell? ⟨ga, i, none⟩ = some (.string xi) ∧ ga < w4.heap.size) ∧ w4.cell? ⟨gb, i, none⟩ = some (.string yi) ∧ gb < w4.heap.size) := ⟨⟨hcA, hla⟩, hcB, hlb⟩
      clear hcA hcB hla hlb
      go_upto_region 12 with fail
      refine wp_region_said 11 [69, 70, 71, 72, 73, 74, 75, 76, 77, 78, 79]
        [.is u12, .is (.slice (some ⟨ga, 0, none⟩) (i + 1) capa), .is (.int .i64 (i : Int)), .is (.pointer (some ⟨ga, i, none⟩)), .is (.string xi), .is (.slice (some ⟨gb, 0, none⟩) (i + 1) capb), .is (.int .i64 (i : Int)), .is (.pointer (some ⟨gb, i, none⟩)), .is (.string yi), .is (.string (xorS xi yi)), .arr 9 #[.string (xorS xi yi)] 1 1]
        (fun W => (W.cell? ⟨ga, i, none⟩ = some (.string xi) ∧ ga < W.heap.size) ∧ W.cell? ⟨gb, i, none⟩ = some (.string yi) ∧ gb < W.heap.size)
        (by kernel_rfl) (by kernel_rfl) (by kernel_rfl) (by kernel_rfl) (by kernel_rfl)
        (fun W W' h hb => ⟨⟨(hb.cell (p := ⟨ga, i, none⟩) h.1.2).trans h.1.1, Nat.lt_of_lt_of_le h.1.2 hb.size⟩, (hb.cell (p := ⟨gb, i, none⟩) h.2.2).trans h.2.1, Nat.lt_of_lt_of_le h.2.2 hb.size⟩) HOK.out ?steps ?last
      case steps =>
        simp only [List.take_succ_cons, List.take_zero]
        have pi1 : (i : Int) < (i : Int) + 1 := by omega
        refine ⟨?_, ?_, ?_, ?_, ?_, ?_, ?_, ?_, ?_, ?_, ?_, trivial⟩
        all_goals
          intro vs W ρ hρ hc hf hg hI hH hd R' hR
          obtain ⟨⟨hcA, hla⟩, hcB, hlb⟩ := hI
          have HR := Lib.hid hR
          simp [depsOf, Region.binds, sayAt, Say.holds] at hd
          clear hR
          go_simp
          first
            | exact HR.out _ _ (by simp [sayAt, Say.holds]) (Below.refl _ _) (by simp [sayAt, Say.isBlk])
            | (refine (HXo.out _).mono ?_; rintro e w' ⟨rfl, hb⟩; exact ⟨_, rfl, HR.out _ _ (by simp [sayAt, Say.holds]) hb (by simp [sayAt, Say.isBlk])⟩)
            | exact HR.out _ _ ⟨_, hH, by simp, rfl, heap_alloc_new _ _⟩ ((Below.refl _ _).alloc (Nat.le_refl _) _) (fun h => by cases h)
            | trace_state
      case last =>
        intro vs W hI hb hg hd
        have g0 := hg 0 (by omega)
        obtain ⟨o, ho1, ho2, g10, ho⟩ := hg 10 (by omega)
        simp only [sayAt, Say.holds, List.getD_cons_zero] at g0
        simp only [List.take_succ_cons, List.take_zero, List.drop_succ_cons, List.drop_zero, putAll, Act.put, List.setIfInBounds_toArray, List.set_cons_succ, List.set_cons_zero, Nat.zero_add, Nat.reduceAdd]
        rw [g0, g10]
        clear g0 g10 hg hd hI
        have T5 := Lib.hid (T4.out.below hb)
        have hH2 : wq.heap.size ≤ W.heap.size := Nat.le_trans B4.out.size hb.size
        refine wpList_append_own_at _ rfl _ _ 40 rfl wq.heap.size 9 i0 (.string ⟨#[]⟩) 1 16 Try.underlying40 hi hz0 hz1 hz2 rfl (by decide) _ _ _ rfl T5.out.r0 ⟨o, 0, none⟩ 1 1 [.string (xorS xi yi)] rfl rfl ?c1 ?c2 ?c3 ?c4 hH2 ?_
        case c1 => exact str_one ho
        case c2 => intro u hu; simp at hu; subst hu; rfl
        case c3 => unfold maxLen; omega
        case c4 => omega
        intro v' w5 hown' hgrow _ hat
        have HB : Hid (Below wq.heap.size wq w5) := (B4.out.trans (hb.mono B4.out.size)).grown hgrow hH2 (fun k hk => (T5.out.r0.lt k hk).1)
        rw [HTb.out] at hown'
        have T6 := Lib.hid (T5.out.step hown' hgrow hat).rot
        clear hown' hgrow hat hH2 hT hbel ho ho1 ho2 hb HOK T3 T4 T5 B3 B4
        go_wp2_with fail
        go_roundw
        case rel => exact ⟨i + 1, by omega, by go_num, T6.out, HB.out⟩
        case measure => simp [intOf]; omega
    · obtain rfl : k = i := by omega
      have lx := cutL_len x n k
      have ly := cutL_len y n k
      have lb := bothL_len x y n k
      have hT2 := hT.out
      rw [List.take_of_length_le (by rw [lx]; exact Nat.le_refl _), List.take_of_length_le (by rw [ly]; exact Nat.le_refl _), List.take_of_length_le (by rw [lb]; exact Nat.le_refl _)] at hT2
      obtain ⟨ga, capa, rfl, _, _⟩ := World.ownsRow.form hT2.r0 (by omega)
      obtain ⟨gb, capb, rfl, _, _⟩ := World.ownsRow.form hT2.r1 (by omega)
      obtain ⟨gc, capc, rfl, _, _⟩ := World.ownsRow.form hT2.r2 (by omega)
      have SA := Lib.hid (StrsAt.own hT2.r0 lx.symm)
      have SB := Lib.hid (StrsAt.own hT2.r1 ly.symm)
      have SC := Lib.hid (StrsAt.own hT2.r2 lb.symm)
      have HB := Lib.hid (BQ.out.trans (hbel.out.mono BQ.out.size))
      have HX := Lib.hid (fun j => par_xor x y n k j kx.out)
      have PA := Lib.hid (fun w h => Parity_ok k m n (cutL x n k) (some ⟨ga, 0, none⟩) capa w k1 (by omega) lx (cutL_size x n k kx.out) (by omega) h)
      have PB := Lib.hid (fun w h => Parity_ok k m n (cutL y n k) (some ⟨gb, 0, none⟩) capb w k1 (by omega) ly (cutL_size y n k ky.out) (by omega) h)
      have PC := Lib.hid (fun w h => Parity_ok k m n (bothL x y n k) (some ⟨gc, 0, none⟩) capc w k1 (by omega) lb (bothL_size x y n k kx.out) (by omega) h)
      have HP1 := Lib.hid (fun j h => parL_at k m (cutL x n k) n j h)
      have HP2 := Lib.hid (fun j h => parL_at k m (cutL y n k) n j h)
      have HP3 := Lib.hid (fun j h => parL_at k m (bothL x y n k) n j h)
      have HZ1 := Lib.hid (fun j => parS_size k (cutL x n k) n j)
      have HZ2 := Lib.hid (fun j => parS_size k (cutL y n k) n j)
      generalize parL k m (cutL x n k) n = p at *
      generalize parL k m (cutL y n k) n = q at *
      generalize parL k m (bothL x y n k) n = r at *
      generalize cutL x n k = LA at *
      generalize cutL y n k = LB at *
      generalize bothL x y n k = LC at *
      clear hT hT2 hbel lx ly lb kx ky k300 BQ
      go_wp2_with fail
      refine (PA.out _ SA.out).mono ?_
      rintro e w3 ⟨gp, rfl, hp, hb⟩
      have SB3 := Lib.hid (SB.out.below hb)
      have SC3 := Lib.hid (SC.out.below hb)
      have P3 := Lib.hid hp
      have B3 := Lib.hid (HB.out.trans (hb.mono HB.out.size))
      clear hb hp SA SB SC HB PA
      go_wp2_with fail
      refine (PB.out _ SB3.out).mono ?_
      rintro e w4 ⟨gq, rfl, hq, hb⟩
      have SC4 := Lib.hid (SC3.out.below hb)
      have P4 := Lib.hid (P3.out.below hb)
      have Q4 := Lib.hid hq
      have B4 := Lib.hid (B3.out.trans (hb.mono B3.out.size))
      clear hb hq SB3 SC3 P3 B3 PB
      go_wp2_with fail
      refine (PC.out _ SC4.out).mono ?_
      rintro e w5 ⟨gr, rfl, hr, hb⟩
      have P5 := Lib.hid (P4.out.below hb)
      have Q5 := Lib.hid (Q4.out.below hb)
      have R5 := Lib.hid hr
      have B5 := Lib.hid (B4.out.trans (hb.mono B4.out.size))
      clear hb hr SC4 P4 Q4 B4 PC
      go_wp2_with fail
      go_loopw [132] (fun u wr => ∃ j : Nat, j ≤ m ∧ u = .int .i64 (j : Int) ∧ Hid (StrBlk wr gp p ∧ StrBlk wr gq q ∧ StrBlk wr gr r) ∧ Hid (Below w.heap.size w wr)) (fun u _ => m - (intOf u).toNat)
      case atStart => exact ⟨0, by omega, rfl, ⟨P5.out, Q5.out, R5.out⟩, B5.out⟩
      case round =>
        obtain ⟨j, hj, rfl, hST, hbel⟩ := hrel
        clear P5 Q5 R5 B5
        by_cases hlt : j < m
        · have pj : (j : Int) < (m : Int) := by omega
          have c1 := Cel.cell hST.out.1 (HP1.out j hlt)
          have c2 := Cel.cell hST.out.2.1 (HP2.out j hlt)
          have c3 := Cel.cell hST.out.2.2 (HP3.out j hlt)
          have z1 := HZ1.out j
          have z2 := HZ2.out j
          have hx := HX.out j
          generalize parS k LA n j = pv at *
          generalize parS k LB n j = qv at *
          generalize parS k LC n j = rv at *
          have HXo := Lib.hid (fun w => xor_any pv qv w (by omega) (by omega))
          rw [hx] at HXo
          have y1 : (pv.size : Int) = (n : Int) := by omega
          have y2 : (qv.size : Int) = (n : Int) := by omega
          have HOK : Hid ((wr.cell? ⟨gp, j, none⟩ = some (.string pv) ∧ gp < wr.heap.size) ∧ (wr.cell? ⟨gq, j, none⟩ = some (.string qv) ∧ gq < wr.heap.size) ∧ wr.cell? ⟨gr, j, none⟩ = some (.string rv) ∧ gr < wr.heap.size) := ⟨⟨c1, Cel.lt hST.out.1⟩, ⟨c2, Cel.lt hST.out.2.1⟩, c3, Cel.lt hST.out.2.2⟩
          have y3 : (rv.toList == rv.toList) = true := text_eq rv
          clear c1 c2 c3 z1 z2 hx
          go_upto_region 22 with fail
          refine wp_region_said 31 [135, 136, 137, 138, 139, 140, 141, 142, 143, 144, 145, 146, 147, 148, 149, 150, 151, 152, 153, 154, 155, 156, 157, 158, 159, 160, 161, 162, 163, 164, 165]
            [.is (.slice (some ⟨gp, 0, none⟩) m m), .is (.int .i64 (j : Int)), .is (.pointer (some ⟨gp, j, none⟩)), .is (.string pv), .is (.int .i64 (n : Int)), .is (.int .i64 (n : Int)), .is (.bool false), .is (.bool false),
             .is (.slice (some ⟨gq, 0, none⟩) m m), .is (.int .i64 (j : Int)), .is (.pointer (some ⟨gq, j, none⟩)), .is (.string qv), .is (.int .i64 (n : Int)), .is (.int .i64 (n : Int)), .is (.bool false), .is (.bool false), .is (.bool false),
             .is (.slice (some ⟨gr, 0, none⟩) m m), .is (.int .i64 (j : Int)), .is (.pointer (some ⟨gr, j, none⟩)), .is (.string rv),
             .is (.slice (some ⟨gp, 0, none⟩) m m), .is (.int .i64 (j : Int)), .is (.pointer (some ⟨gp, j, none⟩)), .is (.string pv),
             .is (.slice (some ⟨gq, 0, none⟩) m m), .is (.int .i64 (j : Int)), .is (.pointer (some ⟨gq, j, none⟩)), .is (.string qv), .is (.string rv), .is (.bool false)]
            (fun W => (W.cell? ⟨gp, j, none⟩ = some (.string pv) ∧ gp < W.heap.size) ∧ (W.cell? ⟨gq, j, none⟩ = some (.string qv) ∧ gq < W.heap.size) ∧ W.cell? ⟨gr, j, none⟩ = some (.string rv) ∧ gr < W.heap.size)
            (by kernel_rfl) (by kernel_rfl) (by kernel_rfl) (by kernel_rfl) (by kernel_rfl)
            (fun W W' h hb => ⟨⟨(hb.cell (p := ⟨gp, j, none⟩) h.1.2).trans h.1.1, Nat.lt_of_lt_of_le h.1.2 hb.size⟩, ⟨(hb.cell (p := ⟨gq, j, none⟩) h.2.1.2).trans h.2.1.1, Nat.lt_of_lt_of_le h.2.1.2 hb.size⟩, (hb.cell (p := ⟨gr, j, none⟩) h.2.2.2).trans h.2.2.1, Nat.lt_of_lt_of_le h.2.2.2 hb.size⟩) HOK.out ?steps ?last
          case steps =>
            simp only [List.take_succ_cons, List.take_zero]
            refine ⟨?_, ?_, ?_, ?_, ?_, ?_, ?_, ?_, ?_, ?_, ?_, ?_, ?_, ?_, ?_, ?_, ?_, ?_, ?_, ?_, ?_, ?_, ?_, ?_, ?_, ?_, ?_, ?_, ?_, ?_, ?_, trivial⟩
            all_goals
              intro vs W ρ hρ hc hf hg hI hH hd R' hR
              obtain ⟨⟨hcA, hla⟩, ⟨hcB, hlb⟩, hcC, hlc⟩ := hI
              have HR := Lib.hid hR
              simp [depsOf, Region.binds, sayAt, Say.holds] at hd
              clear hR
              simp only [Region.wanted, hd, boolOf]
              go_simp
              first
                | exact HR.out _ _ (by simp [sayAt, Say.holds]) (Below.refl _ _) (by simp [sayAt, Say.isBlk])
                | (refine (HXo.out _).mono ?_; rintro e w' ⟨rfl, hb⟩; exact ⟨_, rfl, HR.out _ _ (by simp [sayAt, Say.holds]) hb (by simp [sayAt, Say.isBlk])⟩)
                | trace_state
          case last =>
            intro vs W hI hb hg hd
            have g16 := hg 16 (by omega)
            have g30 := hg 30 (by omega)
            simp only [sayAt, Say.holds, List.getD_cons_succ, List.getD_cons_zero] at g16 g30
            simp only [List.take_succ_cons, List.take_zero, List.drop_succ_cons, List.drop_zero, putAll, Act.put, List.setIfInBounds_toArray, List.set_cons_succ, List.set_cons_zero, Nat.zero_add, Nat.reduceAdd]
            rw [g16, g30]
            have HST2 : Hid (StrBlk W gp p ∧ StrBlk W gq q ∧ StrBlk W gr r) := ⟨hST.out.1.below hb, hST.out.2.1.below hb, hST.out.2.2.below hb⟩
            have B6 := Lib.hid (hbel.out.trans (hb.mono hbel.out.size))
            clear g16 g30 hg hd hI hb hST hbel HOK
            go_wp2_with fail
            go_roundw
            case rel => exact ⟨j + 1, by omega, by go_num, HST2.out, B6.out⟩
            case measure => simp [intOf]; omega
        · obtain rfl : j = m := by omega
          go_wp2_with fail
          go_ret
          exact ⟨rfl, hbel.out⟩

end Go.Proofs.Ytmnciipfepeccaa
