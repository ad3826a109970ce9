/- What the landed package's Check and Encode answer; contracts; no condition but the range. -/
import Derived.Test.YtmllaighjhpbmaaPkDone1
namespace Go.Proofs.Ytmllaighjhpbmaa
namespace Pk
open Go.RowKit Bk

attribute [local go_sem ↓] Go.wp_at_zero Go.wp_at_succ
attribute [local go_sem] floatUpon pick

set_option maxRecDepth 20000 in
set_option maxHeartbeats 1000000 in
theorem checkAll : CheckAll := by
  intro A B c d ns ts w ha hb hArg
  have hr := hArg.range
  obtain ⟨hn, ht, hnr, htr⟩ := hr
  clear hArg
  unfold packV
  have hbel : Below w.heap.size w (w.alloc (.cells #[.slice A ns.length c, .slice B ts.length d] 48)) := (Below.refl _ w).alloc (Nat.le_refl _) _
  have HBl := Lib.hid hbel
  by_cases hlong : 1024 < ns.length ∨ 1024 < ts.length
  · have E := Lib.hid (ckE_long hlong)
    clear hbel ha hb hnr htr
    by_cases h1 : 1024 < ns.length
    · have p1 : (1024 : Int) < (ns.length : Int) := by omega
      clear hlong
      go_enter Try.func41, Try.ntmps41
      go_wp2_with fail
      go_ret
      exact ⟨by rw [E.out]; rfl, HBl.out⟩
    · have p1 : (ns.length : Int) ≤ 1024 := by omega
      have p2 : (1024 : Int) < (ts.length : Int) := by omega
      clear hlong
      go_enter Try.func41, Try.ntmps41
      go_wp2_with fail
      go_ret
      exact ⟨by rw [E.out]; rfl, HBl.out⟩
  · have p1 : (ns.length : Int) ≤ 1024 := by omega
    have p2 : (ts.length : Int) ≤ 1024 := by omega
    have hblk := (blk1 w (.cells #[.slice A ns.length c, .slice B ts.length d] 48)).2
    have c0 : (w.alloc (.cells #[.slice A ns.length c, .slice B ts.length d] 48)).cell? ⟨w.heap.size, 0, none⟩ = some (.slice A ns.length c) := blk_cell hblk rfl
    have c1 : (w.alloc (.cells #[.slice A ns.length c, .slice B ts.length d] 48)).cell? ⟨w.heap.size, 1, none⟩ = some (.slice B ts.length d) := blk_cell hblk rfl
    have HA := Lib.hid (ha.alloc (.cells #[.slice A ns.length c, .slice B ts.length d] 48))
    have HB := Lib.hid (hb.alloc (.cells #[.slice A ns.length c, .slice B ts.length d] 48))
    have HNR := Lib.hid hnr
    have HTR := Lib.hid htr
    have HL := Lib.hid hlong
    clear hbel hlong hblk ha hb hnr htr
    go_enter Try.func41, Try.ntmps41
    go_upto_region 3 with fail
    generalize w.alloc (.cells #[.slice A ns.length c, .slice B ts.length d] 48) = W1 at *
    go_wp2_with fail
    go_loopw [20] (fun i wr => ∃ j : Nat, j ≤ ns.length ∧ i = .int .i64 (j : Int) ∧ Hid (∀ n ∈ ns.take j, numOk n) ∧ wr = W1) (fun i _ => ns.length - (intOf i).toNat)
    case atStart => exact ⟨0, by omega, rfl, fun n hn => absurd hn (by simp), rfl⟩
    case round =>
      obtain ⟨j, hj, rfl, hall, rfl⟩ := hrel
      by_cases hlt : j < ns.length
      · have pj : (j : Int) < (ns.length : Int) := by omega
        obtain ⟨ad, rfl, hab, hcl⟩ := HA.out (by omega)
        have x1 := hcl j hlt
        have hmem : ns[j] ∈ ns := List.getElem_mem hlt
        have HN := Lib.hid (fun W => isNumber_any ns[j] W (HNR.out _ hmem))
        by_cases hz : numOk ns[j]
        · have hall2 := mem_take_succ hlt hall.out hz
          have HA2 := Lib.hid hall2
          rw [show decide (numOk ns[j]) = true by simpa using hz] at HN
          generalize ns[j] = z at x1 HN
          clear hcl hmem hz hall2 hall
          go_wp2_with fail
          refine (HN.out _).mono ?_
          rintro e w' ⟨rfl, rfl⟩
          go_wp2_with fail
          go_roundw
          case rel => exact ⟨j + 1, by omega, by go_num, HA2.out, trivial⟩
          case measure => simp [intOf]; omega
        · have E := Lib.hid (ckE_num HL.out hmem hz)
          rw [show decide (numOk ns[j]) = false by simpa using hz] at HN
          generalize ns[j] = z at x1 HN
          clear hcl hmem hz hall
          go_wp2_with fail
          refine (HN.out _).mono ?_
          rintro e w' ⟨rfl, rfl⟩
          go_wp2_with fail
          go_ret
          exact ⟨by rw [E.out]; rfl, HBl.out⟩
      · obtain rfl : j = ns.length := by omega
        have hall2 := hall.out
        rw [List.take_length] at hall2
        have HAll := Lib.hid hall2
        clear hall hall2
        go_wp2_with fail
        obtain ⟨wo, rfl⟩ : ∃ wo : World, wo = wr := ⟨_, rfl⟩
        go_loopw [31] (fun i wr => ∃ j : Nat, j ≤ ts.length ∧ i = .int .i64 (j : Int) ∧ Hid (∀ t ∈ ts.take j, t.size ≤ 4096) ∧ wr = wo) (fun i _ => ts.length - (intOf i).toNat)
        case atStart => exact ⟨0, by omega, rfl, fun n hn => absurd hn (by simp), rfl⟩
        case round =>
          obtain ⟨j, hj, rfl, hall, rfl⟩ := hrel
          by_cases hlt : j < ts.length
          · have pj : (j : Int) < (ts.length : Int) := by omega
            obtain ⟨bd, rfl, hbb, hcl⟩ := HB.out (by omega)
            have x1 := hcl j hlt
            have hmem : ts[j] ∈ ts := List.getElem_mem hlt
            by_cases hz : ts[j].size ≤ 4096
            · have hall2 := mem_take_succ hlt hall.out hz
              have HA2 := Lib.hid hall2
              have hz' : (ts[j].size : Int) ≤ 4096 := by omega
              generalize ts[j] = z at x1 hz'
              clear hcl hmem hz hall2 hall
              go_wp2_with fail
              go_roundw
              case rel => exact ⟨j + 1, by omega, by go_num, HA2.out, trivial⟩
              case measure => simp [intOf]; omega
            · have E := Lib.hid (ckE_text HL.out HAll.out hmem (by omega))
              have hz' : (4096 : Int) < (ts[j].size : Int) := by omega
              generalize ts[j] = z at x1 hz'
              clear hcl hmem hz hall
              go_wp2_with fail
              go_ret
              exact ⟨by rw [E.out]; rfl, HBl.out⟩
          · obtain rfl : j = ts.length := by omega
            have hall2 := hall.out
            rw [List.take_length] at hall2
            have E := Lib.hid (ckE_ok HL.out HAll.out hall2)
            clear hall hall2
            go_wp2_with fail
            go_ret
            exact ⟨by rw [E.out]; rfl, HBl.out⟩

set_option maxRecDepth 20000 in
set_option maxHeartbeats 1000000 in
theorem encodeAll : EncodeAll := by
  intro A B c d ns ts w ha hb hArg
  have HC := Lib.hid (fun W (hbl : Below w.heap.size w W) => checkAll A B c d ns ts W (ha.below hbl) (hb.below hbl) hArg)
  have hle := ckE_le ns ts
  have HE := Lib.hid (PkEnv.start (c := c) (d := d) ha hb)
  by_cases hm : ckE ns ts = 0
  · have hmb := ckE_zero.1 hm
    have E := Lib.hid (encV_ok hmb)
    have HM := Lib.hid hmb
    have p1 : (ns.length : Int) ≤ 1024 := by have := hmb.1; omega
    have p2 : (ts.length : Int) ≤ 1024 := by have := hmb.2.1; omega
    rw [hm] at HC
    unfold packV at HC ⊢
    clear ha hb hArg hm hle hmb
    go_enter Try.func26, Try.ntmps26
    go_wp2_with fail
    refine (HC.out _ ((Below.refl _ w).alloc (Nat.le_refl _) _)).mono ?_
    rintro e w1 ⟨rfl, hb⟩
    have HE1 := Lib.hid (HE.out.step hb)
    clear hb HC HE
    go_upto_region 5 with fail
    have hbn := Bld.new w1
    have hbw : Below w1.heap.size w1 (w1.alloc (.cells #[.pointer none, .slice none 0 0] 65)) := (Below.refl _ _).alloc (Nat.le_refl _) _
    have HW1 := Lib.hid (fun W (h : Bld w1.heap.size [] W) => writeInt_any w1.heap.size ns.length [] W h (by omega) (by simp))
    have HB2 := Lib.hid hbn
    have HL2 := Lib.hid hbw
    have HE2 := Lib.hid (HE1.out.step hbw)
    clear hbn hbw
    generalize w1.alloc (.cells #[.pointer none, .slice none 0 0] 65) = W2 at *
    generalize hbb : w1.heap.size = b at *
    have c0 := HE2.out.c0
    go_wp2_with fail
    refine (HW1.out _ HB2.out).mono ?_
    rintro e w3 ⟨rfl, h3, hb⟩
    have HB3 := Lib.hid h3
    have HL3 := Lib.hid (HL2.out.trans hb)
    have HE3 := Lib.hid (HE1.out.step (by rw [hbb]; exact HL2.out.trans hb))
    clear h3 hb HW1 HB2 HL2 HE2 c0
    have c0 := HE3.out.c0
    go_wp2_with fail
    go_loopw [22] (fun i wr => ∃ j : Nat, j ≤ ns.length ∧ i = .int .i64 (j : Int) ∧ Hid (Bld b (plain ns.length ++ numsL (ns.take j)) wr) ∧ Hid (Below b w1 wr)) (fun i _ => ns.length - (intOf i).toNat)
    case atStart => exact ⟨0, by omega, rfl, by rw [List.take_zero]; simp only [numsL, List.flatMap_nil, List.append_nil]; exact HB3.out, HL3.out⟩
    case round =>
      obtain ⟨j, hj, rfl, hB, hL⟩ := hrel
      have hE := Lib.hid (HE1.out.step (by rw [hbb]; exact hL.out))
      clear HE3 HB3 HL3 c0
      by_cases hlt : j < ns.length
      · have pj : (j : Int) < (ns.length : Int) := by omega
        obtain ⟨ad, rfl, hab, hcl⟩ := hE.out.1 (by omega)
        have x1 := hcl j hlt
        have hz := HM.out.2.2.1 _ (List.getElem_mem hlt)
        have HF := Lib.hid (fun W => fold_any ns[j] W hz)
        have HW := Lib.hid (writeFolded_any b (zig ns[j]) (plain ns.length ++ numsL (ns.take j)) _ hB.out (zig_lt hz) (by have := (bytesL_at HM.out j 0).1; omega))
        have hsc : (plain ns.length ++ numsL (ns.take j)) ++ plain (zig ns[j]) = plain ns.length ++ numsL (ns.take (j + 1)) := by
          rw [numsL_succ hlt, List.append_assoc]; rfl
        rw [hsc] at HW
        generalize ns[j] = z at x1 HF HW
        clear hcl hz hsc hB hab
        go_wp2_with fail
        refine (HF.out _).mono ?_
        rintro e w4 ⟨rfl, rfl⟩
        go_wp2_with fail
        refine HW.out.mono ?_
        rintro e w5 ⟨rfl, h5, hb⟩
        have HB5 := Lib.hid h5
        have HL5 := Lib.hid (hL.out.trans hb)
        clear h5 hb hL HW HF
        go_wp2_with fail
        go_roundw
        case rel => exact ⟨j + 1, by omega, by go_num, HB5.out, HL5.out⟩
        case measure => simp [intOf]; omega
      · obtain rfl : j = ns.length := by omega
        rw [List.take_length] at hB
        have c1 := hE.out.c1
        have HW := Lib.hid (writeInt_any b ts.length (plain ns.length ++ numsL ns) _ hB.out (by omega) (by have := (bytesL_at HM.out ns.length 0).1; rw [List.take_length] at this; omega))
        clear hB
        go_wp2_with fail
        refine HW.out.mono ?_
        rintro e w3 ⟨rfl, h3, hb⟩
        have HB3 := Lib.hid h3
        have HL3 := Lib.hid (hL.out.trans hb)
        have HE3 := Lib.hid (HE1.out.step (by rw [hbb]; exact hL.out.trans hb))
        clear h3 hb HW hE hL c1
        have c1 := HE3.out.c1
        go_wp2_with fail
        go_loopw [37] (fun i wr => ∃ j : Nat, j ≤ ts.length ∧ i = .int .i64 (j : Int) ∧ Hid (Bld b (plain ns.length ++ (numsL ns ++ (plain ts.length ++ textsL (ts.take j)))) wr) ∧ Hid (Below b w1 wr)) (fun i _ => ts.length - (intOf i).toNat)
        case atStart =>
          refine ⟨0, by omega, rfl, ?_, HL3.out⟩
          have := HB3.out
          rw [List.append_assoc] at this
          rw [List.take_zero]
          simp only [textsL, List.flatMap_nil, List.append_nil]
          exact this
        case round =>
          obtain ⟨j, hj, rfl, hB, hL⟩ := hrel
          have hE := Lib.hid (HE1.out.step (by rw [hbb]; exact hL.out))
          clear HE3 HB3 HL3 c1
          by_cases hlt : j < ts.length
          · have pj : (j : Int) < (ts.length : Int) := by omega
            obtain ⟨ad, rfl, hab, hcl⟩ := hE.out.2.1 (by omega)
            have x1 := hcl j hlt
            have hz := HM.out.2.2.2 _ (List.getElem_mem hlt)
            have hsc : ((plain ns.length ++ (numsL ns ++ (plain ts.length ++ textsL (ts.take j)))) ++ plain ts[j].size) ++ ts[j].data.toList = plain ns.length ++ (numsL ns ++ (plain ts.length ++ textsL (ts.take (j + 1)))) := by
              rw [textsL_succ hlt]; unfold textL; simp only [List.append_assoc]
            have hlen := (bytesL_at HM.out ns.length j).2
            have hpl := plain_len 9 ts[j].size (by show _ < 9223372036854775808; omega) (by omega)
            have HW := Lib.hid (writeInt_any b ts[j].size (plain ns.length ++ (numsL ns ++ (plain ts.length ++ textsL (ts.take j)))) _ hB.out (by omega) (by omega))
            have HS := Lib.hid (fun W (h : Bld b ((plain ns.length ++ (numsL ns ++ (plain ts.length ++ textsL (ts.take j)))) ++ plain ts[j].size) W) => bld_string ts[j] h (by rw [List.length_append]; omega))
            rw [hsc] at HS
            generalize ts[j] = z at x1 HW HS
            clear hcl hz hsc hB hab hlen hpl
            go_wp2_with fail
            refine HW.out.mono ?_
            rintro e w4 ⟨rfl, h4, hb⟩
            have HSS := Lib.hid (HS.out _ h4)
            have HL4 := Lib.hid (hL.out.trans hb)
            clear h4 hb hL HW HS hE
            go_wp2_with fail
            refine HSS.out.mono ?_
            rintro e w5 ⟨rfl, h5, hb⟩
            have HB5 := Lib.hid h5
            have HL5 := Lib.hid (HL4.out.trans hb)
            clear h5 hb HL4 HSS
            go_wp2_with fail
            go_roundw
            case rel => exact ⟨j + 1, by omega, by go_num, HB5.out, HL5.out⟩
            case measure => simp [intOf]; omega
          · obtain rfl : j = ts.length := by omega
            rw [List.take_length] at hB
            have HT := Lib.hid (bld_text hB.out)
            have HW0 := Lib.hid HE1.out.2.2.2
            clear hB hE
            go_wp2_with fail
            refine HT.out.mono ?_
            rintro e w6 ⟨rfl, -, hb⟩
            have HB6 := Lib.hid (HW0.out.trans ((hL.out.trans hb).mono (by rw [← hbb]; exact HW0.out.size)))
            clear hb hL HT
            go_wp2_with fail
            go_ret2
            exact ⟨by rw [E.out]; rfl, HB6.out⟩
  · have E := Lib.hid (encV_bad hm)
    have hne : (((ckE ns ts : Nat) : Int) != 0) = true := by simp; omega
    generalize ckE ns ts = C at *
    unfold packV at HC ⊢
    clear ha hb hArg hm hle
    go_enter Try.func26, Try.ntmps26
    go_wp2_with fail
    refine (HC.out _ ((Below.refl _ w).alloc (Nat.le_refl _) _)).mono ?_
    rintro e w1 ⟨rfl, hb⟩
    have HB1 := Lib.hid (below_new hb)
    clear hb HC
    go_wp2_with fail
    go_ret2
    exact ⟨by rw [E.out]; rfl, HB1.out⟩

end Pk
end Go.Proofs.Ytmllaighjhpbmaa
