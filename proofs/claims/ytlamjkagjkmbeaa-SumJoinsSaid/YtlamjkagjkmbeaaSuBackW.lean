/- Laws over what is asked of the landed package: Back, the walk. -/
import Derived.Test.YtlamjkagjkmbeaaSuBack
namespace Go.Proofs.Ytlamjkagjkmbeaa
namespace Su
open Go.RowKit Bk

attribute [local go_sem ↓] Go.wp_at_zero Go.wp_at_succ
attribute [local go_sem] floatUpon pick

theorem row_of_own {w : World} {H n : Nat} {e : TypeId} {v : Value} {xs : List Value} (h : w.ownsRow H e 1 v n xs) :
    ∃ (E : Option Addr) (cp : Nat), v = .slice E n cp ∧ ∀ q u, xs[q]? = some u → ∃ ad, E = some ad ∧ ad.block < w.heap.size ∧ w.cell? (ad.add q) = some u := by
  rcases h.2 with ⟨h1, h2⟩ | ⟨g, cap, cur, h1, _, hg, hc1, hc2, hc3, hc4⟩
  · refine ⟨none, 0, by rw [h1, h2], fun q u hu => ?_⟩
    have := (List.getElem?_eq_some_iff.1 hu).1
    rw [h.1, h2] at this
    omega
  · refine ⟨_, cap, h1, fun q u hu => ⟨⟨g, 0, none⟩, rfl, (Array.getElem?_eq_some_iff.1 hg).1, ?_⟩⟩
    rw [addr_head]
    refine blk_cell hg ?_
    rw [← Array.getElem?_toList]
    rw [← hc4, List.getElem?_take] at hu
    split at hu
    · exact hu
    · cases hu

set_option maxRecDepth 20000 in
set_option maxHeartbeats 4000000 in
theorem back_walk (HO : OfAll) (HF : FrameAll) (HN : NextAll) (HL : AllAll) (v : Value) (l : List ByteArray) (more : ByteArray) (w : World) (hv : TextsOf w v l) (hreach : more.size ≤ reachBytes) :
    Calls Try.prog 6 #[v, .string more] w fun e w' => e = .returned (.bool true) ∧ Below w.heap.size w w' := by
  obtain ⟨i0, hi, hz0, hz1, hz2⟩ := info_parts Try.infoInt
  obtain ⟨A, c, rfl, hst, hnil, hn16, hmax, hlc, hcm⟩ := hv
  have hmore : more.size ≤ 140737488351232 := by unfold reachBytes at hreach; omega
  have HW := Lib.hid (suworks HO)
  have HFh := Lib.hid HF
  have HNh := Lib.hid HN
  have HLh := Lib.hid HL
  have HMx := Lib.hid hmax
  have HSt := Lib.hid hst
  have HNil := Lib.hid hnil
  have HLC := Lib.hid hlc
  have hcM : c ≤ 9223372036854775807 := by unfold maxLen at hcm; omega
  clear hlc hcm
  have hnl : (l.length : Int) ≤ 140737488351232 := by omega
  clear hreach HO HF HN HL hmax hst hnil hn16
  go_enter Try.func6, Try.ntmps6
  go_upto_region 99 with fail
  refine (HW.out _).mono ?_
  rintro e w1 ⟨rfl, hb⟩
  have B1 := Lib.hid hb
  clear hb HW
  go_upto_region 99 with fail
  go_loopw [5, 6, 7] (fun all ends iv wr => ∃ k : Nat, k ≤ l.length ∧ k ≤ 20 ∧ all = .string ⟨(fl l k).toArray⟩ ∧ Hid (wr.ownsRow w.heap.size 3 1 ends k (rowE l k)) ∧ iv = .int .i64 (k : Int) ∧ Hid (∀ q (h : q < l.length), q < k → l[q].size ≤ 4096) ∧ Hid (Below w.heap.size w wr)) (fun _ _ iv _ => 20 - (intOf iv).toNat)
  case atStart => exact ⟨0, by omega, by omega, rfl, ⟨rfl, .inl ⟨rfl, rfl⟩⟩, rfl, fun q _ h => absurd h (by omega), B1.out⟩
  case round =>
    obtain ⟨k, hk, hk20, rfl, hown, rfl, hsm, hbel⟩ := hrel
    clear B1
    by_cases hgo : k < l.length ∧ k < 20
    · obtain ⟨hkl, hk2⟩ := hgo
      have p1 : (k : Int) < (l.length : Int) := by omega
      have p2 : (k : Int) < 20 := by omega
      obtain ⟨ad, rfl, hadl, hcells⟩ := HSt.out (by omega)
      have hcell : wr.cell? (ad.add k) = some (.string l[k]) := (cell_kept hbel.out _ (by rw [st_block]; exact hadl)).trans (hcells k hkl)
      have hsz : l[k].size ≤ 140737488351232 := HMx.out _ (List.getElem_mem _)
      have hF := fun W => HFh.out l[k] W hsz
      by_cases hlong : 4096 < l[k].size
      · rw [frame_long hlong] at hF
        have F1 := Lib.hid hF
        have HC := Lib.hid hcell
        have HAd := Lib.hid hadl
        generalize l[k] = t at *
        have pl : (4096 : Int) < (t.size : Int) := by omega
        clear hF hcells hlong
        go_upto_region 99 with fail
        refine (F1.out _).mono ?_
        rintro e w2 ⟨rfl, hb⟩
        have hcell2 : w2.cell? (ad.add k) = some (.string t) := (cell_kept hb _ (by rw [st_block]; exact Nat.lt_of_lt_of_le HAd.out hbel.out.size)).trans HC.out
        have B2 := Lib.hid (hbel.out.trans (hb.mono hbel.out.size))
        clear hb hown hcell
        go_upto_region 99 with fail
        go_ret
        exact ⟨rfl, B2.out⟩
      · have hfit : l[k].size ≤ 4096 := by omega
        rw [frame_fits hfit] at hF
        have F1 := Lib.hid hF
        have hen := en_succ hkl
        have henk := en_le k hk hsm.out
        have hfl : (⟨(fl l k).toArray⟩ : ByteArray) ++ frameB l[k] = ⟨(fl l (k + 1)).toArray⟩ := by
          rw [fl_succ hkl]
          exact ByteArray.mk_append_mk ..
        have hz := frameB_size l[k]
        have hadd := fun W => run_string_add_sum (P := Try.prog) W ⟨(fl l k).toArray⟩ (frameB l[k]) (by rw [cat_size, hz]; show en l k + _ ≤ _; omega)
        rw [hfl] at hadd
        have hzS : (⟨(fl l (k + 1)).toArray⟩ : ByteArray).size = en l (k + 1) := by rw [cat_size]; rfl
        have HSm2 : Hid (∀ q (h : q < l.length), q < k + 1 → l[q].size ≤ 4096) := fun q h h2 => by
          by_cases e : q = k
          · subst e; exact hfit
          · exact hsm.out q h (by omega)
        have HRow := Lib.hid (rowE_succ l k)
        have HAd := Lib.hid hadl
        have hEb : en l (k + 1) ≤ 100000 := by omega
        have HC := Lib.hid hcell
        generalize (⟨(fl l k).toArray⟩ : ByteArray) = S at *
        obtain ⟨S2, hS2⟩ : ∃ S2 : ByteArray, S2 = ⟨(fl l (k + 1)).toArray⟩ := ⟨_, rfl⟩
        rw [← hS2] at hadd hzS
        have HS2 := Lib.hid hS2
        clear hS2
        generalize frameB l[k] = FB at *
        generalize l[k] = t at *
        generalize en l (k + 1) = EN at *
        have hts : (t.size : Int) ≤ 4096 := by omega
        clear hF hcells hlong hen henk hfl hsz
        go_upto_region 99 with fail
        refine (F1.out _).mono ?_
        rintro e w2 ⟨rfl, hb⟩
        have hcell2 : w2.cell? (ad.add k) = some (.string t) := (cell_kept hb _ (by rw [st_block]; exact Nat.lt_of_lt_of_le HAd.out hbel.out.size)).trans HC.out
        have B2 := Lib.hid (hbel.out.trans (hb.mono hbel.out.size))
        have O2 := Lib.hid (st_keep hown.out hb)
        clear hb hown hcell hbel
        go_wp2_with (at_builtin; refine wpList_append_own _ rfl _ _ 38 rfl w.heap.size 3 i0 (.int .i64 0) 1 8 Try.underlying38 hi hz0 hz1 hz2 rfl (by decide) _ _ _ rfl (O2.out.alloc _) ⟨w2.heap.size, 0, none⟩ 1 1 [.int .i64 (EN : Int)] rfl rfl ?c1 ?c2 ?c3 ?c4 ?c5 ?_)
        case c1 => exact cell_one_new _ _ _
        case c2 => intro q hq; simp at hq; subst hq; rfl
        case c3 => unfold maxLen; omega
        case c4 => omega
        case c5 => have := B2.out.size; simp; omega
        intro v' w5 hown' hgrow _
        rw [← HRow.out] at hown'
        have HO5 := Lib.hid hown'
        have B5 := Lib.hid (below_append O2.out B2.out (Nat.le_refl _) hgrow)
        clear hown' hgrow O2 B2 hcell2
        go_upto_region 99 with fail
        go_roundw
        case rel => exact ⟨k + 1, by omega, by omega, by rw [HS2.out], HO5.out, by go_num, HSm2.out, B5.out⟩
        case measure => simp [intOf]; omega
    · have hor : k = l.length ∨ (k < l.length ∧ k = 20) := by omega
      obtain ⟨E, cp, rfl, hE⟩ := row_of_own hown.out
      have HE := Lib.hid hE
      have hkI : (k : Int) ≤ 20 := by omega
      have henk := en_le k hk hsm.out
      have hzS : (⟨(fl l k).toArray⟩ : ByteArray).size = en l k := by rw [cat_size]; rfl
      have hadd := fun W => run_string_add_sum (P := Try.prog) W ⟨(fl l k).toArray⟩ more (by rw [hzS]; omega)
      have hzM : ((⟨(fl l k).toArray⟩ : ByteArray) ++ more).size ≤ 1000000000000000 := by rw [ByteArray.size_append, hzS]; omega
      have hNx : Hid (∀ q (h : q < k) W, Calls Try.prog 17 #[.string ((⟨(fl l k).toArray⟩ : ByteArray) ++ more), .int .i64 ((en l q : Nat) : Int)] W fun e w' => e = .returned (.tuple #[.string (l[q]'(by omega)), .int .i64 ((en l (q + 1) : Nat) : Int), .int .i64 0]) ∧ Below W.heap.size W w') := fun q h W => by
        have hle : en l q ≤ en l k := by
          obtain ⟨d, rfl⟩ : ∃ d, k = q + d := ⟨k - q, by omega⟩
          exact en_mono q d hk
        have := HNh.out ((⟨(fl l k).toArray⟩ : ByteArray) ++ more) ((en l q : Nat) : Int) W hzM ⟨by omega, by omega⟩
        rw [next_found more h hk (hsm.out q (by omega) h)] at this
        exact this
      have hAl : Hid (∀ W, Calls Try.prog 19 #[.string ⟨(fl l k).toArray⟩] W fun e w' => ∃ (A : Option Addr) (c : Nat), e = .returned (.tuple #[.slice A k c, .int .i64 ((en l k : Nat) : Int), .int .i64 0]) ∧ StrsAt w' A (l.take k) ∧ Below W.heap.size W w') := fun W => by
        refine (HLh.out ⟨(fl l k).toArray⟩ W (by rw [hzS]; omega)).mono ?_
        rintro e w' ⟨A', c', rfl, h2, h3⟩
        rw [all_found hk hsm.out] at h2 ⊢
        exact ⟨A', c', by rw [List.length_take, Nat.min_eq_left hk]; rfl, h2, h3⟩
      have hTk : (l.take k).length = k := by rw [List.length_take, Nat.min_eq_left hk]
      generalize (⟨(fl l k).toArray⟩ : ByteArray) ++ more = SM at *
      generalize (⟨(fl l k).toArray⟩ : ByteArray) = S at *
      have hEn0 := en_zero l
      have HEk := Lib.hid henk
      clear hown hE hgo hsm hzM HNh HLh HFh HMx henk
      have hcase : (¬ (k : Int) < (l.length : Int)) ∨ ((k : Int) < (l.length : Int) ∧ ¬ (k : Int) < 20) := by omega
      clear hor
      rcases hcase with p1 | ⟨p1, p2⟩
      all_goals
        go_upto_region 99 with fail
        try clear p1
        try clear p2
        obtain ⟨wo, rfl⟩ : ∃ wo : World, wo = wr := ⟨_, rfl⟩
        go_loopw [10, 70] (fun at_ iv W => ∃ q : Nat, q ≤ k ∧ iv = .int .i64 (q : Int) ∧ at_ = .int .i64 ((en l q : Nat) : Int) ∧ Hid (Below wo.heap.size wo W)) (fun _ iv _ => k - (intOf iv).toNat)
        case atStart => exact ⟨0, by omega, rfl, rfl, Below.refl _ _⟩
        case round =>
          obtain ⟨q, hq, rfl, rfl, hb2⟩ := hrel
          have B3 := Lib.hid (hbel.out.trans (hb2.out.mono hbel.out.size))
          by_cases hqk : q < k
          · have r1 : (q : Int) < (k : Int) := by omega
            have hql : q < l.length := by omega
            have r2 : (q : Int) < (l.length : Int) := by omega
            obtain ⟨ae, rfl, hae, hce⟩ := HE.out q _ (rowE_at l k q hqk)
            obtain ⟨ad, rfl, had, hcd⟩ := HSt.out (by omega)
            have hc1 := (cell_kept hb2.out (ae.add q) (by rw [st_block]; exact hae)).trans hce
            have hc2 : wr.cell? (ad.add q) = some (.string l[q]) := (cell_kept B3.out (ad.add q) (by rw [st_block]; exact had)).trans (hcd q hql)
            have HX := Lib.hid (hNx.out q hqk)
            have HC2 := Lib.hid hc2
            have Had := Lib.hid (Nat.lt_of_lt_of_le had B3.out.size)
            have ht := text_eq l[q]
            clear hce hcd hae had hc2
            generalize l[q] = t at *
            generalize hEq : en l (q + 1) = EQ at *
            have HEq := Lib.hid hEq
            clear hEq
            go_upto_region 99 with fail
            refine (HX.out _).mono ?_
            rintro e w4 ⟨rfl, hb⟩
            have hc4 := (cell_kept hb (ad.add q) (by rw [st_block]; exact Had.out)).trans HC2.out
            have B4 := Lib.hid (hb2.out.trans (hb.mono hb2.out.size))
            clear hb hc1 hb2 B3
            go_upto_region 99 with fail
            go_roundw
            case rel => exact ⟨q + 1, by omega, by go_num, by rw [HEq.out], B4.out⟩
            case measure => simp [intOf]; omega
          · obtain rfl : q = k := by omega
            have HX := Lib.hid (hAl.out wr)
            clear hNx HE
            have hEk := HEk.out
            generalize hEN : en l q = EN at *
            clear hEN
            go_upto_region 99 with fail
            refine HX.out.mono ?_
            rintro e w4 ⟨A2, c2, rfl, hst2, hb⟩
            have B4 := Lib.hid (B3.out.trans (hb.mono B3.out.size))
            have HS2 := Lib.hid hst2
            clear hb hst2 HX hb2 B3
            have HSm := fun (A3 : Option Addr) (c3 : Nat) (h3 : StrsAt w4 A3 (l.take q)) => same_any A2 A3 c2 c3 (l.take q) (l.take q) w4 HS2.out h3 (by rw [hTk]; omega)
            have hdd : decide (l.take q = l.take q) = true := by simp
            rw [hdd, hTk] at HSm
            have hqc : (q : Int) ≤ (c : Int) := by have := HLC.out; omega
            cases A with
            | none =>
              obtain ⟨hl0, hc0⟩ := HNil.out rfl
              have hq0 : q = 0 := by rw [hl0] at hk; simpa using hk
              have HSx := Lib.hid (HSm none 0 (fun h => absurd h (by rw [hTk]; omega)))
              subst hc0 hq0
              clear HSm hTk hk
              go_upto_region 99 with fail
              refine HSx.out.mono ?_
              rintro e w5 ⟨rfl, d, rfl⟩
              go_upto_region 99 with fail
              go_ret
              exact ⟨rfl, below_drewN B4.out d⟩
            | some ad =>
              have HSx := Lib.hid (HSm (some ad) c (fun hp => by
                obtain ⟨ad', h1, h2, h3⟩ := HSt.out (by omega)
                cases h1
                exact ⟨ad, rfl, Nat.lt_of_lt_of_le h2 B4.out.size, fun i hi => by
                  rw [cell_kept B4.out (ad.add i) (by rw [st_block]; exact h2), h3 i (by rw [hTk] at hi; omega), List.getElem_take]⟩))
              clear HSm hTk
              go_upto_region 99 with fail
              refine HSx.out.mono ?_
              rintro e w5 ⟨rfl, d, rfl⟩
              go_upto_region 99 with fail
              go_ret
              exact ⟨rfl, below_drewN B4.out d⟩

end Su
end Go.Proofs.Ytlamjkagjkmbeaa
