/- The walk of the law that the parity of any shards is that of the document; no condition but the form's reach. -/
import Derived.Test.YtmnciipfepeccaaStCodes
import Derived.Test.YtmnciipfepeccaaStJoins
namespace Go.Proofs.Ytmnciipfepeccaa
open Go.RowKit

set_option maxRecDepth 20000 in
set_option maxHeartbeats 8000000 in
theorem parity_walk (k m : Int) (v : Value) (l : List ByteArray) (w : World) (hv : TextsOf w v l) :
    Calls Try.prog 8 #[.int .i64 k, .int .i64 m, v] w fun e w' => e = .returned (.bool true) ∧ Below w.heap.size w w' := by
  obtain ⟨r, q, hl, hb1, hb2⟩ := par_both k m l
  have HB1 := Lib.hid hb1
  have HB2 := Lib.hid hb2
  have HV := Lib.hid hv
  obtain ⟨A, c, hvA, hst, _, hn16, hmax⟩ := hv
  have hn : l.length ≤ 9223372036854775806 := by omega
  have HP := Lib.hid (fun A c w h => Parity_any k m A c l w h (by omega) (fun s hs => by have := hmax s hs; omega))
  have HR := Lib.hid (fun A c w h => rParity_any k m A c l w h hn (fun s hs => by have := hmax s hs; omega))
  have HMx := Lib.hid hmax
  have HVA := Lib.hid hvA
  have HSt := Lib.hid hst
  clear hb1 hb2 hvA hst hn16 hmax
  cases hc : codeB k m
  · have HC := Lib.hid hc
    clear hc
    go_enter Try.func8, Try.ntmps8
    go_wp2_with fail
    refine (rcode_any _ _ _).mono ?_
    rintro e w1 ⟨rfl, rfl⟩
    rw [HC.out]
    go_wp2_with fail
    refine (lend_any v l _ HV.out).mono ?_
    rintro e w2 ⟨g, cap, rfl, hown, hb⟩
    have O2 := Lib.hid hown
    have B2 := Lib.hid hb
    have V2 := Lib.hid (HV.out.below hb)
    clear hown hb
    go_wp2_with fail
    refine (HP.out (some ⟨g, 0, none⟩) cap _ (lent_strs O2.out)).mono ?_
    rintro e w3 ⟨hans, hb⟩
    obtain ⟨A, c, rfl, hst⟩ := HB1.out _ _ _ hans
    have S3 := Lib.hid hst
    have O3 := Lib.hid (st_keep O2.out hb)
    have V3 := Lib.hid (V2.out.below hb)
    have B3 := Lib.hid (B2.out.trans (hb.mono B2.out.size))
    clear hans hst hb O2 V2 B2
    go_wp2_with fail
    obtain ⟨A0, c0, rfl, hst0, _⟩ := V3.out
    refine (HR.out A0 c0 _ hst0).mono ?_
    rintro e w4 ⟨hans, hb⟩
    obtain ⟨A2, c2, rfl, hst⟩ := HB2.out _ _ hans
    have S4 := Lib.hid (S3.out.below hb)
    have R4 := Lib.hid hst
    have O4 := Lib.hid (st_keep O3.out hb)
    have V4 := Lib.hid (V3.out.below hb)
    have B4 := Lib.hid (B3.out.trans (hb.mono B3.out.size))
    clear hans hst hb hst0 S3 O3 V3 B3
    go_wp2_with fail
    have hsm := same_any A A2 c c2 r r w4 S4.out R4.out (by omega)
    rw [show decide (r = r) = true by simp] at hsm
    have HSM := Lib.hid hsm
    clear hsm
    refine HSM.out.mono ?_
    rintro e w5 ⟨rfl, d, rfl⟩
    have V5 := Lib.hid (V4.out.below (below_drewN (Below.refl w4.heap.size w4) d))
    have O5 := Lib.hid (st_keep O4.out (below_drewN (Below.refl w4.heap.size w4) d))
    go_wp2_with fail
    refine (kept_any _ g cap _ l _ V5.out O5.out).mono ?_
    rintro e w6 ⟨rfl, d2, rfl⟩
    go_wp2_with fail
    refine (stworks _).mono ?_
    rintro e w7 ⟨rfl, hb⟩
    have B7 := Lib.hid ((below_drewN B4.out (d + d2)).trans (hb.mono (by have := B4.out.size; simpa using this)))
    clear hb
    go_wp2_with fail
    go_ret
    exact ⟨rfl, B7.out⟩
  · have HC := Lib.hid hc
    obtain ⟨a, b, rfl, rfl, h1, h2⟩ := codeB_nat hc
    clear hc
    by_cases h3 : 12 < a
    · have h3' : (12 : Int) < (a : Int) := by omega
      clear h3
      go_enter Try.func8, Try.ntmps8
      go_wp2_with fail
      refine (rcode_any _ _ _).mono ?_
      rintro e w1 ⟨rfl, rfl⟩
      rw [HC.out]
      go_wp2_with fail
      refine (stworks _).mono ?_
      rintro e w6 ⟨rfl, hb⟩
      have B6 := Lib.hid hb
      clear hb
      go_wp2_with fail
      go_ret
      exact ⟨rfl, B6.out⟩
    · have h3' : (a : Int) ≤ 12 := by omega
      clear h3
      by_cases h4 : 12 < b
      · have h4' : (12 : Int) < (b : Int) := by omega
        clear h4
        go_enter Try.func8, Try.ntmps8
        go_wp2_with fail
        refine (rcode_any _ _ _).mono ?_
        rintro e w1 ⟨rfl, rfl⟩
        rw [HC.out]
        go_wp2_with fail
        refine (stworks _).mono ?_
        rintro e w6 ⟨rfl, hb⟩
        have B6 := Lib.hid hb
        clear hb
        go_wp2_with fail
        go_ret
        exact ⟨rfl, B6.out⟩
      · have h4' : (b : Int) ≤ 12 := by omega
        clear h4
        by_cases h5 : l.length = a
        · have q5 : ((l.length : Int) == (a : Int)) = true := by simp [h5]
          have hpos : 0 < l.length := by omega
          have p0 : (0 : Int) < (l.length : Int) := by omega
          obtain ⟨ad, rfl, hab, hcl⟩ := HSt.out hpos
          have c00 : w.cell? ad = some (.string (l[0]'hpos)) := by have := hcl 0 hpos; rwa [add_zero'] at this
          have hm0 := HMx.out l[0] (List.getElem_mem _)
          have hvv := HVA.out
          subst hvv
          clear hcl h5
          by_cases h6 : 300 < l[0].size
          · have h6' : (300 : Int) < (l[0].size : Int) := by omega
            clear h6
            by_cases h7 : l[0].size ≤ 2052
            · have h7' : (l[0].size : Int) ≤ 2052 := by omega
              clear h7
              go_enter Try.func8, Try.ntmps8
              go_wp2_with fail
              refine (rcode_any _ _ _).mono ?_
              rintro e w1 ⟨rfl, rfl⟩
              rw [HC.out]
              go_wp2_with fail
              refine (stworks _).mono ?_
              rintro e w6 ⟨rfl, hb⟩
              have B6 := Lib.hid hb
              clear hb
              go_wp2_with fail
              go_ret
              exact ⟨rfl, B6.out⟩
            · have h7' : (2052 : Int) < (l[0].size : Int) := by omega
              clear h7
              go_enter Try.func8, Try.ntmps8
              go_wp2_with fail
              refine (rcode_any _ _ _).mono ?_
              rintro e w1 ⟨rfl, rfl⟩
              rw [HC.out]
              go_wp2_with fail
              clear c00
              refine (lend_any _ l _ HV.out).mono ?_
              rintro e w2 ⟨g, cap, rfl, hown, hb⟩
              have O2 := Lib.hid hown
              have B2 := Lib.hid hb
              have V2 := Lib.hid (HV.out.below hb)
              clear hown hb
              go_wp2_with fail
              refine (HP.out (some ⟨g, 0, none⟩) cap _ (lent_strs O2.out)).mono ?_
              rintro e w3 ⟨hans, hb⟩
              obtain ⟨A, c, rfl, hst⟩ := HB1.out _ _ _ hans
              have S3 := Lib.hid hst
              have O3 := Lib.hid (st_keep O2.out hb)
              have V3 := Lib.hid (V2.out.below hb)
              have B3 := Lib.hid (B2.out.trans (hb.mono B2.out.size))
              clear hans hst hb O2 V2 B2
              go_wp2_with fail
              obtain ⟨A0, c0, hA0, hst0, _⟩ := V3.out
              simp only [Value.slice.injEq] at hA0
              obtain ⟨rfl, -, rfl⟩ := hA0
              refine (HR.out _ _ _ hst0).mono ?_
              rintro e w4 ⟨hans, hb⟩
              obtain ⟨A2, c2, rfl, hst⟩ := HB2.out _ _ hans
              have S4 := Lib.hid (S3.out.below hb)
              have R4 := Lib.hid hst
              have O4 := Lib.hid (st_keep O3.out hb)
              have V4 := Lib.hid (V3.out.below hb)
              have B4 := Lib.hid (B3.out.trans (hb.mono B3.out.size))
              clear hans hst hb hst0 S3 O3 V3 B3
              go_wp2_with fail
              have hsm := same_any A A2 c c2 r r w4 S4.out R4.out (by omega)
              rw [show decide (r = r) = true by simp] at hsm
              have HSM := Lib.hid hsm
              clear hsm
              refine HSM.out.mono ?_
              rintro e w5 ⟨rfl, d, rfl⟩
              have V5 := Lib.hid (V4.out.below (below_drewN (Below.refl w4.heap.size w4) d))
              have O5 := Lib.hid (st_keep O4.out (below_drewN (Below.refl w4.heap.size w4) d))
              go_wp2_with fail
              refine (kept_any _ g cap _ l _ V5.out O5.out).mono ?_
              rintro e w6 ⟨rfl, d2, rfl⟩
              go_wp2_with fail
              refine (stworks _).mono ?_
              rintro e w7 ⟨rfl, hb⟩
              have B7 := Lib.hid ((below_drewN B4.out (d + d2)).trans (hb.mono (by have := B4.out.size; simpa using this)))
              clear hb
              go_wp2_with fail
              go_ret
              exact ⟨rfl, B7.out⟩
          · have h6' : (l[0].size : Int) ≤ 300 := by omega
            clear h6
            go_enter Try.func8, Try.ntmps8
            go_wp2_with fail
            refine (rcode_any _ _ _).mono ?_
            rintro e w1 ⟨rfl, rfl⟩
            rw [HC.out]
            go_wp2_with fail
            clear c00
            refine (lend_any _ l _ HV.out).mono ?_
            rintro e w2 ⟨g, cap, rfl, hown, hb⟩
            have O2 := Lib.hid hown
            have B2 := Lib.hid hb
            have V2 := Lib.hid (HV.out.below hb)
            clear hown hb
            go_wp2_with fail
            refine (HP.out (some ⟨g, 0, none⟩) cap _ (lent_strs O2.out)).mono ?_
            rintro e w3 ⟨hans, hb⟩
            obtain ⟨A, c, rfl, hst⟩ := HB1.out _ _ _ hans
            have S3 := Lib.hid hst
            have O3 := Lib.hid (st_keep O2.out hb)
            have V3 := Lib.hid (V2.out.below hb)
            have B3 := Lib.hid (B2.out.trans (hb.mono B2.out.size))
            clear hans hst hb O2 V2 B2
            go_wp2_with fail
            obtain ⟨A0, c0, hA0, hst0, _⟩ := V3.out
            simp only [Value.slice.injEq] at hA0
            obtain ⟨rfl, -, rfl⟩ := hA0
            refine (HR.out _ _ _ hst0).mono ?_
            rintro e w4 ⟨hans, hb⟩
            obtain ⟨A2, c2, rfl, hst⟩ := HB2.out _ _ hans
            have S4 := Lib.hid (S3.out.below hb)
            have R4 := Lib.hid hst
            have O4 := Lib.hid (st_keep O3.out hb)
            have V4 := Lib.hid (V3.out.below hb)
            have B4 := Lib.hid (B3.out.trans (hb.mono B3.out.size))
            clear hans hst hb hst0 S3 O3 V3 B3
            go_wp2_with fail
            have hsm := same_any A A2 c c2 r r w4 S4.out R4.out (by omega)
            rw [show decide (r = r) = true by simp] at hsm
            have HSM := Lib.hid hsm
            clear hsm
            refine HSM.out.mono ?_
            rintro e w5 ⟨rfl, d, rfl⟩
            have V5 := Lib.hid (V4.out.below (below_drewN (Below.refl w4.heap.size w4) d))
            have O5 := Lib.hid (st_keep O4.out (below_drewN (Below.refl w4.heap.size w4) d))
            go_wp2_with fail
            refine (kept_any _ g cap _ l _ V5.out O5.out).mono ?_
            rintro e w6 ⟨rfl, d2, rfl⟩
            go_wp2_with fail
            refine (stworks _).mono ?_
            rintro e w7 ⟨rfl, hb⟩
            have B7 := Lib.hid ((below_drewN B4.out (d + d2)).trans (hb.mono (by have := B4.out.size; simpa using this)))
            clear hb
            go_wp2_with fail
            go_ret
            exact ⟨rfl, B7.out⟩
        · have q5 : ((l.length : Int) == (a : Int)) = false := by simp; omega
          have hvv := HVA.out
          subst hvv
          clear h5
          go_enter Try.func8, Try.ntmps8
          go_wp2_with fail
          refine (rcode_any _ _ _).mono ?_
          rintro e w1 ⟨rfl, rfl⟩
          rw [HC.out]
          go_wp2_with fail
          refine (lend_any _ l _ HV.out).mono ?_
          rintro e w2 ⟨g, cap, rfl, hown, hb⟩
          have O2 := Lib.hid hown
          have B2 := Lib.hid hb
          have V2 := Lib.hid (HV.out.below hb)
          clear hown hb
          go_wp2_with fail
          refine (HP.out (some ⟨g, 0, none⟩) cap _ (lent_strs O2.out)).mono ?_
          rintro e w3 ⟨hans, hb⟩
          obtain ⟨A, c, rfl, hst⟩ := HB1.out _ _ _ hans
          have S3 := Lib.hid hst
          have O3 := Lib.hid (st_keep O2.out hb)
          have V3 := Lib.hid (V2.out.below hb)
          have B3 := Lib.hid (B2.out.trans (hb.mono B2.out.size))
          clear hans hst hb O2 V2 B2
          go_wp2_with fail
          obtain ⟨A0, c0, hA0, hst0, _⟩ := V3.out
          simp only [Value.slice.injEq] at hA0
          obtain ⟨rfl, -, rfl⟩ := hA0
          refine (HR.out _ _ _ hst0).mono ?_
          rintro e w4 ⟨hans, hb⟩
          obtain ⟨A2, c2, rfl, hst⟩ := HB2.out _ _ hans
          have S4 := Lib.hid (S3.out.below hb)
          have R4 := Lib.hid hst
          have O4 := Lib.hid (st_keep O3.out hb)
          have V4 := Lib.hid (V3.out.below hb)
          have B4 := Lib.hid (B3.out.trans (hb.mono B3.out.size))
          clear hans hst hb hst0 S3 O3 V3 B3
          go_wp2_with fail
          have hsm := same_any A A2 c c2 r r w4 S4.out R4.out (by omega)
          rw [show decide (r = r) = true by simp] at hsm
          have HSM := Lib.hid hsm
          clear hsm
          refine HSM.out.mono ?_
          rintro e w5 ⟨rfl, d, rfl⟩
          have V5 := Lib.hid (V4.out.below (below_drewN (Below.refl w4.heap.size w4) d))
          have O5 := Lib.hid (st_keep O4.out (below_drewN (Below.refl w4.heap.size w4) d))
          go_wp2_with fail
          refine (kept_any _ g cap _ l _ V5.out O5.out).mono ?_
          rintro e w6 ⟨rfl, d2, rfl⟩
          go_wp2_with fail
          refine (stworks _).mono ?_
          rintro e w7 ⟨rfl, hb⟩
          have B7 := Lib.hid ((below_drewN B4.out (d + d2)).trans (hb.mono (by have := B4.out.size; simpa using this)))
          clear hb
          go_wp2_with fail
          go_ret
          exact ⟨rfl, B7.out⟩

end Go.Proofs.Ytmnciipfepeccaa
