/- The document's queue: Take; no condition but the range. -/
import Derived.Test.YtpjoiepdcilcnaaDuRef2
namespace Go.Proofs.Ytpjoiepdcilcnaa
namespace Du
open Go.RowKit Bk

attribute [local go_sem ↓] Go.wp_at_zero Go.wp_at_succ
attribute [local go_sem] floatUpon pick

def bV : Option Nat → Int
  | none => -1
  | some b => (b : Int)

theorem best_succ (L : List Tk) (t : Int) (k : Nat) : bestK L t (k + 1) = if (decide ((g L k).a ≤ t) && ahB L k (bestK L t k)) = true then some k else bestK L t k := by
  conv => lhs; unfold bestK
  by_cases h : (g L k).a ≤ t <;> simp [h]

section
variable {W W' : World} {base : Nat} {v : Value} {l : List Tk}

theorem d_cells {A : Option Addr} {c : Nat} (h : DRow W base (.slice A l.length c) l) {k : Nat} (hk : k < l.length) : ∃ p, A = some ⟨p, 0, none⟩ ∧ W.cell? ⟨p, k * 4, none⟩ = some (.int .i64 (g l k).a) ∧ W.cell? ⟨p, k * 4 + 1, none⟩ = some (.int .i64 (g l k).u) ∧ W.cell? ⟨p, k * 4 + 2, none⟩ = some (.int .i64 (g l k).i) ∧ W.cell? ⟨p, k * 4 + 3, none⟩ = some (.int .i64 (g l k).n) := by
  obtain ⟨p, cap, rest, e, _, hc, _⟩ := h.blk (by omega)
  simp only [Value.slice.injEq] at e
  exact ⟨p, e.1, dcell_of hc hk (j := 0) (by omega) rfl, dcell_of hc hk (j := 1) (by omega) rfl, dcell_of hc hk (j := 2) (by omega) rfl, dcell_of hc hk (j := 3) (by omega) rfl⟩

set_option maxRecDepth 20000 in
set_option maxHeartbeats 4000000 in
theorem rtake_any {r : Nat} {D : Ds} (h : RQ W base r v D) (h10 : D.L.length ≤ 1024) : Calls Try.prog 14 #[.pointer (some ⟨r, 0, none⟩)] W fun e W' => e = .returned (.tuple #[.int .i64 (takeD D).2.1, .bool (takeD D).2.2]) ∧ RP W base r v (takeD D).1 W' := by
  obtain ⟨A, c, hv⟩ := h.row.form
  have HV := Lib.hid hv
  have HQ := Lib.hid h
  clear h hv
  go_enter Try.func14, Try.ntmps14
  go_wp2_with fail
  go_loopw [4, 5] (fun m i wr => ∃ j : Nat, j ≤ D.L.length ∧ m = .int .i64 (bV (bestK D.L D.tick j)) ∧ i = .int .i64 (j : Int) ∧ Hid (Below W.heap.size W wr)) (fun _ i _ => D.L.length - (intOf i).toNat)
  case atStart => exact ⟨0, by omega, rfl, rfl, Below.refl _ _⟩
  case round =>
    obtain ⟨j, hj, rfl, rfl, hbel⟩ := hrel
    have hq := HQ.out.below hbel.out
    have k0 := hq.cel.cell (i := 0) rfl
    have k1 := hq.cel.cell (i := 1) rfl
    rw [HV.out] at k0
    have hrow := hq.row
    rw [HV.out] at hrow
    by_cases hlt : j < D.L.length
    · obtain ⟨p, rfl, a0, a1, a2, a3⟩ := d_cells hrow hlt
      have p1 : (j : Int) < (D.L.length : Int) := by omega
      have p2 : j < D.L.length := hlt
      obtain ⟨cb, hcb⟩ : ∃ cb, cb = (decide ((g D.L j).a ≤ D.tick) && ahB D.L j (bestK D.L D.tick j)) := ⟨_, rfl⟩
      have HB := Lib.hid hcb
      have HRow := Lib.hid hrow
      clear hq hrow
      obtain ⟨m0, hm0⟩ : ∃ m0, m0 = bV (bestK D.L D.tick j) := ⟨_, rfl⟩
      rw [← hm0]
      go_upto_region 5 with fail
      go_cut [49] (fun s wx => s = .bool cb ∧ Hid (Below W.heap.size W wx))
      case first =>
        by_cases hd : (g D.L j).a ≤ D.tick
        · have q0 : decide ((g D.L j).a ≤ D.tick) = true := decide_eq_true hd
          cases hb : bestK D.L D.tick j with
          | none =>
            rw [hb, q0] at hcb
            obtain rfl : cb = true := hcb
            rw [hb] at hm0
            obtain rfl : m0 = -1 := hm0
            clear hd hb
            go_quiet (fail)
            go_wp2_with fail
            go_meet
            exact ⟨rfl, hbel.out.trans ⟨rfl, rfl, rfl, Nat.le_refl _, fun _ _ => rfl⟩⟩
          | some b =>
            rw [hb, q0] at hcb
            obtain ⟨hbj, _, _⟩ := best_some hb
            obtain ⟨p', e', b0, b1, b2, b3⟩ := d_cells HRow.out (k := b) (by omega)
            simp only [Option.some.injEq, Addr.mk.injEq, and_true] at e'
            subst e'
            rw [hb] at hm0
            obtain rfl : m0 = (b : Int) := hm0

            have q1 : decide ((b : Int) < 0) = false := decide_eq_false (by omega)
            have p3 : (b : Int) < (D.L.length : Int) := by omega
            have p4 : (0 : Int) ≤ (b : Int) := by omega
            have HAh := Lib.hid (fun V => ahead_any (g D.L j) (g D.L b) V)
            have HCb : Hid (cb = ltR (g D.L j) (g D.L b)) := Lib.hid hcb
            clear hd hb hcb
            have HW0 := Lib.hid (And.intro (HQ.out.below hbel.out) HRow.out)
            clear k0 k1 a0 a1 a2 a3 b0 b1 b2 b3
            refine wp_region_said 34 [16, 17, 18, 19, 20, 21, 22, 23, 24, 25, 26, 27, 28, 29, 30, 31, 32, 33, 34, 35, 36, 37, 38, 39, 40, 41, 42, 43, 44, 45, 46, 47, 48, 49]
              [.is (.pointer (some ⟨r, 0, none⟩)), .is (.pointer (some ⟨r, 0, none⟩)), .is (.pointer (some ⟨r, 0, none⟩)), .is (.slice (some ⟨p, 0, none⟩) D.L.length c), .is (.int .i64 (j : Int)), .is (.pointer (some ⟨p, j * 4, none⟩)), .is (.pointer (some ⟨p, j * 4, none⟩)), .is (.int .i64 (g D.L j).a), .is (.pointer (some ⟨r, 0, none⟩)), .is (.pointer (some ⟨r, 0, none⟩)), .is (.pointer (some ⟨r, 1, none⟩)), .is (.int .i64 D.tick), .is (.bool true), .is (.bool true), .is (.int .i64 (b : Int)), .is (.bool false), .is (.bool false), .is (.pointer (some ⟨r, 0, none⟩)), .is (.pointer (some ⟨r, 0, none⟩)), .is (.pointer (some ⟨r, 0, none⟩)), .is (.slice (some ⟨p, 0, none⟩) D.L.length c), .is (.int .i64 (j : Int)), .is (.pointer (some ⟨p, j * 4, none⟩)), .is (.agg #[.int .i64 (g D.L j).a, .int .i64 (g D.L j).u, .int .i64 (g D.L j).i, .int .i64 (g D.L j).n]), .is (.pointer (some ⟨r, 0, none⟩)), .is (.pointer (some ⟨r, 0, none⟩)), .is (.pointer (some ⟨r, 0, none⟩)), .is (.slice (some ⟨p, 0, none⟩) D.L.length c), .is (.int .i64 (b : Int)), .is (.pointer (some ⟨p, b * 4, none⟩)), .is (.agg #[.int .i64 (g D.L b).a, .int .i64 (g D.L b).u, .int .i64 (g D.L b).i, .int .i64 (g D.L b).n]), .is (.bool (ltR (g D.L j) (g D.L b))), .is (.bool (ltR (g D.L j) (g D.L b))), .is (.bool (ltR (g D.L j) (g D.L b)))]
              (fun V => Below wr.heap.size wr V) (by kernel_rfl) (by kernel_rfl) (by kernel_rfl) (by kernel_rfl) (by kernel_rfl) (fun W W' h hb => h.trans (hb.mono h.size)) (Below.refl _ _) ?steps ?last
            case steps =>
              simp only [List.take_succ_cons, List.take_zero]
              refine ⟨?_, ?_, ?_, ?_, ?_, ?_, ?_, ?_, ?_, ?_, ?_, ?_, ?_, ?_, ?_, ?_, ?_, ?_, ?_, ?_, ?_, ?_, ?_, ?_, ?_, ?_, ?_, ?_, ?_, ?_, ?_, ?_, ?_, ?_, trivial⟩
              all_goals
                intro vs V ρ hρ hc hf hg hI hH hd R' hR
                have k0 := (HW0.out.1.below hI).cel.cell (i := 0) rfl
                have k1 := (HW0.out.1.below hI).cel.cell (i := 1) rfl
                rw [HV.out] at k0
                obtain ⟨p1', e1, a0, a1, a2, a3⟩ := d_cells (show DRow V base _ D.L from st_keep HW0.out.2 hI) (k := j) p2
                simp only [Option.some.injEq, Addr.mk.injEq, and_true] at e1
                subst e1
                obtain ⟨p2', e2, b0, b1, b2, b3⟩ := d_cells (show DRow V base _ D.L from st_keep HW0.out.2 hI) (k := b) (by omega)
                simp only [Option.some.injEq, Addr.mk.injEq, and_true] at e2
                subst e2
                have HR := Lib.hid hR
                simp [depsOf, Region.binds, sayAt, Say.holds] at hd
                clear hR hI
                try simp only [Region.wanted, hd, boolOf]
                go_simp
                first
                  | exact HR.out _ _ (by simp [sayAt, Say.holds]) (Below.refl _ _) (by simp [sayAt, Say.isBlk])
                  | (refine (HAh.out _).mono ?_
                     rintro e W' ⟨rfl, hb⟩
                     exact ⟨_, rfl, HR.out _ _ (by simp [sayAt, Say.holds]) hb (by simp [sayAt, Say.isBlk])⟩)
                  | trace_state
            case last =>
              intro vs V hI hb hg hd
              have g33 := hg 33 (by omega)
              simp only [sayAt, Say.holds, List.getD_cons_succ, List.getD_cons_zero] at g33
              simp only [List.take_succ_cons, List.take_zero, List.drop_succ_cons, List.drop_zero, putAll, Act.put, List.setIfInBounds_toArray, List.set_cons_succ, List.set_cons_zero, Nat.zero_add, Nat.reduceAdd]
              rw [g33]
              have HI := Lib.hid (hbel.out.trans (Below.mono hI hbel.out.size))
              clear hg hd hI hb g33
              go_wp2_with fail
              go_meet
              exact ⟨by rw [HCb.out], HI.out⟩
        · have q0 : decide ((g D.L j).a ≤ D.tick) = false := decide_eq_false hd
          rw [q0] at hcb
          obtain rfl : cb = false := hcb
          clear hd
          go_quiet (fail)
          go_wp2_with fail
          go_meet
          exact ⟨rfl, hbel.out.trans ⟨rfl, rfl, rfl, Nat.le_refl _, fun _ _ => rfl⟩⟩
      case rest =>
        obtain ⟨rfl, hb2⟩ := hcut
        have hs := best_succ D.L D.tick j
        rw [← hcb] at hs
        have HS := Lib.hid hs
        have HM0 := Lib.hid hm0
        clear hs hcb hm0 k0 k1 a0 a1 a2 a3
        cases cb with
        | true =>
          go_wp2_with fail
          go_roundw
          case rel => exact ⟨j + 1, by omega, by rw [HS.out]; rfl, by go_num, hb2.out⟩
          case measure => simp [intOf]; omega
        | false =>
          go_wp2_with fail
          go_roundw
          case rel => exact ⟨j + 1, by omega, by rw [HS.out, HM0.out]; rfl, by go_num, hb2.out⟩
          case measure => simp [intOf]; omega
    · obtain rfl : j = D.L.length := by omega
      cases hb : bestK D.L D.tick D.L.length with
      | none =>
        have hD : takeD D = (D, 0, false) := by unfold takeD; simp only [hb]
        have HD := Lib.hid hD
        unfold bV
        clear hD hb hq hrow
        go_wp2_with fail
        go_ret2
        rw [HD.out]
        exact ⟨rfl, v, HQ.out.below hbel.out, RM.of hbel.out⟩
      | some b =>
        have hD : takeD D = (⟨D.L.eraseIdx b, D.tick, D.many⟩, (g D.L b).i, true) := by unfold takeD; simp only [hb]
        have HD := Lib.hid hD
        obtain ⟨hbj, _, _⟩ := best_some hb
        obtain ⟨p, rfl, _, _, b2, _⟩ := d_cells hrow hbj
        have HW := Lib.hid (without_any hrow b hbj (by omega))
        have HQ2 := Lib.hid hq
        unfold bV
        have p3 : (b : Int) < (D.L.length : Int) := by omega
        have p4 : (0 : Int) ≤ (b : Int) := by omega
        clear hD hb hq hrow
        go_wp2_with fail
        refine HW.out.mono ?_
        rintro e w2 ⟨v', rfl, hr, hb2⟩
        have hz := HQ2.out.put hb2 (D' := ⟨D.L.eraseIdx b, D.tick, D.many⟩) hr rfl rfl
        obtain ⟨v2, z1, z2⟩ := hz
        have hz2 : RP W base r v ⟨D.L.eraseIdx b, D.tick, D.many⟩ (w2.setCell ⟨r, 0, none⟩ v') := ⟨v2, z1, z2.os.trans hbel.out.os, z2.tape.trans hbel.out.tape, z2.output.trans hbel.out.output, Nat.le_trans hbel.out.size z2.size, fun k hk hn => (z2.block k (Nat.lt_of_lt_of_le hk hbel.out.size) hn).trans (hbel.out.block k hk), fun q hq => (z2.own q hq).imp id (fun hs => Nat.le_trans hbel.out.size hs)⟩
        have k2 := (HQ2.out.below hb2).cel.cell (i := 0) rfl
        have f2 := (HQ2.out.below hb2).cel.free (i := 0)
        rw [HV.out] at k2
        obtain ⟨A2, c2, rfl⟩ := hr.form
        have HZ := Lib.hid hz2
        clear hr hb2 z1 z2 hz2 HW k0 k1 b2
        go_wp2_with fail
        go_ret2
        rw [HD.out]
        exact ⟨rfl, HZ.out⟩

end

end Du
end Go.Proofs.Ytpjoiepdcilcnaa
