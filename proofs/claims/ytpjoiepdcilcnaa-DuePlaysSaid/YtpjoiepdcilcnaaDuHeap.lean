/- A heap of tasks in the memory: what container/heap's Push, Pop and Remove leave; no condition but the range. -/
import Derived.Test.YtpjoiepdcilcnaaDuPop
namespace Go.Proofs.Ytpjoiepdcilcnaa
namespace Du
open Go.RowKit Bk

theorem half (m : Nat) : ((m : Int) + 1 - 1).tdiv 2 = ((m / 2 : Nat) : Int) := by
  rw [show (m : Int) + 1 - 1 = (m : Int) by omega, Int.tdiv_eq_ediv_of_nonneg (by omega)]; omega

theorem up_step {lt : Tk → Tk → Bool} {l : List Tk} {m i : Nat} (hi : i = m / 2) (h : lt (g l (m + 1)) (g l i) = true) : upL lt l (m + 1) = upL lt (swL l i (m + 1)) i := by
  subst hi
  rw [upL, if_neg (by omega)]
  show (if lt (g l (m + 1)) (g l (m / 2)) = true then _ else _) = _
  rw [if_pos h]; rfl
theorem up_stop {lt : Tk → Tk → Bool} {l : List Tk} {m i : Nat} (hi : i = m / 2) (h : lt (g l (m + 1)) (g l i) = false) : upL lt l (m + 1) = l := by
  subst hi
  rw [upL, if_neg (by omega)]
  show (if lt (g l (m + 1)) (g l (m / 2)) = true then _ else _) = _
  rw [if_neg (by rw [h]; decide)]
theorem up_zero (lt : Tk → Tk → Bool) (l : List Tk) : upL lt l 0 = l := by rw [upL, if_pos rfl]

theorem dn_end {lt : Tk → Tk → Bool} {l : List Tk} {k n : Nat} (h : ¬ 2 * k + 1 < n) : dnL lt l k n = l ∧ mvd lt l k n = false := by
  rw [dnL, if_neg h]; exact ⟨rfl, by simp [mvd, h]⟩
theorem dn_stop {lt : Tk → Tk → Bool} {l : List Tk} {k n j : Nat} (h : 2 * k + 1 < n) (hj : chC lt l k n = j) (hl : lt (g l j) (g l k) = false) : dnL lt l k n = l ∧ mvd lt l k n = false := by
  rw [dnL, if_pos h, hj, if_neg (by rw [hl]; decide)]
  refine ⟨rfl, by simp [mvd, hj, hl]⟩
theorem dn_step {lt : Tk → Tk → Bool} {l : List Tk} {k n j : Nat} (h : 2 * k + 1 < n) (hj : chC lt l k n = j) (hl : lt (g l j) (g l k) = true) : dnL lt l k n = dnL lt (swL l k j) j n ∧ mvd lt l k n = true := by
  rw [dnL, if_pos h, hj, if_pos hl]
  exact ⟨rfl, by simp [mvd, h, hj, hl]⟩
theorem ch_two {lt : Tk → Tk → Bool} {l : List Tk} {k n : Nat} (h : 2 * k + 2 < n) (hl : lt (g l (2 * k + 2)) (g l (2 * k + 1)) = true) : chC lt l k n = 2 * k + 2 := by unfold chC; rw [if_pos ⟨h, hl⟩]
theorem ch_one {lt : Tk → Tk → Bool} {l : List Tk} {k n : Nat} (h : 2 * k + 2 < n → lt (g l (2 * k + 2)) (g l (2 * k + 1)) = false) : chC lt l k n = 2 * k + 1 := by
  unfold chC; rw [if_neg (fun q => by rw [h q.1] at q; cases q.2)]

/-- where the sinking stands -/
def DnS (lt : Tk → Tk → Bool) (l : List Tk) (i n : Nat) (l' : List Tk) (k : Nat) : Prop := dnL lt l' k n = dnL lt l i n ∧ ((k = i ∧ l' = l) ∨ (i < k ∧ mvd lt l i n = true))

theorem DnS.over {lt : Tk → Tk → Bool} {l l' : List Tk} {i n k : Nat} (h : DnS lt l i n l' k) (h2 : dnL lt l' k n = l' ∧ mvd lt l' k n = false) : l' = dnL lt l i n ∧ decide ((i : Int) < (k : Int)) = mvd lt l i n := by
  refine ⟨h2.1.symm.trans h.1, ?_⟩
  rcases h.2 with ⟨rfl, rfl⟩ | ⟨h3, h4⟩
  · rw [h2.2]; simp
  · rw [h4]; simp; omega
theorem DnS.next {lt : Tk → Tk → Bool} {l l' : List Tk} {i n k j : Nat} (h : DnS lt l i n l' k) (hj : k < j) (h2 : dnL lt l' k n = dnL lt (swL l' k j) j n ∧ mvd lt l' k n = true) : DnS lt l i n (swL l' k j) j := by
  refine ⟨h2.1.symm.trans h.1, .inr ?_⟩
  rcases h.2 with ⟨rfl, rfl⟩ | ⟨h3, h4⟩
  · exact ⟨hj, h2.2⟩
  · exact ⟨by omega, h4⟩

section
variable {W W' : World} {base b o : Nat} {cs : List Value} {v : Value} {l l' : List Tk}

theorem call_swap (h : HS W base b o cs v l) (i j : Nat) (hi : i < l.length) (hj : j < l.length) {Q : Ending → World → Prop} (hQ : ∀ W', HS W' base b o cs v (swL l i j) → HM W W' b v v → Q (.returned (.tuple #[])) W') :
    Calls Try.prog 52 #[v, .int .i64 i, .int .i64 j] W Q := by
  refine (swap_any h.row i j hi hj).mono ?_
  rintro e W' ⟨rfl, hr, hg⟩
  exact hQ W' (h.turn hr hg) (HM.grown hg)

theorem call_len (h : HS W base b o cs v l) {Q : Ending → World → Prop} (hQ : Q (.returned (.int .i64 (l.length : Int))) W) : Calls Try.prog 24 #[v] W Q := by
  obtain ⟨A, c, rfl⟩ := h.row.form
  refine len_any.mono ?_
  rintro e W' ⟨rfl, rfl⟩
  exact hQ

end

section
variable {W W' : World} {base b o : Nat} {cs : List Value} {v : Value} {l l' : List Tk}

theorem call_lessW (h : HS W base b o cs v l) (i j : Nat) (hi : i < l.length) (hj : j < l.length) {Q : Ending → World → Prop} (hQ : ∀ W', HS W' base b o cs v l → HM W W' b v v → Q (.returned (.bool (ltW (g l i) (g l j)))) W') :
    Calls Try.prog 53 #[.agg #[v], .int .i64 i, .int .i64 j] W Q := by
  refine (lessW_any h.row i j hi hj).mono ?_
  rintro e W' ⟨rfl, hb⟩
  exact hQ W' (h.below hb) (HM.of hb)

set_option maxHeartbeats 4000000 in
theorem upW_any (h : HS W base b o cs v l) (j : Nat) (hj : j < l.length) (h10 : l.length ≤ 1000000) :
    Calls Try.prog 31 #[.iface 62 (.pointer (some ⟨b, o, none⟩)), .int .i64 j] W fun e W' => e = .returned (.tuple #[]) ∧ HS W' base b o cs v (upL ltW l j) ∧ HM W W' b v v := by
  have HH := Lib.hid h
  clear h
  go_enter Try.func31, Try.ntmps31
  go_wp2_with fail
  go_loopw [1] (fun i wr => ∃ (k : Nat) (l' : List Tk), i = .int .i64 (k : Int) ∧ k < l'.length ∧ l'.length = l.length ∧ Hid (upL ltW l' k = upL ltW l j) ∧ Hid (HS wr base b o cs v l') ∧ Hid (HM W wr b v v)) (fun i _ => (intOf i).toNat)
  case atStart => exact ⟨j, l, rfl, hj, rfl, rfl, HH.out, HM.refl _ _ _⟩
  case round =>
    obtain ⟨k, l', rfl, hk, hl, hu, hh, hm⟩ := hrel
    have hle := lessW_method hh.out.cell
    cases k with
    | zero =>
      go_wp2_with fail
      go_end0
      have e := hu.out
      rw [up_zero] at e
      exact ⟨rfl, e ▸ hh.out, hm.out⟩
    | succ m =>
      obtain ⟨i, hi⟩ : ∃ i, i = m / 2 := ⟨_, rfl⟩
      have hq : (m : Int) / 2 = (i : Int) := by omega
      have hne : ¬ (i : Int) = (m : Int) + 1 := by omega
      have hil : i < l'.length := by omega
      have HI := Lib.hid hi
      clear hi
      have HC := Lib.hid (fun Q => call_lessW (Q := Q) hh.out (m + 1) i hk hil)
      cases hlt : ltW (g l' (m + 1)) (g l' i) with
      | true =>
        go_wp2_with fail
        refine HC.out _ ?_
        intro W2 hh2 hm2
        have hsw := swapW_method hh2.cell
        have HC2 := Lib.hid (fun Q => call_swap (Q := Q) hh2 i (m + 1) hil hk)
        have HL := Lib.hid hlt
        rw [hlt]
        have HM2 := Lib.hid (hm.out.trans hm2)
        clear hh2 hm2 hle HC hlt
        go_wp2_with fail
        refine HC2.out _ ?_
        intro W3 hh3 hm3
        have HH3 := Lib.hid hh3
        have HM3 := Lib.hid (HM2.out.trans hm3)
        clear hh3 hm3 hsw HC2 HM2
        go_wp2_with fail
        go_roundw
        case rel => exact ⟨i, swL l' i (m + 1), rfl, by rw [sw_len]; exact hil, by rw [sw_len]; exact hl, (up_step HI.out HL.out).symm.trans hu.out, HH3.out, HM3.out⟩
        case measure => have := HI.out; simp [intOf]; omega
      | false =>
        go_wp2_with fail
        refine HC.out _ ?_
        intro W2 hh2 hm2
        have HL := Lib.hid hlt
        rw [hlt]
        have HH2 := Lib.hid hh2
        have HM2 := Lib.hid (hm.out.trans hm2)
        clear hh2 hm2 hle HC hlt
        go_wp2_with fail
        go_end0
        have e := hu.out
        rw [up_stop HI.out HL.out] at e
        exact ⟨rfl, e ▸ HH2.out, HM2.out⟩

set_option maxHeartbeats 4000000 in
theorem dnW_any (h : HS W base b o cs v l) (i n : Nat) (hi : i ≤ n) (hn : n ≤ l.length) (hil : i < l.length) (h10 : l.length ≤ 1000000) :
    Calls Try.prog 35 #[.iface 62 (.pointer (some ⟨b, o, none⟩)), .int .i64 i, .int .i64 n] W fun e W' => e = .returned (.bool (mvd ltW l i n)) ∧ HS W' base b o cs v (dnL ltW l i n) ∧ HM W W' b v v := by
  have HH := Lib.hid h
  clear h
  go_enter Try.func35, Try.ntmps35
  go_wp2_with fail
  go_loopw [7] (fun x wr => ∃ (k : Nat) (l' : List Tk), x = .int .i64 (k : Int) ∧ l'.length = l.length ∧ (k ≤ n ∧ k < l.length) ∧ Hid (DnS ltW l i n l' k) ∧ Hid (HS wr base b o cs v l') ∧ Hid (HM W wr b v v)) (fun x _ => n - (intOf x).toNat)
  case atStart => exact ⟨i, l, rfl, rfl, ⟨hi, hil⟩, ⟨rfl, .inl ⟨rfl, rfl⟩⟩, HH.out, HM.refl _ _ _⟩
  case round =>
    obtain ⟨k, l', rfl, hl, ⟨hkn, hkl0⟩, hd, hh, hm⟩ := hrel
    have hkl : k < l'.length := by omega
    by_cases h1 : 2 * k + 1 < n
    · have hj1 : 2 * k + 1 < l'.length := by omega
      have p1 : 2 * (k : Int) + 1 < (n : Int) := by omega
      by_cases h2 : 2 * k + 2 < n
      · have hj2 : 2 * k + 2 < l'.length := by omega
        have p2 : 2 * (k : Int) + 1 + 1 < (n : Int) := by omega
        have hle := lessW_method hh.out.cell
        have HC := Lib.hid (fun Q => call_lessW (Q := Q) hh.out (2 * k + 2) (2 * k + 1) hj2 hj1)
        cases hlt : ltW (g l' (2 * k + 2)) (g l' (2 * k + 1)) with
        | true =>
          have HCH := Lib.hid (ch_two h2 hlt)
          go_wp2_with fail
          refine HC.out _ ?_
          intro W2 hh2 hm2
          rw [hlt]
          have HH2 := Lib.hid hh2
          have HM2 := Lib.hid (hm.out.trans hm2)
          clear hh2 hm2 hle HC hlt
          have hleB := lessW_method HH2.out.cell
          have HCB := Lib.hid (fun Q => call_lessW (Q := Q) HH2.out (2 * k + 2) k hj2 hkl)
          cases hlB : ltW (g l' (2 * k + 2)) (g l' k) with
          | true =>
            go_wp2_with fail
            refine HCB.out _ ?_
            intro W3 hh3 hm3
            have hsw := swapW_method hh3.cell
            have HCS := Lib.hid (fun Q => call_swap (Q := Q) hh3 k (2 * k + 2) hkl hj2)
            have HLB := Lib.hid hlB
            rw [hlB]
            have HM3 := Lib.hid (HM2.out.trans hm3)
            clear hh3 hm3 hleB HCB hlB
            go_wp2_with fail
            refine HCS.out _ ?_
            intro W4 hh4 hm4
            have HH4 := Lib.hid hh4
            have HM4 := Lib.hid (HM3.out.trans hm4)
            clear hh4 hm4 hsw HCS HM3
            go_wp2_with fail
            go_roundw
            case rel => exact ⟨2 * k + 2, swL l' k (2 * k + 2), by go_num, by rw [sw_len]; exact hl, by omega, hd.out.next (by omega) (dn_step h1 HCH.out HLB.out), HH4.out, HM4.out⟩
            case measure => simp [intOf]; omega
          | false =>
            go_wp2_with fail
            refine HCB.out _ ?_
            intro W3 hh3 hm3
            have HLB := Lib.hid hlB
            rw [hlB]
            have HH3 := Lib.hid hh3
            have HM3 := Lib.hid (HM2.out.trans hm3)
            clear hh3 hm3 hleB HCB hlB
            have HE := Lib.hid (hd.out.over (dn_stop h1 HCH.out HLB.out))
            go_wp2
            all_goals
              go_ret
              have e := HE.out.2
              refine ⟨by rw [← e]; simp <;> omega, HE.out.1 ▸ HH3.out, HM3.out⟩

        | false =>
          have HCH := Lib.hid (ch_one (lt := ltW) (l := l') (k := k) (n := n) (fun _ => hlt))
          go_wp2_with fail
          refine HC.out _ ?_
          intro W2 hh2 hm2
          rw [hlt]
          have HH2 := Lib.hid hh2
          have HM2 := Lib.hid (hm.out.trans hm2)
          clear hh2 hm2 hle HC hlt
          have hleB := lessW_method HH2.out.cell
          have HCB := Lib.hid (fun Q => call_lessW (Q := Q) HH2.out (2 * k + 1) k hj1 hkl)
          cases hlB : ltW (g l' (2 * k + 1)) (g l' k) with
          | true =>
            go_wp2_with fail
            refine HCB.out _ ?_
            intro W3 hh3 hm3
            have hsw := swapW_method hh3.cell
            have HCS := Lib.hid (fun Q => call_swap (Q := Q) hh3 k (2 * k + 1) hkl hj1)
            have HLB := Lib.hid hlB
            rw [hlB]
            have HM3 := Lib.hid (HM2.out.trans hm3)
            clear hh3 hm3 hleB HCB hlB
            go_wp2_with fail
            refine HCS.out _ ?_
            intro W4 hh4 hm4
            have HH4 := Lib.hid hh4
            have HM4 := Lib.hid (HM3.out.trans hm4)
            clear hh4 hm4 hsw HCS HM3
            go_wp2_with fail
            go_roundw
            case rel => exact ⟨2 * k + 1, swL l' k (2 * k + 1), by go_num, by rw [sw_len]; exact hl, by omega, hd.out.next (by omega) (dn_step h1 HCH.out HLB.out), HH4.out, HM4.out⟩
            case measure => simp [intOf]; omega
          | false =>
            go_wp2_with fail
            refine HCB.out _ ?_
            intro W3 hh3 hm3
            have HLB := Lib.hid hlB
            rw [hlB]
            have HH3 := Lib.hid hh3
            have HM3 := Lib.hid (HM2.out.trans hm3)
            clear hh3 hm3 hleB HCB hlB
            have HE := Lib.hid (hd.out.over (dn_stop h1 HCH.out HLB.out))
            go_wp2
            all_goals
              go_ret
              have e := HE.out.2
              refine ⟨by rw [← e]; simp <;> omega, HE.out.1 ▸ HH3.out, HM3.out⟩

      · have HCH := Lib.hid (ch_one (lt := ltW) (l := l') (k := k) (n := n) (fun q => absurd q h2))
        have p2 : (n : Int) ≤ 2 * (k : Int) + 1 + 1 := by omega
        have hleB := lessW_method hh.out.cell
        have HCB := Lib.hid (fun Q => call_lessW (Q := Q) hh.out (2 * k + 1) k hj1 hkl)
        cases hlB : ltW (g l' (2 * k + 1)) (g l' k) with
        | true =>
          go_wp2_with fail
          refine HCB.out _ ?_
          intro W3 hh3 hm3
          have hsw := swapW_method hh3.cell
          have HCS := Lib.hid (fun Q => call_swap (Q := Q) hh3 k (2 * k + 1) hkl hj1)
          have HLB := Lib.hid hlB
          rw [hlB]
          have HM3 := Lib.hid (hm.out.trans hm3)
          clear hh3 hm3 hleB HCB hlB
          go_wp2_with fail
          refine HCS.out _ ?_
          intro W4 hh4 hm4
          have HH4 := Lib.hid hh4
          have HM4 := Lib.hid (HM3.out.trans hm4)
          clear hh4 hm4 hsw HCS HM3
          go_wp2_with fail
          go_roundw
          case rel => exact ⟨2 * k + 1, swL l' k (2 * k + 1), by go_num, by rw [sw_len]; exact hl, by omega, hd.out.next (by omega) (dn_step h1 HCH.out HLB.out), HH4.out, HM4.out⟩
          case measure => simp [intOf]; omega
        | false =>
          go_wp2_with fail
          refine HCB.out _ ?_
          intro W3 hh3 hm3
          have HLB := Lib.hid hlB
          rw [hlB]
          have HH3 := Lib.hid hh3
          have HM3 := Lib.hid (hm.out.trans hm3)
          clear hh3 hm3 hleB HCB hlB
          have HE := Lib.hid (hd.out.over (dn_stop h1 HCH.out HLB.out))
          go_wp2
          all_goals
            go_ret
            have e := HE.out.2
            refine ⟨by rw [← e]; simp <;> omega, HE.out.1 ▸ HH3.out, HM3.out⟩

    · have p1 : (n : Int) ≤ 2 * (k : Int) + 1 := by omega
      have HE := Lib.hid (hd.out.over (dn_end h1))
      go_wp2
      all_goals
        go_ret
        have e := HE.out.2
        refine ⟨by rw [← e]; simp <;> omega, HE.out.1 ▸ hh.out, hm.out⟩

end

section
variable {W W' : World} {base b o : Nat} {cs : List Value} {v : Value} {l l' : List Tk}

theorem call_lessR (h : HS W base b o cs v l) (i j : Nat) (hi : i < l.length) (hj : j < l.length) {Q : Ending → World → Prop} (hQ : ∀ W', HS W' base b o cs v l → HM W W' b v v → Q (.returned (.bool (ltR (g l i) (g l j)))) W') :
    Calls Try.prog 54 #[.agg #[v], .int .i64 i, .int .i64 j] W Q := by
  refine (lessR_any h.row i j hi hj).mono ?_
  rintro e W' ⟨rfl, hb⟩
  exact hQ W' (h.below hb) (HM.of hb)

set_option maxHeartbeats 4000000 in
theorem upR_any (h : HS W base b o cs v l) (j : Nat) (hj : j < l.length) (h10 : l.length ≤ 1000000) :
    Calls Try.prog 31 #[.iface 63 (.pointer (some ⟨b, o, none⟩)), .int .i64 j] W fun e W' => e = .returned (.tuple #[]) ∧ HS W' base b o cs v (upL ltR l j) ∧ HM W W' b v v := by
  have HH := Lib.hid h
  clear h
  go_enter Try.func31, Try.ntmps31
  go_wp2_with fail
  go_loopw [1] (fun i wr => ∃ (k : Nat) (l' : List Tk), i = .int .i64 (k : Int) ∧ k < l'.length ∧ l'.length = l.length ∧ Hid (upL ltR l' k = upL ltR l j) ∧ Hid (HS wr base b o cs v l') ∧ Hid (HM W wr b v v)) (fun i _ => (intOf i).toNat)
  case atStart => exact ⟨j, l, rfl, hj, rfl, rfl, HH.out, HM.refl _ _ _⟩
  case round =>
    obtain ⟨k, l', rfl, hk, hl, hu, hh, hm⟩ := hrel
    have hle := lessR_method hh.out.cell
    cases k with
    | zero =>
      go_wp2_with fail
      go_end0
      have e := hu.out
      rw [up_zero] at e
      exact ⟨rfl, e ▸ hh.out, hm.out⟩
    | succ m =>
      obtain ⟨i, hi⟩ : ∃ i, i = m / 2 := ⟨_, rfl⟩
      have hq : (m : Int) / 2 = (i : Int) := by omega
      have hne : ¬ (i : Int) = (m : Int) + 1 := by omega
      have hil : i < l'.length := by omega
      have HI := Lib.hid hi
      clear hi
      have HC := Lib.hid (fun Q => call_lessR (Q := Q) hh.out (m + 1) i hk hil)
      cases hlt : ltR (g l' (m + 1)) (g l' i) with
      | true =>
        go_wp2_with fail
        refine HC.out _ ?_
        intro W2 hh2 hm2
        have hsw := swapR_method hh2.cell
        have HC2 := Lib.hid (fun Q => call_swap (Q := Q) hh2 i (m + 1) hil hk)
        have HL := Lib.hid hlt
        rw [hlt]
        have HM2 := Lib.hid (hm.out.trans hm2)
        clear hh2 hm2 hle HC hlt
        go_wp2_with fail
        refine HC2.out _ ?_
        intro W3 hh3 hm3
        have HH3 := Lib.hid hh3
        have HM3 := Lib.hid (HM2.out.trans hm3)
        clear hh3 hm3 hsw HC2 HM2
        go_wp2_with fail
        go_roundw
        case rel => exact ⟨i, swL l' i (m + 1), rfl, by rw [sw_len]; exact hil, by rw [sw_len]; exact hl, (up_step HI.out HL.out).symm.trans hu.out, HH3.out, HM3.out⟩
        case measure => have := HI.out; simp [intOf]; omega
      | false =>
        go_wp2_with fail
        refine HC.out _ ?_
        intro W2 hh2 hm2
        have HL := Lib.hid hlt
        rw [hlt]
        have HH2 := Lib.hid hh2
        have HM2 := Lib.hid (hm.out.trans hm2)
        clear hh2 hm2 hle HC hlt
        go_wp2_with fail
        go_end0
        have e := hu.out
        rw [up_stop HI.out HL.out] at e
        exact ⟨rfl, e ▸ HH2.out, HM2.out⟩

set_option maxHeartbeats 4000000 in
theorem dnR_any (h : HS W base b o cs v l) (i n : Nat) (hi : i ≤ n) (hn : n ≤ l.length) (hil : i < l.length) (h10 : l.length ≤ 1000000) :
    Calls Try.prog 35 #[.iface 63 (.pointer (some ⟨b, o, none⟩)), .int .i64 i, .int .i64 n] W fun e W' => e = .returned (.bool (mvd ltR l i n)) ∧ HS W' base b o cs v (dnL ltR l i n) ∧ HM W W' b v v := by
  have HH := Lib.hid h
  clear h
  go_enter Try.func35, Try.ntmps35
  go_wp2_with fail
  go_loopw [7] (fun x wr => ∃ (k : Nat) (l' : List Tk), x = .int .i64 (k : Int) ∧ l'.length = l.length ∧ (k ≤ n ∧ k < l.length) ∧ Hid (DnS ltR l i n l' k) ∧ Hid (HS wr base b o cs v l') ∧ Hid (HM W wr b v v)) (fun x _ => n - (intOf x).toNat)
  case atStart => exact ⟨i, l, rfl, rfl, ⟨hi, hil⟩, ⟨rfl, .inl ⟨rfl, rfl⟩⟩, HH.out, HM.refl _ _ _⟩
  case round =>
    obtain ⟨k, l', rfl, hl, ⟨hkn, hkl0⟩, hd, hh, hm⟩ := hrel
    have hkl : k < l'.length := by omega
    by_cases h1 : 2 * k + 1 < n
    · have hj1 : 2 * k + 1 < l'.length := by omega
      have p1 : 2 * (k : Int) + 1 < (n : Int) := by omega
      by_cases h2 : 2 * k + 2 < n
      · have hj2 : 2 * k + 2 < l'.length := by omega
        have p2 : 2 * (k : Int) + 1 + 1 < (n : Int) := by omega
        have hle := lessR_method hh.out.cell
        have HC := Lib.hid (fun Q => call_lessR (Q := Q) hh.out (2 * k + 2) (2 * k + 1) hj2 hj1)
        cases hlt : ltR (g l' (2 * k + 2)) (g l' (2 * k + 1)) with
        | true =>
          have HCH := Lib.hid (ch_two h2 hlt)
          go_wp2_with fail
          refine HC.out _ ?_
          intro W2 hh2 hm2
          rw [hlt]
          have HH2 := Lib.hid hh2
          have HM2 := Lib.hid (hm.out.trans hm2)
          clear hh2 hm2 hle HC hlt
          have hleB := lessR_method HH2.out.cell
          have HCB := Lib.hid (fun Q => call_lessR (Q := Q) HH2.out (2 * k + 2) k hj2 hkl)
          cases hlB : ltR (g l' (2 * k + 2)) (g l' k) with
          | true =>
            go_wp2_with fail
            refine HCB.out _ ?_
            intro W3 hh3 hm3
            have hsw := swapR_method hh3.cell
            have HCS := Lib.hid (fun Q => call_swap (Q := Q) hh3 k (2 * k + 2) hkl hj2)
            have HLB := Lib.hid hlB
            rw [hlB]
            have HM3 := Lib.hid (HM2.out.trans hm3)
            clear hh3 hm3 hleB HCB hlB
            go_wp2_with fail
            refine HCS.out _ ?_
            intro W4 hh4 hm4
            have HH4 := Lib.hid hh4
            have HM4 := Lib.hid (HM3.out.trans hm4)
            clear hh4 hm4 hsw HCS HM3
            go_wp2_with fail
            go_roundw
            case rel => exact ⟨2 * k + 2, swL l' k (2 * k + 2), by go_num, by rw [sw_len]; exact hl, by omega, hd.out.next (by omega) (dn_step h1 HCH.out HLB.out), HH4.out, HM4.out⟩
            case measure => simp [intOf]; omega
          | false =>
            go_wp2_with fail
            refine HCB.out _ ?_
            intro W3 hh3 hm3
            have HLB := Lib.hid hlB
            rw [hlB]
            have HH3 := Lib.hid hh3
            have HM3 := Lib.hid (HM2.out.trans hm3)
            clear hh3 hm3 hleB HCB hlB
            have HE := Lib.hid (hd.out.over (dn_stop h1 HCH.out HLB.out))
            go_wp2
            all_goals
              go_ret
              have e := HE.out.2
              refine ⟨by rw [← e]; simp <;> omega, HE.out.1 ▸ HH3.out, HM3.out⟩

        | false =>
          have HCH := Lib.hid (ch_one (lt := ltR) (l := l') (k := k) (n := n) (fun _ => hlt))
          go_wp2_with fail
          refine HC.out _ ?_
          intro W2 hh2 hm2
          rw [hlt]
          have HH2 := Lib.hid hh2
          have HM2 := Lib.hid (hm.out.trans hm2)
          clear hh2 hm2 hle HC hlt
          have hleB := lessR_method HH2.out.cell
          have HCB := Lib.hid (fun Q => call_lessR (Q := Q) HH2.out (2 * k + 1) k hj1 hkl)
          cases hlB : ltR (g l' (2 * k + 1)) (g l' k) with
          | true =>
            go_wp2_with fail
            refine HCB.out _ ?_
            intro W3 hh3 hm3
            have hsw := swapR_method hh3.cell
            have HCS := Lib.hid (fun Q => call_swap (Q := Q) hh3 k (2 * k + 1) hkl hj1)
            have HLB := Lib.hid hlB
            rw [hlB]
            have HM3 := Lib.hid (HM2.out.trans hm3)
            clear hh3 hm3 hleB HCB hlB
            go_wp2_with fail
            refine HCS.out _ ?_
            intro W4 hh4 hm4
            have HH4 := Lib.hid hh4
            have HM4 := Lib.hid (HM3.out.trans hm4)
            clear hh4 hm4 hsw HCS HM3
            go_wp2_with fail
            go_roundw
            case rel => exact ⟨2 * k + 1, swL l' k (2 * k + 1), by go_num, by rw [sw_len]; exact hl, by omega, hd.out.next (by omega) (dn_step h1 HCH.out HLB.out), HH4.out, HM4.out⟩
            case measure => simp [intOf]; omega
          | false =>
            go_wp2_with fail
            refine HCB.out _ ?_
            intro W3 hh3 hm3
            have HLB := Lib.hid hlB
            rw [hlB]
            have HH3 := Lib.hid hh3
            have HM3 := Lib.hid (HM2.out.trans hm3)
            clear hh3 hm3 hleB HCB hlB
            have HE := Lib.hid (hd.out.over (dn_stop h1 HCH.out HLB.out))
            go_wp2
            all_goals
              go_ret
              have e := HE.out.2
              refine ⟨by rw [← e]; simp <;> omega, HE.out.1 ▸ HH3.out, HM3.out⟩

      · have HCH := Lib.hid (ch_one (lt := ltR) (l := l') (k := k) (n := n) (fun q => absurd q h2))
        have p2 : (n : Int) ≤ 2 * (k : Int) + 1 + 1 := by omega
        have hleB := lessR_method hh.out.cell
        have HCB := Lib.hid (fun Q => call_lessR (Q := Q) hh.out (2 * k + 1) k hj1 hkl)
        cases hlB : ltR (g l' (2 * k + 1)) (g l' k) with
        | true =>
          go_wp2_with fail
          refine HCB.out _ ?_
          intro W3 hh3 hm3
          have hsw := swapR_method hh3.cell
          have HCS := Lib.hid (fun Q => call_swap (Q := Q) hh3 k (2 * k + 1) hkl hj1)
          have HLB := Lib.hid hlB
          rw [hlB]
          have HM3 := Lib.hid (hm.out.trans hm3)
          clear hh3 hm3 hleB HCB hlB
          go_wp2_with fail
          refine HCS.out _ ?_
          intro W4 hh4 hm4
          have HH4 := Lib.hid hh4
          have HM4 := Lib.hid (HM3.out.trans hm4)
          clear hh4 hm4 hsw HCS HM3
          go_wp2_with fail
          go_roundw
          case rel => exact ⟨2 * k + 1, swL l' k (2 * k + 1), by go_num, by rw [sw_len]; exact hl, by omega, hd.out.next (by omega) (dn_step h1 HCH.out HLB.out), HH4.out, HM4.out⟩
          case measure => simp [intOf]; omega
        | false =>
          go_wp2_with fail
          refine HCB.out _ ?_
          intro W3 hh3 hm3
          have HLB := Lib.hid hlB
          rw [hlB]
          have HH3 := Lib.hid hh3
          have HM3 := Lib.hid (hm.out.trans hm3)
          clear hh3 hm3 hleB HCB hlB
          have HE := Lib.hid (hd.out.over (dn_stop h1 HCH.out HLB.out))
          go_wp2
          all_goals
            go_ret
            have e := HE.out.2
            refine ⟨by rw [← e]; simp <;> omega, HE.out.1 ▸ HH3.out, HM3.out⟩

    · have p1 : (n : Int) ≤ 2 * (k : Int) + 1 := by omega
      have HE := Lib.hid (hd.out.over (dn_end h1))
      go_wp2
      all_goals
        go_ret
        have e := HE.out.2
        refine ⟨by rw [← e]; simp <;> omega, HE.out.1 ▸ hh.out, hm.out⟩

end

end Du
end Go.Proofs.Ytpjoiepdcilcnaa
