/- The landed table of leases: where a number stands, Check; no condition but the ranges. -/
import Derived.Test.YtlhcaankfhdakaaLlC1
namespace Go.Proofs.Ytlhcaankfhdakaa
namespace Ll
open Go.RowKit Bk Ls

attribute [local go_sem ↓] Go.wp_at_zero Go.wp_at_succ
attribute [local go_sem] floatUpon pick

section
variable {W W' : World} {base : Nat} {v : Value} {l : List Le}

theorem cmp_lt (a b : Int) : (cmpV a b < 0 ↔ a < b) ∧ (cmpV a b = 0 ↔ a = b) := by
  unfold cmpV
  split
  · omega
  · split <;> omega

/-- what a search answers -/
def SrP (L : List Le) (n : Int) (W : World) (e : Ending) (W' : World) : Prop := ∃ i : Nat, i ≤ L.length ∧ e = .returned (.tuple #[.int .i64 (i : Int), .bool (decide (nu L n < L.length))]) ∧ (nu L n < L.length → nu L n = i) ∧ Below W.heap.size W W'

set_option maxRecDepth 20000 in
set_option maxHeartbeats 4000000 in
theorem search_any {L : List Le} {A : Option Addr} {c : Nat} (h : DRow W base (.slice A L.length c) L) (hr : (L.map Le.n).Pairwise (· < ·)) (h10 : L.length ≤ 1024) (n : Int) :
    Calls Try.prog 34 #[.slice A L.length c, .int .i64 n, .func (.func 35) #[] #[]] W fun e W' => SrP L n W e W' := by
  have HR := Lib.hid hr
  have HRow := Lib.hid h
  have hlen : (L.length : Int) ≤ 1024 := by omega
  clear h hr
  go_enter Try.func34, Try.ntmps34
  go_wp2_with fail
  go_loopw [9, 10] (fun iv jv wr => ∃ i j : Nat, iv = .int .i64 (i : Int) ∧ jv = .int .i64 (j : Int) ∧ Hid (Mid L n i j) ∧ Hid (Below W.heap.size W wr)) (fun iv jv _ => (intOf jv).toNat - (intOf iv).toNat)
  case atStart => exact ⟨0, L.length, rfl, rfl, Lib.hid (Mid.start L n), Lib.hid (Below.refl _ _)⟩
  case round =>
    obtain ⟨i, j, rfl, rfl, hm, hb⟩ := hrel
    have hij := hm.out.le
    have hjl := hm.out.ln
    have pj : (j : Int) ≤ 1024 := by omega
    by_cases hlt : i < j
    · have pij : (i : Int) < (j : Int) := by omega
      obtain ⟨m, hmm⟩ : ∃ m : Nat, (i + j) / 2 = m := ⟨_, rfl⟩
      have him : i ≤ m := by omega
      have hmj : m < j := by omega
      have hml : m < L.length := by omega
      obtain ⟨p, rfl, x0, x1, x2⟩ := d_cells (st_keep HRow.out hb.out) hml
      have HC := Lib.hid (fun V => cmp_in (g L m) n V)
      have hc := (cmp_lt (g L m).n n).1
      have HM : Hid (((g L m).n < n → Mid L n (m + 1) j) ∧ (¬ (g L m).n < n → Mid L n i m)) := Lib.hid ⟨hm.out.left HR.out hmj, hm.out.right HR.out him hmj⟩
      generalize g L m = x at x0 x1 x2 HC hc HM
      go_upto_region 5 with fail
      rw [show ((i : Int) + (j : Int)) / 2 = (m : Int) by omega]
      have pm : (m : Int) < (L.length : Int) := by omega
      by_cases ht : x.n < n
      · have hz : cmpV x.n n < 0 := hc.2 ht
        have HM2 := Lib.hid (HM.out.1 ht)
        generalize cmpV x.n n = z at HC hz
        have HB := hb
        have pm2 : (m : Int) ≤ 1024 := by omega
        have HMi := Lib.hid him
        have HLt := Lib.hid hlt
        clear hm hb HM hc ht hmm him hmj hij hjl pij hlt hml
        go_wp2_with fail
        refine (HC.out _).mono ?_
        rintro e2 w2 ⟨rfl, hb2⟩
        have HB2 := Lib.hid (HB.out.trans (hb2.mono HB.out.size))
        clear HC hb2
        go_wp2_with fail
        go_roundw
        case rel => exact ⟨m + 1, j, by go_num, rfl, HM2, HB2⟩
        case measure => simp [intOf]; have := HMi.out; have := HLt.out; omega
      · have hz : 0 ≤ cmpV x.n n := by
          have : ¬ cmpV x.n n < 0 := fun q => ht (hc.1 q)
          omega
        have HM2 := Lib.hid (HM.out.2 ht)
        generalize cmpV x.n n = z at HC hz
        have HB := hb
        have HMj := Lib.hid hmj
        clear hm hb HM hc ht hmm him hmj hij hjl pij hlt hml
        go_wp2_with fail
        refine (HC.out _).mono ?_
        rintro e2 w2 ⟨rfl, hb2⟩
        have HB2 := Lib.hid (HB.out.trans (hb2.mono HB.out.size))
        clear HC hb2
        go_wp2_with fail
        go_roundw
        case rel => exact ⟨i, m, rfl, rfl, HM2, HB2⟩
        case measure => simp [intOf]; have := HMj.out; have := HM2.out.le; omega
    · obtain rfl : i = j := by omega
      obtain ⟨hd1, hd2⟩ := hm.out.done HR.out
      by_cases hil : i < L.length
      · obtain ⟨p, rfl, x0, x1, x2⟩ := d_cells (st_keep HRow.out hb.out) hil
        have HC := Lib.hid (fun V => cmp_in (g L i) n V)
        have hc := (cmp_lt (g L i).n n).2
        have HF : Hid (∀ V, Below W.heap.size W V → SrP L n W (.returned (.tuple #[.int .i64 (i : Int), .bool (decide (cmpV (g L i).n n = 0))])) V) := Lib.hid (fun V hV => ⟨i, by omega, by
          congr 5
          exact congrArg Value.bool <| decide_eq_decide.2 (hc.trans ⟨fun q => hd1.2 ⟨hil, q⟩, fun q => (hd1.1 q).2⟩), hd2, hV⟩)
        have pm : (i : Int) < (L.length : Int) := by omega
        generalize g L i = x at x0 x1 x2 HC HF
        generalize cmpV x.n n = z at HC HF
        have HB := hb
        clear hm hb hd1 hd2 hc hil hij hjl hlt
        go_wp2_with fail
        refine (HC.out _).mono ?_
        rintro e2 w2 ⟨rfl, hb2⟩
        have HB2 := Lib.hid (HB.out.trans (hb2.mono HB.out.size))
        clear HC hb2
        go_wp2_with fail
        go_ret2
        exact HF.out _ HB2.out
      · have HF : Hid (SrP L n W (.returned (.tuple #[.int .i64 (i : Int), .bool false])) wr) := Lib.hid ⟨i, by omega, by
          congr 5
          exact congrArg Value.bool (decide_eq_false (fun q => hil (hd1.1 q).1)).symm, hd2, hb.out⟩
        have pm : (L.length : Int) ≤ (i : Int) := by omega
        clear hm hb hd1 hd2 hil hij hjl hlt
        go_wp2_with fail
        go_ret2
        exact HF.out

theorem place_any {r : Nat} {D : Tb} (h : LQ W base r v D) (ho : Ok D) (n : Int) : Calls Try.prog 30 #[.pointer (some ⟨r, 0, none⟩), .int .i64 n] W fun e W' => SrP D.L n W e W' := by
  obtain ⟨A, c, rfl⟩ := h.row.form
  have k0 := h.cel.cell (i := 2) rfl
  have HS := Lib.hid (search_any h.row ho.rise ho.len n)
  clear h ho
  go_enter Try.func30, Try.ntmps30
  go_wp2_with fail
  refine HS.out.mono ?_
  rintro e w2 ⟨i, h1, rfl, h2, h3⟩
  have HF := Lib.hid (show SrP D.L n W (.returned (.tuple #[.int .i64 (i : Int), .bool (decide (nu D.L n < D.L.length))])) w2 from ⟨i, h1, rfl, h2, h3⟩)
  generalize decide (nu D.L n < D.L.length) = b at HF
  clear h1 h2 h3 HS
  go_wp2_with fail
  go_ret2
  exact HF.out

/-- what placeAt answers -/
def PaP (D : Tb) (now n : Int) (W : World) (e : Ending) (W' : World) : Prop := (∃ i : Int, e = .returned (.tuple #[.int .i64 i, .int .i64 (checkB D now n).2]) ∧ ((checkB D now n).2 = 0 → i = (nu D.L n : Int) ∧ nu D.L n < D.L.length)) ∧ Below W.heap.size W W'

set_option maxRecDepth 20000 in
set_option maxHeartbeats 4000000 in
theorem placeAt_any {r : Nat} {D : Tb} (h : LQ W base r v D) (ho : Ok D) (now n : Int) : Calls Try.prog 28 #[.pointer (some ⟨r, 0, none⟩), .int .i64 now, .int .i64 n] W fun e W' => PaP D now n W e W' := by
  have HQ := Lib.hid h
  have HT := Lib.hid (ltick_any now W)
  have HP := Lib.hid (place_any h ho n)
  have HL := Lib.hid ho.len
  clear h ho
  by_cases h1 : okT now
  · rw [decide_eq_true h1] at HT
    by_cases h2 : nu D.L n < D.L.length
    · have hc : checkB D now n = if (g D.L (nu D.L n)).u < now then (0, 170) else ((g D.L (nu D.L n)).t, 0) := by
        unfold checkB; rw [if_neg (fun q => q h1), if_neg (by omega)]
      clear h1
      go_enter Try.func28, Try.ntmps28
      go_wp2_with fail
      refine HT.out.mono ?_
      rintro e w2 ⟨rfl, e2⟩
      subst e2
      go_wp2_with fail
      refine HP.out.mono ?_
      rintro e w3 ⟨i, h3, rfl, h4, h5⟩
      obtain rfl := h4 h2
      rw [decide_eq_true h2]
      have HB := Lib.hid h5
      have HO := Lib.hid (fun V => over_any now V)
      have HQ3 := Lib.hid (HQ.out.below h5)
      have HD := Lib.hid h2
      clear h3 h4 h5 HT HP
      go_wp2_with fail
      refine (HO.out _).mono ?_
      rintro e w4 ⟨rfl, hc4, hb4⟩
      have HB4 := Lib.hid (HB.out.trans (hb4.mono HB.out.size))
      have hq4 := HQ3.out.below hb4
      have HI := Lib.hid (over_in hc4 (g D.L (nu D.L n)))
      obtain ⟨A, c, rfl⟩ := hq4.row.form
      obtain ⟨p, rfl, x0, x1, x2⟩ := d_cells hq4.row h2
      have k0 := hq4.cel.cell (i := 2) rfl
      generalize w3.heap.size = p3 at HI
      unfold overF
      have HF : Hid (∀ V, Below w4.heap.size w4 V → (((g D.L (nu D.L n)).u < now → PaP D now n w2 (.returned (.tuple #[.int .i64 0, .int .i64 170])) V) ∧ (¬ (g D.L (nu D.L n)).u < now → PaP D now n w2 (.returned (.tuple #[.int .i64 (nu D.L n : Int), .int .i64 0])) V))) := Lib.hid (fun V hV => ⟨fun q => by
          rw [if_pos q] at hc
          exact ⟨⟨0, by rw [hc], fun e => by rw [hc] at e; cases e⟩, HB4.out.trans (hV.mono HB4.out.size)⟩, fun q => by
          rw [if_neg q] at hc
          exact ⟨⟨_, by rw [hc], fun _ => ⟨rfl, HD.out⟩⟩, HB4.out.trans (hV.mono HB4.out.size)⟩⟩)
      have pm : ((nu D.L n : Nat) : Int) < (D.L.length : Int) := by omega
      generalize g D.L (nu D.L n) = x at x0 x1 x2 HI HF
      generalize nu D.L n = j at x0 x1 x2 HF pm
      clear hc hq4 hc4 hb4 h2 HO HD
      by_cases ht : x.u < now
      · rw [decide_eq_true ht] at HI
        have HF2 := Lib.hid (fun V hV => (HF.out V hV).1 ht)
        clear ht HF
        go_wp2_with fail
        refine HI.out.mono ?_
        rintro e w5 ⟨rfl, hb5⟩
        have HF3 := Lib.hid (HF2.out _ hb5)
        clear hb5 HI HF2
        go_wp2_with fail
        go_ret2
        exact HF3.out
      · rw [decide_eq_false ht] at HI
        have HF2 := Lib.hid (fun V hV => (HF.out V hV).2 ht)
        clear ht HF
        go_wp2_with fail
        refine HI.out.mono ?_
        rintro e w5 ⟨rfl, hb5⟩
        have HF3 := Lib.hid (HF2.out _ hb5)
        clear hb5 HI HF2
        go_wp2_with fail
        go_ret2
        exact HF3.out
    · have hc : checkB D now n = (0, 5) := by
        unfold checkB; rw [if_neg (fun q => q h1), if_pos (by omega)]
      have HF : Hid (∀ V, Below W.heap.size W V → PaP D now n W (.returned (.tuple #[.int .i64 0, .int .i64 5])) V) := Lib.hid (fun V hV => ⟨⟨0, by rw [hc], fun e => by rw [hc] at e; cases e⟩, hV⟩)
      clear h1 hc
      go_enter Try.func28, Try.ntmps28
      go_wp2_with fail
      refine HT.out.mono ?_
      rintro e w2 ⟨rfl, e2⟩
      subst e2
      go_wp2_with fail
      refine HP.out.mono ?_
      rintro e w3 ⟨i, h3, rfl, h4, h5⟩
      rw [decide_eq_false h2]
      have HF3 := Lib.hid (HF.out _ h5)
      clear h3 h4 h5 HT HP HF h2
      go_wp2_with fail
      go_ret2
      exact HF3.out
  · rw [decide_eq_false h1] at HT
    have hc : checkB D now n = (0, 1) := by unfold checkB; rw [if_pos h1]
    have HF : Hid (PaP D now n W (.returned (.tuple #[.int .i64 0, .int .i64 1])) W) := Lib.hid ⟨⟨0, by rw [hc], fun e => by rw [hc] at e; cases e⟩, Below.refl _ _⟩
    clear h1 hc
    go_enter Try.func28, Try.ntmps28
    go_wp2_with fail
    refine HT.out.mono ?_
    rintro e w2 ⟨rfl, e2⟩
    subst e2
    go_wp2_with fail
    go_ret2
    exact HF.out

set_option maxHeartbeats 4000000 in
theorem lcheck_any {r : Nat} {D : Tb} (h : LQ W base r v D) (ho : Ok D) (now n : Int) : Calls Try.prog 16 #[.pointer (some ⟨r, 0, none⟩), .int .i64 now, .int .i64 n] W fun e W' => e = .returned (.tuple #[.int .i64 (checkB D now n).1, .int .i64 (checkB D now n).2]) ∧ Below W.heap.size W W' := by
  have HQ := Lib.hid h
  have HP := Lib.hid (placeAt_any h ho now n)
  have HL := Lib.hid ho.len
  by_cases hz : (checkB D now n).2 = 0
  · have hcs : nu D.L n < D.L.length → (checkB D now n).1 = (g D.L (nu D.L n)).t := fun hl => by
      unfold checkB at hz ⊢
      by_cases h1 : okT now
      · rw [if_neg (fun q => q h1), if_neg (by omega)] at hz ⊢
        by_cases h3 : (g D.L (nu D.L n)).u < now
        · rw [if_pos h3] at hz; cases hz
        · rw [if_neg h3]
      · rw [if_pos h1] at hz; cases hz
    clear h ho
    go_enter Try.func16, Try.ntmps16
    go_wp2_with fail
    refine HP.out.mono ?_
    rintro e w2 ⟨⟨i, rfl, hi⟩, hb⟩
    obtain ⟨rfl, hl⟩ := hi hz
    have hcs2 := hcs hl
    have hq := HQ.out.below hb
    obtain ⟨A, c, rfl⟩ := hq.row.form
    obtain ⟨p, rfl, x0, x1, x2⟩ := d_cells hq.row hl
    have k0 := hq.cel.cell (i := 2) rfl
    have HB := Lib.hid hb
    have pm : ((nu D.L n : Nat) : Int) < (D.L.length : Int) := by omega
    have HZ := Lib.hid (And.intro hcs2 hz)
    rw [hz]
    clear hz hcs hi hl hq hb HP hcs2
    generalize g D.L (nu D.L n) = x at x0 x1 x2 HZ
    generalize nu D.L n = j at x0 x1 x2 pm
    go_wp2_with fail
    go_ret2
    exact ⟨by rw [HZ.out.1, HZ.out.2]; rfl, HB.out⟩
  · have hc1 : (checkB D now n).1 = 0 := by
      unfold checkB at hz ⊢
      by_cases h1 : okT now
      · rw [if_neg (fun q => q h1)] at hz ⊢
        by_cases h2 : D.L.length ≤ nu D.L n
        · rw [if_pos h2]
        · rw [if_neg h2] at hz ⊢
          by_cases h3 : (g D.L (nu D.L n)).u < now
          · rw [if_pos h3]
          · rw [if_neg h3] at hz; exact absurd rfl hz
      · rw [if_pos h1]
    have q0 : ((checkB D now n).2 == 0) = false := by rw [beq_eq_false_iff_ne]; exact hz
    have HZ := Lib.hid hc1
    clear h ho
    go_enter Try.func16, Try.ntmps16
    go_wp2_with fail
    refine HP.out.mono ?_
    rintro e w2 ⟨⟨i, rfl, hi⟩, hb⟩
    have HB := Lib.hid hb
    obtain ⟨z2, hz2⟩ : ∃ z2, (checkB D now n).2 = z2 := ⟨_, rfl⟩
    have HZ2 := Lib.hid hz2
    rw [hz2] at q0 ⊢
    clear hz hi hb HP hc1 hz2
    go_wp2_with fail
    go_ret2
    exact ⟨by rw [HZ.out, HZ2.out]; rfl, HB.out⟩

end

end Ll
end Go.Proofs.Ytlhcaankfhdakaa
