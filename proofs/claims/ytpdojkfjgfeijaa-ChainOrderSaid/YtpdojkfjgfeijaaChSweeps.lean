/- A sweep, and a later one: the walk of the law; no condition but the range. -/
import Derived.Test.YtpdojkfjgfeijaaChStays
namespace Go.Proofs.Ytpdojkfjgfeijaa
namespace Ch
open Go.RowKit Bk

attribute [local go_sem ↓] Go.wp_at_zero Go.wp_at_succ
attribute [local go_sem] floatUpon pick

theorem sweepP_ok {l : List Vr} (h : ChOk l) (t : Int) : sweepP l t = (sweepL l t, 0) := by unfold sweepP; rw [if_neg (by rw [chk_zero h]; simp)]

theorem sweepP_err {l : List Vr} {t : Int} (h : (sweepP l t).2 = 0) : ChOk l := by
  unfold sweepP at h
  by_cases h1 : (chkP l).2 ≠ 0
  · rw [if_pos h1] at h; exact absurd h h1
  · exact chk_ok.1 (Decidable.not_not.1 h1)

set_option maxRecDepth 20000 in
set_option maxHeartbeats 8000000 in
theorem sweeps_walk (v : Value) (l : List Vr) (x : Vr) (t low : Int) (w : World) (hv : VrsOf w v l) (hx : VrRng x) :
    Calls Try.prog 7 #[v, .agg (vcs x).toArray, .agg #[.int .i64 t, .int .i64 low]] w fun e w' => e = .returned (.bool true) ∧ Below w.heap.size w w' := by
  obtain ⟨A, c, rfl, hst, h32, hrng, hnil, hlc, hcm⟩ := hv
  have rb : reachBytes = 140737488351232 := rfl
  rw [rb] at h32
  have HWk := Lib.hid (fun W => works_any W)
  obtain ⟨lo, hmin⟩ : ∃ m, min t low = m := ⟨_, rfl⟩
  obtain ⟨hi, hmax⟩ : ∃ m, max t low = m := ⟨_, rfl⟩
  have hlh : lo ≤ hi := by rw [← hmin, ← hmax]; omega
  have HLh := Lib.hid hlh
  have HS1 := Lib.hid (fun W (hb : Below w.heap.size w W) => lsweep_any A c l lo W (hst.below hb) h32 hrng hnil hlc)
  have HS2 := Lib.hid (fun W (hb : Below w.heap.size w W) => lsweep_any A c l hi W (hst.below hb) h32 hrng hnil hlc)
  have HLa := Lib.hid (fun W (hb : Below w.heap.size w W) => llast_any A c l W (hst.below hb) h32 hrng hlc)
  have HAd := Lib.hid (fun W (hb : Below w.heap.size w W) => ladd_any A c l x W (hst.below hb) h32 hrng hx hnil hlc)
  obtain ⟨S, e, hse⟩ : ∃ S e, sweepP l lo = (S, e) := ⟨_, _, rfl⟩
  have HSe := Lib.hid hse
  rw [hse] at HS1
  have HX := Lib.hid hx
  obtain ⟨xt, xs, xd⟩ := x
  clear hst hrng hnil hx hse rb hlc hcm hlh h32
  show Calls _ _ #[_, .agg #[.int .i64 xt, .string xs, .bool xd], _] _ _
  go_enter Try.func7, Try.ntmps7
  go_upto_region 1 with fail
  have hR0 : Cel (w.alloc (.cells #[.int .i64 xt, .string xs, .bool xd] 24)) w.heap.size 24 [.int .i64 xt, .string xs, .bool xd] := (blk1 w _).2
  have hB0 : Below w.heap.size w (w.alloc (.cells #[.int .i64 xt, .string xs, .bool xd] 24)) := (Below.refl _ w).alloc (Nat.le_refl _) _
  have hs0 : (w.alloc (.cells #[.int .i64 xt, .string xs, .bool xd] 24)).heap.size = w.heap.size + 1 := by simp
  generalize w.alloc (.cells #[.int .i64 xt, .string xs, .bool xd] 24) = W0 at hR0 hB0 hs0 ⊢
  have hT1 : Cel (W0.alloc (.cells #[.int .i64 t, .int .i64 low] 40)) (w.heap.size + 1) 40 [.int .i64 t, .int .i64 low] := by rw [← hs0]; exact (blk1 W0 _).2
  have hB1 : Below W0.heap.size W0 (W0.alloc (.cells #[.int .i64 t, .int .i64 low] 40)) := (Below.refl _ W0).alloc (Nat.le_refl _) _
  have hR1 := hR0.below hB1
  have hB2 := hB0.trans (hB1.mono hB0.size)
  generalize W0.alloc (.cells #[.int .i64 t, .int .i64 low] 40) = W1 at hR1 hT1 hB2 ⊢
  have HX1 := Lib.hid hR1
  have HT1 := Lib.hid hT1
  have HB1 := Lib.hid hB2
  clear hR0 hB0 hs0 hT1 hB1 hR1 hB2
  go_wp2_with fail
  refine (HWk.out _).mono ?_
  rintro e1 w1 ⟨rfl, hb⟩
  have HX2 := Lib.hid (HX1.out.below hb)
  have ht2 := HT1.out.below hb
  have HB2 := Lib.hid (HB1.out.trans (hb.mono HB1.out.size))
  have q0 := ht2.cell (i := 0) rfl
  have q1 := ht2.cell (i := 1) rfl
  clear hb ht2 HX1 HT1 HB1 HWk
  go_upto_region 3 with fail
  go_quiet (fail)
  rename_i nq
  have HX3 := Lib.hid (HX2.out.below (below_drew w1.heap.size w1 nq))
  have HB3 := Lib.hid (HB2.out.trans ((below_drew w1.heap.size w1 nq).mono HB2.out.size))
  generalize w1.drewN nq = W3 at HX3 HB3 ⊢
  clear q0 q1 HX2 HB2
  go_wp2_with fail
  refine (HS1.out _ HB3.out).mono ?_
  rintro e4 w4 ⟨v4, rfl, ho4, hb⟩
  have HX4 := Lib.hid (HX3.out.below hb)
  have HB4 := Lib.hid (HB3.out.trans (hb.mono HB3.out.size))
  obtain ⟨A4, c4, rfl, hr4, hlc4, hcm4, hnil4⟩ := vrs_own ho4 rfl
  have HR4 := Lib.hid hr4
  clear hb HX3 HB3 HS1 ho4
  by_cases he : e = 0
  case neg =>
    have hz : (e == 0) = false := by simpa using he
    clear hr4 hlc4 hcm4 hnil4
    go_wp2_with fail
    go_ret
    exact ⟨rfl, HB4.out⟩
  subst he
  have hok : ChOk l := sweepP_err (t := lo) (by rw [HSe.out])
  have HOk := Lib.hid hok
  have hS : sweepL l lo = S := by
    have := HSe.out
    rw [sweepP_ok hok] at this
    exact (Prod.mk.injEq _ _ _ _ ▸ this).1
  have hSok : ChOk S := by rw [← hS]; exact ok_sub hok (sweep_sub lo)
  have HSok := Lib.hid hSok
  have hSS : sweepP S hi = (sweepL l hi, 0) := by rw [sweepP_ok hSok, ← hS, sweep_twice hok.rise HLh.out]
  have hSa : sweepP l hi = (sweepL l hi, 0) := sweepP_ok hok hi
  have hHl : (sweepL l hi).length ≤ 1024 := Nat.le_trans (sweep_sub hi).length_le hok.len
  have HSw4 := Lib.hid (fun W (hh : VrsAt W A4 S) => lsweep_any A4 c4 S hi W hh (by have := hSok.len; omega) (ok_rng hSok) hnil4 hlc4)
  have HAd4 := Lib.hid (fun W (hh : VrsAt W A4 S) => ladd_any A4 c4 S ⟨xt, xs, xd⟩ W hh (by have := hSok.len; omega) (ok_rng hSok) HX.out hnil4 hlc4)
  rw [hSS] at HSw4
  rw [hSa] at HS2
  have hla : lastP l = (lastT l, 0) := by unfold lastP; rw [if_neg (by rw [chk_zero hok]; simp)]
  rw [hla] at HLa
  simp only at HLa
  obtain ⟨H, hH⟩ : ∃ H, sweepL l hi = H := ⟨_, rfl⟩
  rw [hH] at HSw4 HS2 hHl
  have HHl := Lib.hid (show H.length ≤ 9223372036854775807 by omega)
  obtain ⟨lt, hlt⟩ : ∃ lt, lastT l = lt := ⟨_, rfl⟩
  rw [hlt] at HLa
  have hSe := hS
  have HSeq := Lib.hid hSe
  clear hr4 hlc4 hcm4 hnil4 hok hS hSok hSS hSa hHl hla hH hlt hSe HSe
  go_wp2_with fail
  refine (HSw4.out _ HR4.out).mono ?_
  rintro e5 w5 ⟨v5, rfl, ho5, hb⟩
  have HX5 := Lib.hid (HX4.out.below hb)
  have HB5 := Lib.hid (HB4.out.trans (hb.mono HB4.out.size))
  have HR5 := Lib.hid (HR4.out.below hb)
  have HO5 := Lib.hid ho5
  clear hb HX4 HB4 HR4 HSw4 ho5
  go_wp2_with fail
  refine (HS2.out _ HB5.out).mono ?_
  rintro e6 w6 ⟨v6, rfl, ho6, hb⟩
  have HX6 := Lib.hid (HX5.out.below hb)
  have HB6 := Lib.hid (HB5.out.trans (hb.mono HB5.out.size))
  have HR6 := Lib.hid (HR5.out.below hb)
  have ho5 := row_form HO5.out hb
  obtain ⟨A5, c5, rfl, hr5, -, -, -⟩ := vrs_own ho5 rfl
  obtain ⟨A6, c6, rfl, hr6, -, -, -⟩ := vrs_own ho6 rfl
  have hsm := sameVrs_any A5 A6 c5 c6 H H w6 hr5 hr6 HHl.out
  rw [show decide (H = H) = true by simp] at hsm
  have HSm := Lib.hid hsm
  clear hb HX5 HB5 HR5 HS2 ho5 ho6 HO5 hr5 hr6 hsm
  go_wp2_with fail
  refine HSm.out.mono ?_
  rintro e7 w7 ⟨rfl, hb⟩
  have HX7 := Lib.hid (HX6.out.below hb)
  have HB7 := Lib.hid (HB6.out.trans (hb.mono HB6.out.size))
  have HR7 := Lib.hid (HR6.out.below hb)
  clear hb HX6 HB6 HR6 HSm
  go_wp2_with fail
  refine (HLa.out _ HB7.out).mono ?_
  rintro e8 w8 ⟨rfl, hb⟩
  have hx8 := HX7.out.below hb
  have HX8 := Lib.hid hx8
  have HB8 := Lib.hid (HB7.out.trans (hb.mono HB7.out.size))
  have HR8 := Lib.hid (HR7.out.below hb)
  have q0 := hx8.cell (i := 0) rfl
  have q1 := hx8.cell (i := 1) rfl
  have q2 := hx8.cell (i := 2) rfl
  clear hb HX7 HB7 HR7 HLa hx8
  by_cases h4 : xt ≤ lt
  · go_wp2_with fail
    go_ret
    exact ⟨rfl, HB8.out⟩
  obtain ⟨X, h, hXh⟩ : ∃ X h, addP S ⟨xt, xs, xd⟩ = (X, h) := ⟨_, _, rfl⟩
  obtain ⟨Y, i, hYi⟩ : ∃ X h, addP l ⟨xt, xs, xd⟩ = (X, h) := ⟨_, _, rfl⟩
  have HXh := Lib.hid hXh
  have HYi := Lib.hid hYi
  rw [hXh] at HAd4
  rw [hYi] at HAd
  clear hXh hYi
  go_wp2_with fail
  refine (show Calls _ _ #[_, .agg #[.int .i64 xt, .string xs, .bool xd]] _ _ from HAd4.out _ HR8.out).mono ?_
  rintro e9 w9 ⟨v9, rfl, ho9, hb⟩
  have hx9 := HX8.out.below hb
  have HB9 := Lib.hid (HB8.out.trans (hb.mono HB8.out.size))
  have HO9 := Lib.hid ho9
  have q0 := hx9.cell (i := 0) rfl
  have q1 := hx9.cell (i := 1) rfl
  have q2 := hx9.cell (i := 2) rfl
  clear hb HX8 HB8 HR8 HAd4 hx9 ho9
  go_wp2_with fail
  refine (show Calls _ _ #[_, .agg #[.int .i64 xt, .string xs, .bool xd]] _ _ from HAd.out _ HB9.out).mono ?_
  rintro e10 w10 ⟨v10, rfl, ho10, hb⟩
  have HB10 := Lib.hid (HB9.out.trans (hb.mono HB9.out.size))
  have ho9 := row_form HO9.out hb
  obtain ⟨A9, c9, rfl, hr9, hlc9, -, hnil9⟩ := vrs_own ho9 rfl
  obtain ⟨A10, c10, rfl, hr10, hlc10, -, hnil10⟩ := vrs_own ho10 rfl
  have HR9 := Lib.hid hr9
  have HR10 := Lib.hid hr10
  have HLc9 := Lib.hid hlc9
  have HLc10 := Lib.hid hlc10
  have HNl9 := Lib.hid hnil9
  have HNl10 := Lib.hid hnil10
  clear hb HB9 HO9 HAd ho9 ho10 hr9 hr10 hlc9 hlc10 hnil9 hnil10 q0 q1 q2
  by_cases hh : h = 0
  case neg =>
    have hz : (h == 0) = false := by simpa using hh
    go_wp2_with fail
    go_ret
    exact ⟨rfl, HB10.out⟩
  by_cases hi0 : i = 0
  case neg =>
    have hz : (i == 0) = false := by simpa using hi0
    go_wp2_with fail
    go_ret
    exact ⟨rfl, HB10.out⟩
  subst hh
  subst hi0
  obtain ⟨had9, hRe9⟩ := added (l := S) (v := ⟨xt, xs, xd⟩) (by rw [HXh.out])
  obtain ⟨had10, hRe10⟩ := added (l := l) (v := ⟨xt, xs, xd⟩) (by rw [HYi.out])
  rw [HXh.out] at hRe9
  rw [HYi.out] at hRe10
  obtain rfl : X = S ++ [⟨xt, xs, xd⟩] := (Prod.mk.injEq _ _ _ _ ▸ hRe9).1
  obtain rfl : Y = l ++ [⟨xt, xs, xd⟩] := (Prod.mk.injEq _ _ _ _ ▸ hRe10).1
  have e9 : sweepP (S ++ [⟨xt, xs, xd⟩]) hi = (sweepL (l ++ [⟨xt, xs, xd⟩]) hi, 0) := by rw [sweepP_ok had9.more, ← HSeq.out, sweep_more had10.more.rise HLh.out]
  have e10 : sweepP (l ++ [⟨xt, xs, xd⟩]) hi = (sweepL (l ++ [⟨xt, xs, xd⟩]) hi, 0) := sweepP_ok had10.more hi
  have hF1 := fun W (hh : VrsAt W A9 (S ++ [⟨xt, xs, xd⟩])) => lsweep_any A9 c9 (S ++ [⟨xt, xs, xd⟩]) hi W hh (by have := had9.more.len; omega) (ok_rng had9.more) HNl9.out HLc9.out
  have hF2 := fun W (hh : VrsAt W A10 (l ++ [⟨xt, xs, xd⟩])) => lsweep_any A10 c10 (l ++ [⟨xt, xs, xd⟩]) hi W hh (by have := had10.more.len; omega) (ok_rng had10.more) HNl10.out HLc10.out
  rw [e9] at hF1
  rw [e10] at hF2
  have hJl : (sweepL (l ++ [⟨xt, xs, xd⟩]) hi).length ≤ 1024 := Nat.le_trans (sweep_sub hi).length_le had10.more.len
  generalize sweepL (l ++ [⟨xt, xs, xd⟩]) hi = J at hF1 hF2 hJl
  have HF1 := Lib.hid hF1
  have HF2 := Lib.hid hF2
  have HJl := Lib.hid (show J.length ≤ 9223372036854775807 by omega)
  clear had9 had10 hRe9 hRe10 e9 e10 hF1 hF2 hJl HXh HYi HNl9 HNl10 HLc9 HLc10 HSeq
  generalize (S ++ [⟨xt, xs, xd⟩] : List Vr) = X at HF1 HR9 ⊢
  generalize (l ++ [⟨xt, xs, xd⟩] : List Vr) = Y at HF2 HR10 ⊢
  go_wp2_with fail
  refine (HF1.out _ HR9.out).mono ?_
  rintro e11 w11 ⟨v11, rfl, ho11, hb⟩
  have HB11 := Lib.hid (HB10.out.trans (hb.mono HB10.out.size))
  have HR11 := Lib.hid (HR10.out.below hb)
  have HO11 := Lib.hid ho11
  clear hb ho11 HB10 HR10 HR9 HF1
  go_wp2_with fail
  refine (HF2.out _ HR11.out).mono ?_
  rintro e12 w12 ⟨v12, rfl, ho12, hb⟩
  have HB12 := Lib.hid (HB11.out.trans (hb.mono HB11.out.size))
  have ho11 := row_form HO11.out hb
  obtain ⟨A11, c11, rfl, hr11, -, -, -⟩ := vrs_own ho11 rfl
  obtain ⟨A12, c12, rfl, hr12, -, -, -⟩ := vrs_own ho12 rfl
  have hsm := sameVrs_any A11 A12 c11 c12 J J w12 hr11 hr12 HJl.out
  rw [show decide (J = J) = true by simp] at hsm
  have HSm := Lib.hid hsm
  clear hb ho11 ho12 hr11 hr12 HB11 HR11 HO11 HF2 hsm
  go_wp2_with fail
  refine HSm.out.mono ?_
  rintro e13 w13 ⟨rfl, hb⟩
  have HB13 := Lib.hid (HB12.out.trans (hb.mono HB12.out.size))
  clear hb HSm HB12
  go_wp2_with fail
  go_ret
  exact ⟨rfl, HB13.out⟩

end Ch
end Go.Proofs.Ytpdojkfjgfeijaa
