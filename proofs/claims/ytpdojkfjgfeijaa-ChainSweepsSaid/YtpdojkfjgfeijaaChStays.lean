/- What is read stays: the walk of the law; no condition but the range. -/
import Derived.Test.YtpdojkfjgfeijaaChAdds
namespace Go.Proofs.Ytpdojkfjgfeijaa
namespace Ch
open Go.RowKit Bk

attribute [local go_sem ↓] Go.wp_at_zero Go.wp_at_succ
attribute [local go_sem] floatUpon pick

theorem ok_rng {l : List Vr} (h : ChOk l) : ∀ x ∈ l, VrRng x := fun x hx => by
  have rb : reachBytes = 140737488351232 := rfl
  have h1 := h.each x hx
  unfold vrOk at h1
  exact ⟨by omega, by omega⟩

set_option maxRecDepth 20000 in
set_option maxHeartbeats 8000000 in
theorem stays_walk (v : Value) (l : List Vr) (x : Vr) (t low : Int) (w : World) (hv : VrsOf w v l) (hx : VrRng x) :
    Calls Try.prog 5 #[v, .agg (vcs x).toArray, .agg #[.int .i64 t, .int .i64 low]] w fun e w' => e = .returned (.bool true) ∧ Below w.heap.size w w' := by
  obtain ⟨A, c, rfl, hst, h32, hrng, hnil, hlc, hcm⟩ := hv
  have rb : reachBytes = 140737488351232 := rfl
  rw [rb] at h32
  have hlen : (l.length : Int) ≤ 4398046511104 := by omega
  have HWk := Lib.hid (fun W => works_any W)
  have HC := Lib.hid (fun W (hb : Below w.heap.size w W) => lcheck_any A c l W (hst.below hb) h32 hrng hlc)
  have HAd := Lib.hid (fun W (hb : Below w.heap.size w W) => ladd_any A c l x W (hst.below hb) h32 hrng hx hnil hlc)
  have HTh := Lib.hid (fun (hok : ChOk l) W (hb : Below w.heap.size w W) => there_any A c l t W (hst.below hb) hok h32 hrng hlc)
  obtain ⟨m, hmin⟩ : ∃ m, min low t = m := ⟨_, rfl⟩
  have hmt : m ≤ t := by rw [← hmin]; exact Int.min_le_right _ _
  have HMt := Lib.hid hmt
  have HSw := Lib.hid (fun W (hb : Below w.heap.size w W) => lsweep_any A c l m W (hst.below hb) h32 hrng hnil hlc)
  obtain ⟨a, e, hae⟩ : ∃ a e, chkP l = (a, e) := ⟨_, _, rfl⟩
  have HCe := Lib.hid hae
  obtain ⟨R, f, hrf⟩ : ∃ R f, addP l x = (R, f) := ⟨_, _, rfl⟩
  have HRf := Lib.hid hrf
  rw [hae] at HC
  rw [hrf] at HAd
  simp only at HC
  obtain ⟨xt, xs, xd⟩ := x
  clear hst hrng hnil hx hae hrf rb hlc hcm hmt h32
  show Calls _ _ #[_, .agg #[.int .i64 xt, .string xs, .bool xd], _] _ _
  go_enter Try.func5, Try.ntmps5
  go_upto_region 1 with fail
  have hR0 : Cel (w.alloc (.cells #[.int .i64 xt, .string xs, .bool xd] 24)) w.heap.size 24 [.int .i64 xt, .string xs, .bool xd] := (blk1 w _).2
  have hB0 : Below w.heap.size w (w.alloc (.cells #[.int .i64 xt, .string xs, .bool xd] 24)) := (Below.refl _ w).alloc (Nat.le_refl _) _
  have hs0 : (w.alloc (.cells #[.int .i64 xt, .string xs, .bool xd] 24)).heap.size = w.heap.size + 1 := by simp
  generalize w.alloc (.cells #[.int .i64 xt, .string xs, .bool xd] 24) = W0 at hR0 hB0 hs0 ⊢
  have hT1 : Cel (W0.alloc (.cells #[.int .i64 t, .int .i64 low] 40)) (w.heap.size + 1) 40 [.int .i64 t, .int .i64 low] := by rw [← hs0]; exact (blk1 W0 _).2
  have hB1 : Below W0.heap.size W0 (W0.alloc (.cells #[.int .i64 t, .int .i64 low] 40)) := (Below.refl _ W0).alloc (Nat.le_refl _) _
  have hR1 := hR0.below hB1
  have hB2 := hB0.trans (hB1.mono hB0.size)
  generalize W0.alloc (.cells #[.int .i64 t, .int .i64 low] 40) = W1 at hR1 hT1 hB2 ⊢
  have HX1 := Lib.hid hR1
  have HT1 := Lib.hid hT1
  have HB1 := Lib.hid hB2
  clear hR0 hB0 hs0 hT1 hB1 hR1 hB2
  go_wp2_with fail
  refine (HWk.out _).mono ?_
  rintro e1 w1 ⟨rfl, hb⟩
  have HX2 := Lib.hid (HX1.out.below hb)
  have ht2 := HT1.out.below hb
  have HB2 := Lib.hid (HB1.out.trans (hb.mono HB1.out.size))
  have q0 := ht2.cell (i := 0) rfl
  have q1 := ht2.cell (i := 1) rfl
  clear hb ht2 HX1 HT1 HB1 HWk
  go_upto_region 3 with fail
  go_quiet (fail)
  rename_i nq
  have HX3 := Lib.hid (HX2.out.below (below_drew w1.heap.size w1 nq))
  have HB3 := Lib.hid (HB2.out.trans ((below_drew w1.heap.size w1 nq).mono HB2.out.size))
  generalize w1.drewN nq = W3 at HX3 HB3 ⊢
  clear q0 q1 HX2 HB2
  go_wp2_with fail
  refine (HC.out _ HB3.out).mono ?_
  rintro e4 w4 ⟨rfl, hb⟩
  have HX4 := Lib.hid (HX3.out.below hb)
  have HB4 := Lib.hid (HB3.out.trans (hb.mono HB3.out.size))
  clear hb HX3 HB3 HC
  by_cases he : e = 0
  case neg =>
    have hz : (e == 0) = false := by simpa using he
    go_wp2_with fail
    go_ret
    exact ⟨rfl, HB4.out⟩
  subst he
  have HOk := Lib.hid (show ChOk l from chk_ok.1 (by rw [HCe.out]))
  have HTh1 := HTh.out HOk.out
  obtain ⟨s, b, hsb⟩ : ∃ s b, there l t = (s, b) := ⟨_, _, rfl⟩
  have HTh0 := Lib.hid hsb
  rw [hsb] at HTh1
  have HTh1 := Lib.hid HTh1
  have hl1 : l.length ≤ 1024 := HOk.out.len
  have ts := text_eq s
  -- the sweep's plain facts
  have hswp : sweepP l m = (sweepL l m, 0) := by unfold sweepP; rw [if_neg (by rw [HCe.out]; simp)]
  obtain ⟨S, hS⟩ : ∃ S, sweepL l m = S := ⟨_, rfl⟩
  have hSok : ChOk S := by rw [← hS]; exact ok_sub HOk.out (sweep_sub m)
  have hSl : S.length ≤ l.length := by rw [← hS]; exact (sweep_sub m).length_le
  have hSS : sweepP S m = (S, 0) := by
    unfold sweepP
    rw [if_neg (by rw [chk_zero hSok]; simp), ← hS, sweep_twice HOk.out.rise (Int.le_refl m)]
  have hST : there S t = there l t := by rw [← hS]; exact there_sweep HOk.out HMt.out
  rw [hswp, hS] at HSw
  have HSok := Lib.hid hSok
  have HSS := Lib.hid hSS
  have HST := Lib.hid hST
  have pSl : (S.length : Int) ≤ (l.length : Int) := by omega
  clear hsb hswp hS hSok hSl hSS hST HTh HMt
  go_wp2_with fail
  refine (HTh1.out _ HB4.out).mono ?_
  rintro e5 w5 ⟨rfl, hb⟩
  have hx5 := HX4.out.below hb
  have HB5 := Lib.hid (HB4.out.trans (hb.mono HB4.out.size))
  have q0 := hx5.cell (i := 0) rfl
  have q1 := hx5.cell (i := 1) rfl
  have q2 := hx5.cell (i := 2) rfl
  have HX5 := Lib.hid hx5
  clear hb HX4 HB4 HTh1 hx5
  go_wp2_with fail
  refine (show Calls _ _ #[_, .agg #[.int .i64 xt, .string xs, .bool xd]] _ _ from HAd.out _ HB5.out).mono ?_
  rintro e6 w6 ⟨v6, rfl, ho6, hb⟩
  have hx6 := HX5.out.below hb
  have HB6 := Lib.hid (HB5.out.trans (hb.mono HB5.out.size))
  have q0 := hx6.cell (i := 0) rfl
  obtain ⟨A6, c6, rfl, hr6, hlc6, hcm6, hnil6⟩ := vrs_own ho6 rfl
  have HR6 := Lib.hid hr6
  have HLc6 := Lib.hid hlc6
  clear hb HX5 HB5 HAd hx6 q1 q2 ho6 hr6 hlc6 hcm6 hnil6
  by_cases hf : f = 0
  case neg =>
    have hz : (f == 0) = false := by simpa using hf
    go_wp2_with fail
    -- region 13 on: the sweep
    refine (HSw.out _ HB6.out).mono ?_
    rintro e10 w10 ⟨v10, rfl, ho10, hb⟩
    have HB10 := Lib.hid (HB6.out.trans (hb.mono HB6.out.size))
    obtain ⟨A10, c10, rfl, hr10, hlc10, hcm10, hnil10⟩ := vrs_own ho10 rfl
    have HO10 := Lib.hid ho10
    have HR10 := Lib.hid hr10
    have HTh2 := Lib.hid (fun W (hh : VrsAt W A10 S) => there_any A10 c10 S t W hh HSok.out (by have := HSok.out.len; omega) (ok_rng HSok.out) hlc10)
    have HSw2 := Lib.hid (fun W (hh : VrsAt W A10 S) => lsweep_any A10 c10 S m W hh (by have := HSok.out.len; omega) (ok_rng HSok.out) hnil10 hlc10)
    have HCk2 := Lib.hid (fun W (hh : VrsAt W A10 S) => lcheck_any A10 c10 S W hh (by have := HSok.out.len; omega) (ok_rng HSok.out) hlc10)
    rw [HST.out, HTh0.out] at HTh2
    rw [HSS.out] at HSw2
    rw [chk_zero HSok.out] at HCk2
    simp only at HCk2
    clear ho10 hr10 hnil10 hlc10 hcm10 hb HSw
    go_wp2_with fail
    refine (HTh2.out _ HR10.out).mono ?_
    rintro e11 w11 ⟨rfl, hb⟩
    have HB11 := Lib.hid (HB10.out.trans (hb.mono HB10.out.size))
    have HR11 := Lib.hid (HR10.out.below hb)
    clear hb HTh2 HB10
    go_wp2_with fail
    refine (HSw2.out _ HR11.out).mono ?_
    rintro e12 w12 ⟨v12, rfl, ho12, hb⟩
    have HB12 := Lib.hid (HB11.out.trans (hb.mono HB11.out.size))
    have HR12 := Lib.hid (HR11.out.below hb)
    obtain ⟨A12, c12, rfl, hr12, -, -, -⟩ := vrs_own ho12 rfl
    have HQ12 := Lib.hid hr12
    clear hb ho12 hr12 HSw2 HB11 HR11
    go_wp2_with fail
    refine (HCk2.out _ HR12.out).mono ?_
    rintro e13 w13 ⟨rfl, hb⟩
    have HB13 := Lib.hid (HB12.out.trans (hb.mono HB12.out.size))
    have hsm := sameVrs_any A12 A10 c12 c10 S S w13 (HQ12.out.below hb) (HR12.out.below hb) (by have := HSok.out.len; omega)
    rw [show decide (S = S) = true by simp] at hsm
    have HSm := Lib.hid hsm
    clear hb hsm HCk2 HB12 HR12 HQ12
    go_wp2_with fail
    refine HSm.out.mono ?_
    rintro e14 w14 ⟨rfl, hb⟩
    have HB14 := Lib.hid (HB13.out.trans (hb.mono HB13.out.size))
    clear hb HSm HB13
    go_wp2_with fail
    go_ret
    exact ⟨rfl, HB14.out⟩
  subst hf
  obtain ⟨had, hRe⟩ := added (l := l) (v := ⟨xt, xs, xd⟩) (by rw [HRf.out])
  rw [HRf.out] at hRe
  obtain rfl : R = l ++ [⟨xt, xs, xd⟩] := (Prod.mk.injEq _ _ _ _ ▸ hRe).1
  clear hRe
  by_cases ht : t < xt
  case neg =>
    have ht' : ¬ xt > t := by omega
    clear ht had
    go_wp2_with fail
    -- region 13 on: the sweep
    refine (HSw.out _ HB6.out).mono ?_
    rintro e10 w10 ⟨v10, rfl, ho10, hb⟩
    have HB10 := Lib.hid (HB6.out.trans (hb.mono HB6.out.size))
    obtain ⟨A10, c10, rfl, hr10, hlc10, hcm10, hnil10⟩ := vrs_own ho10 rfl
    have HO10 := Lib.hid ho10
    have HR10 := Lib.hid hr10
    have HTh2 := Lib.hid (fun W (hh : VrsAt W A10 S) => there_any A10 c10 S t W hh HSok.out (by have := HSok.out.len; omega) (ok_rng HSok.out) hlc10)
    have HSw2 := Lib.hid (fun W (hh : VrsAt W A10 S) => lsweep_any A10 c10 S m W hh (by have := HSok.out.len; omega) (ok_rng HSok.out) hnil10 hlc10)
    have HCk2 := Lib.hid (fun W (hh : VrsAt W A10 S) => lcheck_any A10 c10 S W hh (by have := HSok.out.len; omega) (ok_rng HSok.out) hlc10)
    rw [HST.out, HTh0.out] at HTh2
    rw [HSS.out] at HSw2
    rw [chk_zero HSok.out] at HCk2
    simp only at HCk2
    clear ho10 hr10 hnil10 hlc10 hcm10 hb HSw
    go_wp2_with fail
    refine (HTh2.out _ HR10.out).mono ?_
    rintro e11 w11 ⟨rfl, hb⟩
    have HB11 := Lib.hid (HB10.out.trans (hb.mono HB10.out.size))
    have HR11 := Lib.hid (HR10.out.below hb)
    clear hb HTh2 HB10
    go_wp2_with fail
    refine (HSw2.out _ HR11.out).mono ?_
    rintro e12 w12 ⟨v12, rfl, ho12, hb⟩
    have HB12 := Lib.hid (HB11.out.trans (hb.mono HB11.out.size))
    have HR12 := Lib.hid (HR11.out.below hb)
    obtain ⟨A12, c12, rfl, hr12, -, -, -⟩ := vrs_own ho12 rfl
    have HQ12 := Lib.hid hr12
    clear hb ho12 hr12 HSw2 HB11 HR11
    go_wp2_with fail
    refine (HCk2.out _ HR12.out).mono ?_
    rintro e13 w13 ⟨rfl, hb⟩
    have HB13 := Lib.hid (HB12.out.trans (hb.mono HB12.out.size))
    have hsm := sameVrs_any A12 A10 c12 c10 S S w13 (HQ12.out.below hb) (HR12.out.below hb) (by have := HSok.out.len; omega)
    rw [show decide (S = S) = true by simp] at hsm
    have HSm := Lib.hid hsm
    clear hb hsm HCk2 HB12 HR12 HQ12
    go_wp2_with fail
    refine HSm.out.mono ?_
    rintro e14 w14 ⟨rfl, hb⟩
    have HB14 := Lib.hid (HB13.out.trans (hb.mono HB13.out.size))
    clear hb HSm HB13
    go_wp2_with fail
    go_ret
    exact ⟨rfl, HB14.out⟩
  have hmore : there (l ++ [⟨xt, xs, xd⟩]) t = (s, b) := by rw [there_more HOk.out.rise (fun y hy => by rw [List.mem_singleton.1 hy]; exact ht)]; exact HTh0.out
  have hthm := there_any A6 c6 (l ++ [⟨xt, xs, xd⟩]) t w6 HR6.out had.more (by have := had.more.len; omega) (ok_rng had.more) HLc6.out
  rw [hmore] at hthm
  have hln : (l ++ [⟨xt, xs, xd⟩] : List Vr).length = l.length + 1 := by simp
  have hnl : ((l ++ [⟨xt, xs, xd⟩] : List Vr).length : Int) = (l.length : Int) + 1 := by omega
  have HThm := Lib.hid hthm
  have ht' : xt > t := ht
  have hl1' : (l.length : Int) ≤ 1024 := by omega
  generalize (l ++ [⟨xt, xs, xd⟩] : List Vr).length = n6 at HThm hnl hln HLc6
  clear ht had hmore hthm hln HR6
  go_wp2_with fail
  refine HThm.out.mono ?_
  rintro e7 w7 ⟨rfl, hb⟩
  have HB7 := Lib.hid (HB6.out.trans (hb.mono HB6.out.size))
  clear hb HThm HB6 q0
  go_wp2_with fail
  -- region 13 on: the sweep
  refine (HSw.out _ HB7.out).mono ?_
  rintro e10 w10 ⟨v10, rfl, ho10, hb⟩
  have HB10 := Lib.hid (HB7.out.trans (hb.mono HB7.out.size))
  obtain ⟨A10, c10, rfl, hr10, hlc10, hcm10, hnil10⟩ := vrs_own ho10 rfl
  have HO10 := Lib.hid ho10
  have HR10 := Lib.hid hr10
  have HTh2 := Lib.hid (fun W (hh : VrsAt W A10 S) => there_any A10 c10 S t W hh HSok.out (by have := HSok.out.len; omega) (ok_rng HSok.out) hlc10)
  have HSw2 := Lib.hid (fun W (hh : VrsAt W A10 S) => lsweep_any A10 c10 S m W hh (by have := HSok.out.len; omega) (ok_rng HSok.out) hnil10 hlc10)
  have HCk2 := Lib.hid (fun W (hh : VrsAt W A10 S) => lcheck_any A10 c10 S W hh (by have := HSok.out.len; omega) (ok_rng HSok.out) hlc10)
  rw [HST.out, HTh0.out] at HTh2
  rw [HSS.out] at HSw2
  rw [chk_zero HSok.out] at HCk2
  simp only at HCk2
  clear ho10 hr10 hnil10 hlc10 hcm10 hb HSw
  go_wp2_with fail
  refine (HTh2.out _ HR10.out).mono ?_
  rintro e11 w11 ⟨rfl, hb⟩
  have HB11 := Lib.hid (HB10.out.trans (hb.mono HB10.out.size))
  have HR11 := Lib.hid (HR10.out.below hb)
  clear hb HTh2 HB10
  go_wp2_with fail
  refine (HSw2.out _ HR11.out).mono ?_
  rintro e12 w12 ⟨v12, rfl, ho12, hb⟩
  have HB12 := Lib.hid (HB11.out.trans (hb.mono HB11.out.size))
  have HR12 := Lib.hid (HR11.out.below hb)
  obtain ⟨A12, c12, rfl, hr12, -, -, -⟩ := vrs_own ho12 rfl
  have HQ12 := Lib.hid hr12
  clear hb ho12 hr12 HSw2 HB11 HR11
  go_wp2_with fail
  refine (HCk2.out _ HR12.out).mono ?_
  rintro e13 w13 ⟨rfl, hb⟩
  have HB13 := Lib.hid (HB12.out.trans (hb.mono HB12.out.size))
  have hsm := sameVrs_any A12 A10 c12 c10 S S w13 (HQ12.out.below hb) (HR12.out.below hb) (by have := HSok.out.len; omega)
  rw [show decide (S = S) = true by simp] at hsm
  have HSm := Lib.hid hsm
  clear hb hsm HCk2 HB12 HR12 HQ12
  go_wp2_with fail
  refine HSm.out.mono ?_
  rintro e14 w14 ⟨rfl, hb⟩
  have HB14 := Lib.hid (HB13.out.trans (hb.mono HB13.out.size))
  clear hb HSm HB13
  go_wp2_with fail
  go_ret
  exact ⟨rfl, HB14.out⟩

end Ch
end Go.Proofs.Ytpdojkfjgfeijaa
