/- What counts, what is left, the last time: the walk of the law; no condition but the range. -/
import Derived.Test.YtpdojkfjgfeijaaChAdds
namespace Go.Proofs.Ytpdojkfjgfeijaa
namespace Ch
open Go.RowKit Bk

attribute [local go_sem ↓] Go.wp_at_zero Go.wp_at_succ
attribute [local go_sem] floatUpon pick

theorem sweepP_len (l : List Vr) (t : Int) : (sweepP l t).1.length ≤ l.length := by
  unfold sweepP
  by_cases h1 : (chkP l).2 ≠ 0
  · rw [if_pos h1]; simp
  rw [if_neg h1]
  exact (sweep_sub t).length_le

set_option maxRecDepth 20000 in
set_option maxHeartbeats 8000000 in
theorem reads_walk (v : Value) (l : List Vr) (t : Int) (w : World) (hv : VrsOf w v l) :
    Calls Try.prog 4 #[v, .int .i64 t] w fun e w' => e = .returned (.bool true) ∧ Below w.heap.size w w' := by
  have hv0 := hv
  obtain ⟨A, c, rfl, hst, h32, hrng, hnil, hlc, hcm⟩ := hv0
  have rb : reachBytes = 140737488351232 := rfl
  rw [rb] at h32
  have hlen : l.length ≤ 4398046511104 := by omega
  have HWk := Lib.hid (fun W => works_any W)
  have HLe := Lib.hid (lend_any (.slice A l.length c) l w hv)
  have HT1 := fun (g cap : Nat) (hcap : l.length ≤ cap) W (h : VrsAt W (some ⟨g, 0, none⟩) l) => lat_any (some ⟨g, 0, none⟩) cap l t W h h32 hrng hcap
  have HT2 := fun W (hb : Below w.heap.size w W) => rat_any A c l t W (hst.below hb) h32 hrng
  have HS1 := Lib.hid (fun (g cap : Nat) (hcap : l.length ≤ cap) W (h : VrsAt W (some ⟨g, 0, none⟩) l) => lsweep_any (some ⟨g, 0, none⟩) cap l t W h h32 hrng (fun e => by cases e) hcap)
  have HS2 := Lib.hid (fun W (hb : Below w.heap.size w W) => rsweep_any A c l t W (hst.below hb) h32 hrng hnil hlc hcm)
  have HN1 := Lib.hid (fun (g cap : Nat) (hcap : l.length ≤ cap) W (h : VrsAt W (some ⟨g, 0, none⟩) l) => llast_any (some ⟨g, 0, none⟩) cap l W h h32 hrng hcap)
  have HN2 := Lib.hid (fun W (hb : Below w.heap.size w W) => rlast_any A c l W (hst.below hb) h32 hrng)
  have HKe := Lib.hid (fun H g cap W (hb : Below w.heap.size w W) (ho : Lent W H l g cap) => kept_any H g cap (.slice A l.length c) l W (hv.below hb) ho)
  have HRl := Lib.hid (show (sweepP l t).1.length ≤ 9223372036854775807 by have := sweepP_len l t; omega)
  obtain ⟨⟨xt, xs, xd⟩, b, e, hat⟩ : ∃ x b e, atP l t = (x, b, e) := ⟨_, _, _, rfl⟩
  obtain ⟨R, f, hrf⟩ : ∃ R f, sweepP l t = (R, f) := ⟨_, _, rfl⟩
  obtain ⟨n, k, hnk⟩ : ∃ n k, lastP l = (n, k) := ⟨_, _, rfl⟩
  rw [hat] at HT1 HT2
  rw [hrf] at HS1 HS2 HRl
  rw [hnk] at HN1 HN2
  simp only at HN1 HN2 HRl
  have HT1 : Hid (∀ (g cap : Nat), l.length ≤ cap → ∀ W : World, VrsAt W (some ⟨g, 0, none⟩) l → Calls Try.prog 17 #[.slice (some ⟨g, 0, none⟩) l.length cap, .int .i64 t] W fun e' w' => e' = .returned (.tuple #[.agg #[.int .i64 xt, .string xs, .bool xd], .bool b, .int .i64 e]) ∧ Below W.heap.size W w') := Lib.hid HT1
  have HT2 : Hid (∀ W : World, Below w.heap.size w W → Calls Try.prog 18 #[.slice A l.length c, .int .i64 t] W fun e' w' => e' = .returned (.tuple #[.agg #[.int .i64 xt, .string xs, .bool xd], .bool b, .int .i64 e]) ∧ Below W.heap.size W w') := Lib.hid HT2
  have t1 := text_eq xs
  clear hv hst hrng hnil hat hrf hnk rb hcm hlc
  go_enter Try.func4, Try.ntmps4
  go_wp2_with fail
  refine HLe.out.mono ?_
  rintro e1 w1 ⟨g, cap, rfl, hL1, hb⟩
  have HB1 := Lib.hid hb
  have HL1 := Lib.hid hL1
  have hcap := hL1.cap.1
  have HCap := Lib.hid (show l.length ≤ cap by omega)
  clear hb hL1 HLe hcap
  go_wp2_with fail
  refine (HT1.out g cap HCap.out _ HL1.out.vrs).mono ?_
  rintro e2 w2 ⟨rfl, hb⟩
  have hF2 : Cel (w2.alloc (.cells #[.int .i64 xt, .string xs, .bool xd] 24)) w2.heap.size 24 [.int .i64 xt, .string xs, .bool xd] := (blk1 w2 _).2
  have hbF : Below w2.heap.size w2 (w2.alloc (.cells #[.int .i64 xt, .string xs, .bool xd] 24)) := (Below.refl _ w2).alloc (Nat.le_refl _) _
  have hb2 := hb.trans (hbF.mono hb.size)
  have HX2 := Lib.hid hF2
  have HL2 := Lib.hid (HL1.out.below hb2)
  have HB2 := Lib.hid (HB1.out.trans (hb2.mono HB1.out.size))
  clear hb hb2 hF2 hbF HL1 HB1 HT1
  go_upto_region 3 with fail
  generalize hG2 : w2.heap.size = G2 at HX2 ⊢
  generalize w2.alloc (.cells #[.int .i64 xt, .string xs, .bool xd] 24) = W2 at HX2 HL2 HB2 ⊢
  clear hG2
  go_wp2_with fail
  refine (HT2.out _ HB2.out).mono ?_
  rintro e3 w3 ⟨rfl, hb⟩
  have hF3 : Cel (w3.alloc (.cells #[.int .i64 xt, .string xs, .bool xd] 24)) w3.heap.size 24 [.int .i64 xt, .string xs, .bool xd] := (blk1 w3 _).2
  have hbF : Below w3.heap.size w3 (w3.alloc (.cells #[.int .i64 xt, .string xs, .bool xd] 24)) := (Below.refl _ w3).alloc (Nat.le_refl _) _
  have hb2 := hb.trans (hbF.mono hb.size)
  have HX3 := Lib.hid (HX2.out.below hb2)
  have HY3 := Lib.hid hF3
  have HL3 := Lib.hid (HL2.out.below hb2)
  have HB3 := Lib.hid (HB2.out.trans (hb2.mono HB2.out.size))
  clear hb hb2 hF3 hbF HL2 HB2 HT2 HX2
  go_upto_region 4 with fail
  generalize hG3 : w3.heap.size = G3 at HY3 ⊢
  generalize w3.alloc (.cells #[.int .i64 xt, .string xs, .bool xd] 24) = W3 at HX3 HY3 HL3 HB3 ⊢
  clear hG3
  go_wp2_with fail
  refine (HS1.out g cap HCap.out _ HL3.out.vrs).mono ?_
  rintro e4 w4 ⟨v4, rfl, ho4, hb⟩
  have HX4 := Lib.hid (HX3.out.below hb)
  have HY4 := Lib.hid (HY3.out.below hb)
  have HL4 := Lib.hid (HL3.out.below hb)
  have HB34 := Lib.hid hb
  have HB4 := Lib.hid (HB3.out.trans (hb.mono HB3.out.size))
  have HO4 := Lib.hid ho4
  clear hb HX3 HY3 HS1 ho4
  go_wp2_with fail
  refine (HS2.out _ HB4.out).mono ?_
  rintro e5 w5 ⟨v5, rfl, ho5, hb⟩
  have HX5 := Lib.hid (HX4.out.below hb)
  have HY5 := Lib.hid (HY4.out.below hb)
  have HL5 := Lib.hid (HL4.out.below hb)
  have HB35 := Lib.hid (HB34.out.trans (hb.mono HB34.out.size))
  have HB5 := Lib.hid (HB4.out.trans (hb.mono HB4.out.size))
  have HO45 := Lib.hid (row_form HO4.out hb)
  have HO5 := Lib.hid ho5
  clear hb HX4 HY4 HL4 HB34 HB4 HO4 HS2 ho5
  go_wp2_with fail
  refine (HN1.out g cap HCap.out _ HL5.out.vrs).mono ?_
  rintro e6 w6 ⟨rfl, hb⟩
  have HX6 := Lib.hid (HX5.out.below hb)
  have HY6 := Lib.hid (HY5.out.below hb)
  have HB36 := Lib.hid (HB35.out.trans (hb.mono HB35.out.size))
  have HB6 := Lib.hid (HB5.out.trans (hb.mono HB5.out.size))
  have HO46 := Lib.hid (row_form HO45.out hb)
  have HO56 := Lib.hid (row_form HO5.out hb)
  clear hb HX5 HY5 HL5 HB35 HB5 HO45 HO5 HN1
  go_wp2_with fail
  refine (HN2.out _ HB6.out).mono ?_
  rintro e7 w7 ⟨rfl, hb⟩
  have hx7 := HX6.out.below hb
  have hy7 := HY6.out.below hb
  have HB37 := Lib.hid (HB36.out.trans (hb.mono HB36.out.size))
  have ho4 := row_form HO46.out hb
  have ho5 := row_form HO56.out hb
  have HO7 := Lib.hid ho4
  obtain ⟨A4, c4, rfl, hr4, -, -, -⟩ := vrs_own ho4 rfl
  obtain ⟨A5, c5, rfl, hr5, -, -, -⟩ := vrs_own ho5 rfl
  have hsm := sameVrs_any A4 A5 c4 c5 R R w7 hr4 hr5 HRl.out
  rw [show decide (R = R) = true by simp] at hsm
  have HSm := Lib.hid hsm
  have hRl : (R.length : Int) ≤ 9223372036854775807 := by have := HRl.out; omega
  have x0 := hx7.cell (i := 0) rfl
  have x1 := hx7.cell (i := 1) rfl
  have x2 := hx7.cell (i := 2) rfl
  have y0 := hy7.cell (i := 0) rfl
  have y1 := hy7.cell (i := 1) rfl
  have y2 := hy7.cell (i := 2) rfl
  clear hb ho4 ho5 hr4 hr5 hsm HN2 HX6 HY6 hx7 hy7 HB36 HB6 HO46 HO56
  go_wp2_with fail
  refine HSm.out.mono ?_
  rintro e8 w8 ⟨rfl, hb⟩
  have HB38 := Lib.hid (HB37.out.trans (hb.mono HB37.out.size))
  have HO8 := Lib.hid (row_form HO7.out hb)
  clear hb HSm HO7 HB37 x0 x1 x2 y0 y1 y2
  go_wp2_with fail
  refine (spoil_own HO8.out HRl.out W3 HB38.out HB38.out.size).mono ?_
  rintro e9 w9 ⟨rfl, hb⟩
  have HL9 := Lib.hid (HL3.out.below hb)
  have HB9 := Lib.hid (HB3.out.trans (hb.mono HB3.out.size))
  clear hb HO8 HB38 HL3 HB3
  go_wp2_with fail
  refine (HKe.out _ g cap _ HB9.out HL9.out).mono ?_
  rintro e10 w10 ⟨rfl, hb⟩
  have HB10 := Lib.hid (HB9.out.trans (hb.mono HB9.out.size))
  clear hb HKe HL9 HB9
  go_wp2_with fail
  refine (HWk.out _).mono ?_
  rintro e11 w11 ⟨rfl, hb⟩
  have HB11 := Lib.hid (HB10.out.trans (hb.mono HB10.out.size))
  clear hb HWk HB10
  go_wp2_with fail
  go_ret
  exact ⟨rfl, HB11.out⟩

end Ch
end Go.Proofs.Ytpdojkfjgfeijaa
