/- Adds to chains: the walk of the law; no condition but the range. -/
import Derived.Test.YtpdojkfjgfeijaaChWorks
namespace Go.Proofs.Ytpdojkfjgfeijaa
namespace Ch
open Go.RowKit Bk

attribute [local go_sem ↓] Go.wp_at_zero Go.wp_at_succ
attribute [local go_sem] floatUpon pick

theorem VrsOf.below {w W : World} {v : Value} {l : List Vr} (h : VrsOf w v l) (hb : Below w.heap.size w W) : VrsOf W v l := by
  obtain ⟨A, c, e, h1, h2⟩ := h
  exact ⟨A, c, e, h1.below hb, h2⟩

/-- an answer's row, in any later world -/
theorem row_form {w W : World} {H : Nat} {v : Value} {R : List Vr} (h : w.ownsRow H 24 3 v R.length (vrV R)) (hb : Below w.heap.size w W) : W.ownsRow H 24 3 v R.length (vrV R) := st_keep h hb

/-- what is spoilt stands in a new block -/
theorem spoil_own {W : World} {H : Nat} {v : Value} {R : List Vr} (h : W.ownsRow H 24 3 v R.length (vrV R)) (hR : R.length ≤ 9223372036854775807) (w : World) (hb : Below H w W) (hH : H ≤ W.heap.size) :
    Calls Try.prog 14 #[v] W fun e w' => e = .returned (.tuple #[]) ∧ Below H w w' := by
  obtain ⟨A, c, rfl, -, -, -, -⟩ := vrs_own h rfl
  refine (spoil_any A c R.length W hR (spoil_row h)).mono ?_
  rintro e w' ⟨rfl, hg⟩
  exact ⟨rfl, hb.grown hg hH (fun k hk => (h.lt k hk).1)⟩

theorem addP_len (l : List Vr) (x : Vr) : (addP l x).1.length ≤ l.length + 1 := by
  unfold addP
  by_cases h1 : (chkP l).2 ≠ 0
  · rw [if_pos h1]; simp
  rw [if_neg h1]
  by_cases h2 : (chkP [x]).2 ≠ 0
  · rw [if_pos h2]; simp
  rw [if_neg h2]
  by_cases h3 : 0 < l.length ∧ x.ts ≤ lastT l
  · rw [if_pos h3]; simp
  rw [if_neg h3]
  by_cases h4 : 1024 ≤ l.length
  · rw [if_pos h4]; simp
  rw [if_neg h4]
  simp

set_option maxRecDepth 20000 in
set_option maxHeartbeats 8000000 in
theorem adds_walk (v : Value) (l : List Vr) (x : Vr) (w : World) (hv : VrsOf w v l) (hx : VrRng x) :
    Calls Try.prog 3 #[v, .agg (vcs x).toArray] w fun e w' => e = .returned (.bool true) ∧ Below w.heap.size w w' := by
  have hv0 := hv
  obtain ⟨A, c, rfl, hst, h32, hrng, hnil, hlc, hcm⟩ := hv0
  have rb : reachBytes = 140737488351232 := rfl
  rw [rb] at h32
  have hlen : l.length ≤ 4398046511104 := by omega
  have HWk := Lib.hid (fun W => works_any W)
  have HLe := Lib.hid (fun W (hb : Below w.heap.size w W) => lend_any (.slice A l.length c) l W (hv.below hb))
  have HC1 := Lib.hid (fun (g cap : Nat) (hcap : l.length ≤ cap) W (h : VrsAt W (some ⟨g, 0, none⟩) l) => lcheck_any (some ⟨g, 0, none⟩) cap l W h h32 hrng hcap)
  have HC2 := Lib.hid (fun W (hb : Below w.heap.size w W) => rcheck_any A c l W (hst.below hb) h32 hrng)
  have HA1 := Lib.hid (fun (g cap : Nat) (hcap : l.length ≤ cap) W (h : VrsAt W (some ⟨g, 0, none⟩) l) => ladd_any (some ⟨g, 0, none⟩) cap l x W h h32 hrng hx (fun e => by cases e) hcap)
  have HA2 := Lib.hid (fun W (hb : Below w.heap.size w W) => radd_any A c l x W (hst.below hb) h32 hrng hx hnil)
  have HKe := Lib.hid (fun H g cap W (hb : Below w.heap.size w W) (ho : Lent W H l g cap) => kept_any H g cap (.slice A l.length c) l W (hv.below hb) ho)
  have HRl := Lib.hid (show (addP l x).1.length ≤ 9223372036854775807 by have := addP_len l x; omega)
  obtain ⟨a, e, hae⟩ : ∃ a e, chkP l = (a, e) := ⟨_, _, rfl⟩
  obtain ⟨R, f, hrf⟩ : ∃ R f, addP l x = (R, f) := ⟨_, _, rfl⟩
  rw [hae] at HC1 HC2
  rw [hrf] at HA1 HA2 HRl
  simp only at HC1 HC2 HRl
  obtain ⟨xt, xs, xd⟩ := x
  clear hv hst hrng hnil hx hae hrf rb
  show Calls _ _ #[_, .agg #[.int .i64 xt, .string xs, .bool xd]] _ _
  go_enter Try.func3, Try.ntmps3
  go_upto_region 1 with fail
  have hR0 : Cel (w.alloc (.cells #[.int .i64 xt, .string xs, .bool xd] 24)) w.heap.size 24 [.int .i64 xt, .string xs, .bool xd] := (blk1 w _).2
  have hB0 : Below w.heap.size w (w.alloc (.cells #[.int .i64 xt, .string xs, .bool xd] 24)) := (Below.refl _ w).alloc (Nat.le_refl _) _
  generalize w.alloc (.cells #[.int .i64 xt, .string xs, .bool xd] 24) = W0 at hR0 hB0 ⊢
  go_wp2_with fail
  refine (HLe.out _ hB0).mono ?_
  rintro e1 w1 ⟨g, cap, rfl, hL1, hb⟩
  have HX1 := Lib.hid (hR0.below hb)
  have HB1 := Lib.hid (hB0.trans (hb.mono hB0.size))
  have HL1 := Lib.hid hL1
  have hcap := hL1.cap.1
  have HCap := Lib.hid (show l.length ≤ cap by omega)
  clear hb hL1 hR0 hB0 HLe hcap
  go_wp2_with fail
  refine (HC1.out g cap HCap.out _ HL1.out.vrs).mono ?_
  rintro e2 w2 ⟨rfl, hb⟩
  have HX2 := Lib.hid (HX1.out.below hb)
  have HL2 := Lib.hid (HL1.out.below hb)
  have HB2 := Lib.hid (HB1.out.trans (hb.mono HB1.out.size))
  clear hb HX1 HL1 HB1 HC1
  go_wp2_with fail
  refine (HC2.out _ HB2.out).mono ?_
  rintro e3 w3 ⟨rfl, hb⟩
  have hX3 := HX2.out.below hb
  have HX3 := Lib.hid hX3
  have HL3 := Lib.hid (HL2.out.below hb)
  have HB3 := Lib.hid (HB2.out.trans (hb.mono HB2.out.size))
  have q0 := hX3.cell (i := 0) rfl
  have q1 := hX3.cell (i := 1) rfl
  have q2 := hX3.cell (i := 2) rfl
  clear hb HX2 HL2 HB2 HC2 hX3
  go_wp2_with fail
  refine (show Calls _ _ #[_, .agg #[.int .i64 xt, .string xs, .bool xd]] _ _ from HA1.out g cap HCap.out _ HL3.out.vrs).mono ?_
  rintro e4 w4 ⟨v4, rfl, ho4, hb⟩
  have hX4 := HX3.out.below hb
  have HB34 := Lib.hid hb
  have HB4 := Lib.hid (HB3.out.trans (hb.mono HB3.out.size))
  have HO4 := Lib.hid ho4
  have q0 := hX4.cell (i := 0) rfl
  have q1 := hX4.cell (i := 1) rfl
  have q2 := hX4.cell (i := 2) rfl
  clear hb HX3 HA1 ho4 hX4
  go_wp2_with fail
  refine (show Calls _ _ #[_, .agg #[.int .i64 xt, .string xs, .bool xd]] _ _ from HA2.out _ HB4.out).mono ?_
  rintro e5 w5 ⟨v5, rfl, ho5, hb⟩
  have HB35 := Lib.hid (HB34.out.trans (hb.mono HB34.out.size))
  have ho4 := row_form HO4.out hb
  have HO4 := Lib.hid ho4
  obtain ⟨A4, c4, rfl, hr4, -, -, -⟩ := vrs_own ho4 rfl
  obtain ⟨A5, c5, rfl, hr5, -, -, -⟩ := vrs_own ho5 rfl
  have hsm := sameVrs_any A4 A5 c4 c5 R R w5 hr4 hr5 HRl.out
  rw [show decide (R = R) = true by simp] at hsm
  have HSm := Lib.hid hsm
  have hRl : (R.length : Int) ≤ 9223372036854775807 := by have := HRl.out; omega
  clear hb ho4 ho5 hr4 hr5 hsm HA2 HB34 HB4 q0 q1 q2
  go_wp2_with fail
  refine HSm.out.mono ?_
  rintro e6 w6 ⟨rfl, hb⟩
  have HB36 := Lib.hid (HB35.out.trans (hb.mono HB35.out.size))
  have HO6 := Lib.hid (row_form HO4.out hb)
  clear hb HSm HO4 HB35
  go_wp2_with fail
  refine (spoil_own HO6.out HRl.out w3 HB36.out HB36.out.size).mono ?_
  rintro e7 w7 ⟨rfl, hb⟩
  have HL7 := Lib.hid (HL3.out.below hb)
  have HB7 := Lib.hid (HB3.out.trans (hb.mono HB3.out.size))
  clear hb HO6 HB36 HL3
  go_wp2_with fail
  refine (HKe.out _ g cap _ HB7.out HL7.out).mono ?_
  rintro e8 w8 ⟨rfl, hb⟩
  have HB8 := Lib.hid (HB7.out.trans (hb.mono HB7.out.size))
  clear hb HKe HL7 HB7
  go_wp2_with fail
  refine (HWk.out _).mono ?_
  rintro e9 w9 ⟨rfl, hb⟩
  have HB9 := Lib.hid (HB8.out.trans (hb.mono HB8.out.size))
  clear hb HWk HB8
  go_wp2_with fail
  go_ret
  exact ⟨rfl, HB9.out⟩

end Ch
end Go.Proofs.Ytpdojkfjgfeijaa
