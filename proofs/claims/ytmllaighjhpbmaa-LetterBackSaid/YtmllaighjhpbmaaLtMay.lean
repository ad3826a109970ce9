/- What the landed package's mayBe and Check answer; contracts; no condition but the range. -/
import Derived.Test.YtmllaighjhpbmaaLtKind
namespace Go.Proofs.Ytmllaighjhpbmaa
namespace Lt
open Go.RowKit Bk

attribute [local go_sem ↓] Go.wp_at_zero Go.wp_at_succ
attribute [local go_sem] floatUpon pick

set_option maxRecDepth 20000 in
set_option maxHeartbeats 8000000 in
theorem mayBe_any (A B : Option Addr) (c d : Nat) (l : Let) (w : World) (ha : StrsAt w A l.keys) (hb : WrsAt w B l.ws) (hr : LetRng l) :
    Calls Try.prog 29 #[letV l A B c d] w fun e w' => e = .returned (.bool (okB l)) ∧ Below w.heap.size w w' := by
  have HRm := Lib.hid (fun W => roomOf_any l.kind W)
  have HA1 := Lib.hid (fun W => isAddress_any l.src W)
  have HA2 := Lib.hid (fun W => isAddress_any l.dst W)
  have HT := Lib.hid (fun W => within_any l.txn 1 1125899906842623 W)
  have HS := Lib.hid (fun W => within_any l.ts 0 1125899906842624 W)
  have HH := Lib.hid (fun W (hbl : Below w.heap.size w W) => holds_any (roomR l.kind).1 A B c d l W (ha.below hbl) (hb.below hbl) hr)
  have henv := LtEnv.start (c := c) (d := d) ha hb
  have e0 := okB_parts l
  unfold letV at HH ⊢
  clear ha hb hr
  go_enter Try.func29, Try.ntmps29
  go_upto_region 1 with fail
  generalize w.alloc (.cells #[.int .i64 l.kind, .int .i64 l.src, .int .i64 l.dst, .int .i64 l.txn, .int .i64 l.ts, .int .i64 l.code, .string l.text, .slice A l.keys.length c, .slice B l.ws.length d] 25) = W1 at henv ⊢
  have k0 := henv.cel.cell (i := 0) rfl
  have HE := Lib.hid henv
  clear henv
  generalize roomR l.kind = R at *
  obtain ⟨r, x0⟩ := R
  unfold rmV at HRm HH
  simp only at HRm HH e0
  go_wp2_with fail
  refine (HRm.out _).mono ?_
  rintro e w2 ⟨rfl, hb⟩
  have HE2 := Lib.hid (HE.out.step hb)
  clear hb HE HRm
  go_upto_region 2 with fail
  have hC : Cel (w2.alloc (.cells #[.int .i64 r.code, .int .i64 r.text, .int .i64 r.fewest, .int .i64 r.most, .int .i64 r.writes] 81)) w2.heap.size 81 [.int .i64 r.code, .int .i64 r.text, .int .i64 r.fewest, .int .i64 r.most, .int .i64 r.writes] := (blk1 w2 _).2
  have henv := HE2.out.step ((Below.refl _ w2).alloc (Nat.le_refl _) (.cells #[.int .i64 r.code, .int .i64 r.text, .int .i64 r.fewest, .int .i64 r.most, .int .i64 r.writes] 81))
  generalize w2.alloc (.cells #[.int .i64 r.code, .int .i64 r.text, .int .i64 r.fewest, .int .i64 r.most, .int .i64 r.writes] 81) = W3 at hC henv ⊢
  generalize w2.heap.size = g at hC ⊢
  have r0 := hC.cell (i := 0) rfl
  have r1 := hC.cell (i := 1) rfl
  have r2 := hC.cell (i := 2) rfl
  have r3 := hC.cell (i := 3) rfl
  have r4 := hC.cell (i := 4) rfl
  have k0 := henv.cel.cell (i := 0) rfl
  have k1 := henv.cel.cell (i := 1) rfl
  have k2 := henv.cel.cell (i := 2) rfl
  have k3 := henv.cel.cell (i := 3) rfl
  have k4 := henv.cel.cell (i := 4) rfl
  have k5 := henv.cel.cell (i := 5) rfl
  have k6 := henv.cel.cell (i := 6) rfl
  have k7 := henv.cel.cell (i := 7) rfl
  have k8 := henv.cel.cell (i := 8) rfl
  have HBl := Lib.hid henv.bel
  clear hC henv HE2
  obtain ⟨x1, hx1⟩ : ∃ x, x = decide (addr l.src) := ⟨_, rfl⟩
  obtain ⟨x2, hx2⟩ : ∃ x, x = decide (addr l.dst) := ⟨_, rfl⟩
  obtain ⟨x3, hx3⟩ : ∃ x, x = (decide (1 ≤ l.txn) && decide (l.txn ≤ 1125899906842623)) := ⟨_, rfl⟩
  obtain ⟨x4, hx4⟩ : ∃ x, x = (decide (0 ≤ l.ts) && decide (l.ts ≤ 1125899906842624)) := ⟨_, rfl⟩
  rw [← hx1, ← hx2, ← hx3, ← hx4] at e0
  rw [← hx1] at HA1
  rw [← hx2] at HA2
  rw [← hx3] at HT
  rw [← hx4] at HS
  clear hx1 hx2 hx3 hx4
  cases x0 with
  | false =>
    have E := Lib.hid e0
    clear e0
    go_wp2_with fail
    go_ret
    exact ⟨by rw [E.out]; rfl, HBl.out⟩
  | true =>
  cases x1 with
  | false =>
    have E := Lib.hid e0
    clear e0
    go_wp2_with fail
    refine (HA1.out _).mono ?_
    rintro e w3 ⟨rfl, rfl⟩
    go_wp2_with fail
    go_ret
    exact ⟨by rw [E.out]; rfl, HBl.out⟩
  | true =>
  cases x2 with
  | false =>
    have E := Lib.hid e0
    clear e0
    go_wp2_with fail
    refine (HA1.out _).mono ?_
    rintro e w3 ⟨rfl, rfl⟩
    go_wp2_with fail
    refine (HA2.out _).mono ?_
    rintro e w3 ⟨rfl, rfl⟩
    go_wp2_with fail
    go_ret
    exact ⟨by rw [E.out]; rfl, HBl.out⟩
  | true =>
  cases x3 with
  | false =>
    have E := Lib.hid e0
    clear e0
    go_wp2_with fail
    refine (HA1.out _).mono ?_
    rintro e w3 ⟨rfl, rfl⟩
    go_wp2_with fail
    refine (HA2.out _).mono ?_
    rintro e w3 ⟨rfl, rfl⟩
    go_wp2_with fail
    refine (HT.out _).mono ?_
    rintro e w3 ⟨rfl, rfl⟩
    go_wp2_with fail
    go_ret
    exact ⟨by rw [E.out]; rfl, HBl.out⟩
  | true =>
  cases x4 with
  | false =>
    have E := Lib.hid e0
    clear e0
    go_wp2_with fail
    refine (HA1.out _).mono ?_
    rintro e w3 ⟨rfl, rfl⟩
    go_wp2_with fail
    refine (HA2.out _).mono ?_
    rintro e w3 ⟨rfl, rfl⟩
    go_wp2_with fail
    refine (HT.out _).mono ?_
    rintro e w3 ⟨rfl, rfl⟩
    go_wp2_with fail
    refine (HS.out _).mono ?_
    rintro e w3 ⟨rfl, rfl⟩
    go_wp2_with fail
    go_ret
    exact ⟨by rw [E.out]; rfl, HBl.out⟩
  | true =>
    have E := Lib.hid (show okB l = holdsB r l by rw [e0]; simp)
    clear e0
    go_wp2_with fail
    refine (HA1.out _).mono ?_
    rintro e w3 ⟨rfl, rfl⟩
    go_wp2_with fail
    refine (HA2.out _).mono ?_
    rintro e w3 ⟨rfl, rfl⟩
    go_wp2_with fail
    refine (HT.out _).mono ?_
    rintro e w3 ⟨rfl, rfl⟩
    go_wp2_with fail
    refine (HS.out _).mono ?_
    rintro e w3 ⟨rfl, rfl⟩
    go_wp2_with fail
    refine (HH.out _ HBl.out).mono ?_
    rintro e w3 ⟨rfl, hb⟩
    have HB3 := Lib.hid (HBl.out.trans (hb.mono HBl.out.size))
    clear hb
    go_wp2_with fail
    go_ret
    exact ⟨by rw [E.out]; rfl, HB3.out⟩

set_option maxRecDepth 20000 in
set_option maxHeartbeats 2000000 in
theorem lcheck_any (A B : Option Addr) (c d : Nat) (l : Let) (w : World) (ha : StrsAt w A l.keys) (hb : WrsAt w B l.ws) (hr : LetRng l) :
    Calls Try.prog 13 #[letV l A B c d] w fun e w' => e = .returned (.int .i64 (ckN l : Int)) ∧ Below w.heap.size w w' := by
  have HM := Lib.hid (fun W (hbl : Below w.heap.size w W) => mayBe_any A B c d l W (ha.below hbl) (hb.below hbl) hr)
  have henv := LtEnv.start (c := c) (d := d) ha hb
  have e0 : ckN l = if okB l then 0 else 70 := by
    unfold ckN
    by_cases h : LetOk l
    · rw [if_pos h, okB_true h]; rfl
    · rw [if_neg h, okB_false h]; rfl
  unfold letV at HM ⊢
  clear ha hb hr
  go_enter Try.func13, Try.ntmps13
  go_upto_region 1 with fail
  generalize w.alloc (.cells #[.int .i64 l.kind, .int .i64 l.src, .int .i64 l.dst, .int .i64 l.txn, .int .i64 l.ts, .int .i64 l.code, .string l.text, .slice A l.keys.length c, .slice B l.ws.length d] 25) = W1 at henv ⊢
  have k0 := henv.cel.cell (i := 0) rfl
  have k1 := henv.cel.cell (i := 1) rfl
  have k2 := henv.cel.cell (i := 2) rfl
  have k3 := henv.cel.cell (i := 3) rfl
  have k4 := henv.cel.cell (i := 4) rfl
  have k5 := henv.cel.cell (i := 5) rfl
  have k6 := henv.cel.cell (i := 6) rfl
  have k7 := henv.cel.cell (i := 7) rfl
  have k8 := henv.cel.cell (i := 8) rfl
  have HBl := Lib.hid henv.bel
  clear henv
  generalize okB l = bb at *
  cases bb with
  | false =>
    have E := Lib.hid e0
    clear e0
    go_wp2_with fail
    refine (HM.out _ HBl.out).mono ?_
    rintro e w3 ⟨rfl, hb⟩
    have HB3 := Lib.hid (HBl.out.trans (hb.mono HBl.out.size))
    clear hb
    go_wp2_with fail
    go_ret
    exact ⟨by rw [E.out]; rfl, HB3.out⟩
  | true =>
    have E := Lib.hid e0
    clear e0
    go_wp2_with fail
    refine (HM.out _ HBl.out).mono ?_
    rintro e w3 ⟨rfl, hb⟩
    have HB3 := Lib.hid (HBl.out.trans (hb.mono HBl.out.size))
    clear hb
    go_wp2_with fail
    go_ret
    exact ⟨by rw [E.out]; rfl, HB3.out⟩

end Lt
end Go.Proofs.Ytmllaighjhpbmaa
