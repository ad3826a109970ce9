/- The landed chain: Last, At, Sweep, Add; contracts; no condition but the range. -/
import Derived.Test.YtpdojkfjgfeijaaChL3
namespace Go.Proofs.Ytpdojkfjgfeijaa
namespace Ch
open Go.RowKit Bk

attribute [local go_sem ↓] Go.wp_at_zero Go.wp_at_succ
attribute [local go_sem] floatUpon pick

set_option maxRecDepth 20000 in
set_option maxHeartbeats 4000000 in
theorem llast_any (A : Option Addr) (c : Nat) (l : List Vr) (w : World) (h : VrsAt w A l) (hn : l.length * 32 ≤ 140737488351232) (hr : ∀ x ∈ l, VrRng x) (hc : l.length ≤ c) :
    Calls Try.prog 21 #[.slice A l.length c] w fun e w' => e = .returned (.tuple #[.int .i64 (lastP l).1, .int .i64 (lastP l).2]) ∧ Below w.heap.size w w' := by
  have HC := Lib.hid (lcheck_any A c l w h hn hr hc)
  have HL := Lib.hid (fun W (hb : Below w.heap.size w W) => last_in A c l l.length W (h.below hb) rfl (by omega))
  have E := Lib.hid (show lastP l = if (chkP l).2 ≠ 0 then (0, (chkP l).2) else (lastT l, 0) from rfl)
  obtain ⟨a, e, hae⟩ : ∃ a e, chkP l = (a, e) := ⟨_, _, rfl⟩
  rw [hae] at HC E
  simp only at HC E
  clear h hr hae hc hn
  go_enter Try.func21, Try.ntmps21
  go_wp2_with fail
  refine HC.out.mono ?_
  rintro e1 w1 ⟨rfl, hb⟩
  have HB := Lib.hid hb
  clear HC hb
  by_cases he : e = 0
  · subst he
    have E2 := Lib.hid (show lastP l = (lastT l, 0) by rw [E.out]; rfl)
    clear E
    go_wp2_with fail
    refine (HL.out _ HB.out).mono ?_
    rintro e2 w2 ⟨rfl, rfl⟩
    go_wp2_with fail
    go_ret2
    exact ⟨by rw [E2.out]; rfl, HB.out⟩
  · have E2 := Lib.hid (show lastP l = (0, e) by rw [E.out, if_pos he])
    have hz : (e == 0) = false := by simpa using he
    clear E
    go_wp2_with fail
    go_ret2
    exact ⟨by rw [E2.out]; rfl, HB.out⟩

set_option maxRecDepth 20000 in
set_option maxHeartbeats 4000000 in
theorem lat_any (A : Option Addr) (c : Nat) (l : List Vr) (t : Int) (w : World) (h : VrsAt w A l) (hn : l.length * 32 ≤ 140737488351232) (hr : ∀ x ∈ l, VrRng x) (hc : l.length ≤ c) :
    Calls Try.prog 17 #[.slice A l.length c, .int .i64 t] w fun e w' => e = .returned (.tuple #[.agg (vcs (atP l t).1).toArray, .bool (atP l t).2.1, .int .i64 (atP l t).2.2]) ∧ Below w.heap.size w w' := by
  have HC := Lib.hid (fun W (hb : Below w.heap.size w W) => lcheck_any A c l W (h.below hb) hn hr hc)
  have HP0 := Lib.hid (fun (hok : ChOk l) W (hb : Below w.heap.size w W) => notAbove_any A c l t W (h.below hb) hok.rise hok.len)
  have HOk := Lib.hid (fun (h0 : (chkP l).2 = 0) => chk_ok.1 h0)
  have HA := Lib.hid h
  have HRg := Lib.hid hr
  have hlen : (l.length : Int) ≤ 9223372036854775807 := by omega
  have E := Lib.hid (show atP l t = if (chkP l).2 ≠ 0 then (noVr, false, (chkP l).2) else ((atV l t).1, (atV l t).2, 0) from rfl)
  obtain ⟨a, e, hae⟩ : ∃ a e, chkP l = (a, e) := ⟨_, _, rfl⟩
  rw [hae] at HC E HOk
  simp only at HC E HOk
  clear h hr hae hc
  go_enter Try.func17, Try.ntmps17
  go_wp2_with fail
  have hR0 : Cel (w.alloc (.cells #[.int .i64 0, .string ⟨#[]⟩, .bool false] 24)) w.heap.size 24 [.int .i64 0, .string ⟨#[]⟩, .bool false] := (blk1 w _).2
  have hB0 : Below w.heap.size w (w.alloc (.cells #[.int .i64 0, .string ⟨#[]⟩, .bool false] 24)) := (Below.refl _ w).alloc (Nat.le_refl _) _
  refine (HC.out _ hB0).mono ?_
  rintro e1 w1 ⟨rfl, hb⟩
  have HR := Lib.hid (hR0.below hb)
  have HB := Lib.hid (hB0.trans (hb.mono hB0.size))
  clear HC hb hR0 hB0
  by_cases he : e = 0
  · subst he
    have HP := Lib.hid (HP0.out (HOk.out rfl))
    have hpl := place_le l t
    clear HP0
    cases hpn : placeN l t with
    | zero =>
      have E2 := Lib.hid (show atP l t = (noVr, false, 0) by rw [E.out]; unfold atV; rw [low_none hpn]; rfl)
      rw [hpn] at HP
      clear E hpn hpl
      go_wp2_with fail
      refine (HP.out _ HB.out).mono ?_
      rintro e2 w2 ⟨rfl, hb⟩
      have HB2 := Lib.hid (HB.out.trans (hb.mono HB.out.size))
      have HR2 := Lib.hid (HR.out.below hb)
      clear hb
      have zq := fun i => HR2.out.free (i := i)
      have q0 := HR2.out.cell (i := 0) rfl
      have q1 := HR2.out.cell (i := 1) rfl
      have q2 := HR2.out.cell (i := 2) rfl
      go_wp2_with fail
      have HF := Lib.hid (set3_cel (v0 := .int .i64 0) (v1 := .string ⟨#[]⟩) (v2 := .bool false) HR2.out)
      have z0 := HF.out.cell (i := 0) rfl
      have z1 := HF.out.cell (i := 1) rfl
      have z2 := HF.out.cell (i := 2) rfl
      unfold set3 at z0 z1 z2
      exact bodyPost_ret (v := .tuple #[.agg #[.int .i64 0, .string ⟨#[]⟩, .bool false], .bool false, .int .i64 0]) (by simp [results, Try.results17, go_sem, z0, z1, z2]) rfl ⟨by rw [E2.out]; rfl, set3_below HB2.out (Nat.le_refl _)⟩
    | succ k =>
      obtain ⟨hk, hlast⟩ := low_last hpn
      obtain ⟨X, hX⟩ : ∃ X, l[k] = X := ⟨_, rfl⟩
      have E2 := Lib.hid (show atP l t = (X, true, 0) by rw [E.out]; unfold atV; rw [hlast, hX]; rfl)
      have HX := Lib.hid hX
      have hsz := (HRg.out _ (List.getElem_mem hk)).shard
      rw [hX] at hsz
      rw [hpn] at HP
      have hc1 : ((k + 1 : Nat) : Int) - 1 = (k : Int) := by omega
      have hc2 : (k : Int) < (l.length : Int) := by omega
      have hz : ¬ ((k + 1 : Nat) : Int) = 0 := by omega
      have hz2 : (((k + 1 : Nat) : Int) == 0) = false := by simpa using hz
      have hc3 : ((k + 1 : Nat) : Int) ≤ 9223372036854775807 := by omega
      have HK := Lib.hid hk
      clear E hpn hpl hlast hX
      generalize k + 1 = n at HP hc1 hz hz2 hc3
      go_wp2_with fail
      refine (HP.out _ HB.out).mono ?_
      rintro e2 w2 ⟨rfl, hb⟩
      have HB2 := Lib.hid (HB.out.trans (hb.mono HB.out.size))
      have HR2 := Lib.hid (HR.out.below hb)
      clear hb
      obtain ⟨ad, rfl, hab, hcl⟩ := (HA.out.below HB2.out) (by have := HK.out; omega)
      obtain ⟨x0, x1, x2⟩ := hcl k HK.out
      rw [HX.out] at x0 x1 x2
      rw [← add_field _ _ _ (by omega)] at x1 x2
      obtain ⟨xt, xs, xd⟩ := X
      simp only at x0 x1 x2 hsz
      have HCp : Hid (∀ W : World, Calls Try.prog 28 #[.agg #[.int .i64 xt, .string xs, .bool xd]] W fun e w' => e = .returned (.agg #[.int .i64 xt, .string xs, .bool xd]) ∧ Below W.heap.size W w') := Lib.hid (fun W => copied_any ⟨xt, xs, xd⟩ W (by have rb : reachBytes = 140737488351232 := rfl; simp only; omega))
      clear hab hcl HX hsz
      go_wp2_with fail
      refine (HCp.out _).mono ?_
      rintro e3 w3 ⟨rfl, hb⟩
      have HB3 := Lib.hid (HB2.out.trans (hb.mono HB2.out.size))
      have HR3 := Lib.hid (HR2.out.below hb)
      clear hb HB2 HR2 x0 x1 x2
      have zq := fun i => HR3.out.free (i := i)
      have q0 := HR3.out.cell (i := 0) rfl
      have q1 := HR3.out.cell (i := 1) rfl
      have q2 := HR3.out.cell (i := 2) rfl
      go_wp2_with fail
      have HF := Lib.hid (set3_cel (v0 := .int .i64 xt) (v1 := .string xs) (v2 := .bool xd) HR3.out)
      have z0 := HF.out.cell (i := 0) rfl
      have z1 := HF.out.cell (i := 1) rfl
      have z2 := HF.out.cell (i := 2) rfl
      unfold set3 at z0 z1 z2
      exact bodyPost_ret (v := .tuple #[.agg #[.int .i64 xt, .string xs, .bool xd], .bool true, .int .i64 0]) (by simp [results, Try.results17, go_sem, z0, z1, z2]) rfl ⟨by rw [E2.out]; rfl, set3_below HB3.out (Nat.le_refl _)⟩
  · have E2 := Lib.hid (show atP l t = (noVr, false, e) by rw [E.out, if_pos he])
    have hz : (e == 0) = false := by simpa using he
    clear E
    have zq := fun i => HR.out.free (i := i)
    have q0 := HR.out.cell (i := 0) rfl
    have q1 := HR.out.cell (i := 1) rfl
    have q2 := HR.out.cell (i := 2) rfl
    go_wp2_with fail
    have HF := Lib.hid (set3_cel (v0 := .int .i64 0) (v1 := .string ⟨#[]⟩) (v2 := .bool false) HR.out)
    have z0 := HF.out.cell (i := 0) rfl
    have z1 := HF.out.cell (i := 1) rfl
    have z2 := HF.out.cell (i := 2) rfl
    unfold set3 at z0 z1 z2
    exact bodyPost_ret (v := .tuple #[.agg #[.int .i64 0, .string ⟨#[]⟩, .bool false], .bool false, .int .i64 e]) (by simp [results, Try.results17, go_sem, z0, z1, z2]) rfl ⟨by rw [E2.out]; rfl, set3_below HB.out (Nat.le_refl _)⟩

end Ch
end Go.Proofs.Ytpdojkfjgfeijaa
