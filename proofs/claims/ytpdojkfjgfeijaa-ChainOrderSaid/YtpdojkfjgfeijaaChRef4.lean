/- The document's At of a chain: contract; no condition but the range. -/
import Derived.Test.YtpdojkfjgfeijaaChRef3
namespace Go.Proofs.Ytpdojkfjgfeijaa
namespace Ch
open Go.RowKit Bk

attribute [local go_sem ↓] Go.wp_at_zero Go.wp_at_succ
attribute [local go_sem] floatUpon pick

theorem low_take (l : List Vr) (t : Int) : lowL l t = l.take (placeN l t) := List.prefix_iff_eq_take.1 (List.takeWhile_prefix _)

theorem place_le (l : List Vr) (t : Int) : placeN l t ≤ l.length := (List.takeWhile_prefix _).length_le

theorem low_last {l : List Vr} {t : Int} {k : Nat} (h : placeN l t = k + 1) : ∃ hk : k < l.length, (lowL l t).getLast? = some l[k] := by
  have hl := place_le l t
  refine ⟨by omega, ?_⟩
  rw [low_take, h, List.getLast?_eq_getElem?, List.length_take, List.getElem?_take, Nat.min_eq_left (by omega), if_pos (by omega), Nat.add_sub_cancel, List.getElem?_eq_getElem (by omega)]

theorem low_none {l : List Vr} {t : Int} (h : placeN l t = 0) : lowL l t = [] := by rw [low_take, h, List.take_zero]

/-- a struct of three cells is written over -/
def set3 (W : World) (R : Nat) (v0 v1 v2 : Value) : World := ((W.setCell ⟨R, 0, none⟩ v0).setCell ⟨R, 1, none⟩ v1).setCell ⟨R, 2, none⟩ v2

theorem set3_cel {W : World} {R : Nat} {t : TypeId} {a b c v0 v1 v2 : Value} (h : Cel W R t [a, b, c]) : Cel (set3 W R v0 v1 v2) R t [v0, v1, v2] := ((h.set (i := 0)).set (i := 1)).set (i := 2)

theorem set3_below {W : World} {R B : Nat} {w : World} {v0 v1 v2 : Value} (h : Below B w W) (hR : B ≤ R) : Below B w (set3 W R v0 v1 v2) := ((h.setCell (p := ⟨R, 0, none⟩) hR v0).setCell (p := ⟨R, 1, none⟩) hR v1).setCell (p := ⟨R, 2, none⟩) hR v2

set_option maxRecDepth 20000 in
set_option maxHeartbeats 4000000 in
theorem rat_any (A : Option Addr) (c : Nat) (l : List Vr) (t : Int) (w : World) (h : VrsAt w A l) (hn : l.length * 32 ≤ 140737488351232) (hr : ∀ x ∈ l, VrRng x) :
    Calls Try.prog 18 #[.slice A l.length c, .int .i64 t] w fun e w' => e = .returned (.tuple #[.agg (vcs (atP l t).1).toArray, .bool (atP l t).2.1, .int .i64 (atP l t).2.2]) ∧ Below w.heap.size w w' := by
  have HC := Lib.hid (fun W (hb : Below w.heap.size w W) => rcheck_any A c l W (h.below hb) hn hr)
  have HP := Lib.hid (fun W (hb : Below w.heap.size w W) => rplace_any A c l t W (h.below hb) hn)
  have HA := Lib.hid h
  have hlen : (l.length : Int) ≤ 9223372036854775807 := by omega
  have E := Lib.hid (show atP l t = if (chkP l).2 ≠ 0 then (noVr, false, (chkP l).2) else ((atV l t).1, (atV l t).2, 0) from rfl)
  obtain ⟨a, e, hae⟩ : ∃ a e, chkP l = (a, e) := ⟨_, _, rfl⟩
  rw [hae] at HC E
  simp only at HC E
  clear h hr hae
  go_enter Try.func18, Try.ntmps18
  go_wp2_with fail
  have hR0 : Cel (w.alloc (.cells #[.int .i64 0, .string ⟨#[]⟩, .bool false] 24)) w.heap.size 24 [.int .i64 0, .string ⟨#[]⟩, .bool false] := (blk1 w _).2
  have hB0 : Below w.heap.size w (w.alloc (.cells #[.int .i64 0, .string ⟨#[]⟩, .bool false] 24)) := (Below.refl _ w).alloc (Nat.le_refl _) _
  refine (HC.out _ hB0).mono ?_
  rintro e1 w1 ⟨rfl, hb⟩
  have HR := Lib.hid (hR0.below hb)
  have HB := Lib.hid (hB0.trans (hb.mono hB0.size))
  clear HC hb hR0 hB0
  by_cases he : e = 0
  · subst he
    have hpl := place_le l t
    cases hpn : placeN l t with
    | zero =>
      have E2 := Lib.hid (show atP l t = (noVr, false, 0) by rw [E.out]; unfold atV; rw [low_none hpn]; rfl)
      rw [hpn] at HP
      clear E hpn hpl
      go_wp2_with fail
      refine (HP.out _ HB.out).mono ?_
      rintro e2 w2 ⟨rfl, hb⟩
      have HB2 := Lib.hid (HB.out.trans (hb.mono HB.out.size))
      have HR2 := Lib.hid (HR.out.below hb)
      clear hb
      have zq := fun i => HR2.out.free (i := i)
      have q0 := HR2.out.cell (i := 0) rfl
      have q1 := HR2.out.cell (i := 1) rfl
      have q2 := HR2.out.cell (i := 2) rfl
      go_wp2_with fail
      have HF := Lib.hid (set3_cel (v0 := .int .i64 0) (v1 := .string ⟨#[]⟩) (v2 := .bool false) HR2.out)
      have z0 := HF.out.cell (i := 0) rfl
      have z1 := HF.out.cell (i := 1) rfl
      have z2 := HF.out.cell (i := 2) rfl
      unfold set3 at z0 z1 z2
      exact bodyPost_ret (v := .tuple #[.agg #[.int .i64 0, .string ⟨#[]⟩, .bool false], .bool false, .int .i64 0]) (by simp [results, Try.results18, go_sem, z0, z1, z2]) rfl ⟨by rw [E2.out]; rfl, set3_below HB2.out (Nat.le_refl _)⟩
    | succ k =>
      obtain ⟨hk, hlast⟩ := low_last hpn
      obtain ⟨X, hX⟩ : ∃ X, l[k] = X := ⟨_, rfl⟩
      have E2 := Lib.hid (show atP l t = (X, true, 0) by rw [E.out]; unfold atV; rw [hlast, hX]; rfl)
      have HX := Lib.hid hX
      rw [hpn] at HP
      have hc1 : ((k + 1 : Nat) : Int) - 1 = (k : Int) := by omega
      have hc2 : (k : Int) < (l.length : Int) := by omega
      have hz : ¬ ((k + 1 : Nat) : Int) = 0 := by omega
      have hz2 : (((k + 1 : Nat) : Int) == 0) = false := by simpa using hz
      have hc3 : ((k + 1 : Nat) : Int) ≤ 9223372036854775807 := by omega
      have HK := Lib.hid hk
      clear E hpn hpl hlast hX
      generalize k + 1 = n at HP hc1 hz hz2 hc3
      go_wp2_with fail
      refine (HP.out _ HB.out).mono ?_
      rintro e2 w2 ⟨rfl, hb⟩
      have HB2 := Lib.hid (HB.out.trans (hb.mono HB.out.size))
      have HR2 := Lib.hid (HR.out.below hb)
      clear hb
      obtain ⟨ad, rfl, hab, hcl⟩ := (HA.out.below HB2.out) (by have := HK.out; omega)
      obtain ⟨x0, x1, x2⟩ := hcl k HK.out
      rw [HX.out] at x0 x1 x2
      rw [← add_field _ _ _ (by omega)] at x1 x2
      obtain ⟨xt, xs, xd⟩ := X
      simp only at x0 x1 x2
      clear hab hcl HX
      have zq := fun i => HR2.out.free (i := i)
      have q0 := HR2.out.cell (i := 0) rfl
      have q1 := HR2.out.cell (i := 1) rfl
      have q2 := HR2.out.cell (i := 2) rfl
      go_wp2_with fail
      have HF := Lib.hid (set3_cel (v0 := .int .i64 xt) (v1 := .string xs) (v2 := .bool xd) HR2.out)
      have z0 := HF.out.cell (i := 0) rfl
      have z1 := HF.out.cell (i := 1) rfl
      have z2 := HF.out.cell (i := 2) rfl
      unfold set3 at z0 z1 z2
      exact bodyPost_ret (v := .tuple #[.agg #[.int .i64 xt, .string xs, .bool xd], .bool true, .int .i64 0]) (by simp [results, Try.results18, go_sem, z0, z1, z2]) rfl ⟨by rw [E2.out]; rfl, set3_below HB2.out (Nat.le_refl _)⟩
  · have E2 := Lib.hid (show atP l t = (noVr, false, e) by rw [E.out, if_pos he])
    have hz : (e == 0) = false := by simpa using he
    clear E
    have zq := fun i => HR.out.free (i := i)
    have q0 := HR.out.cell (i := 0) rfl
    have q1 := HR.out.cell (i := 1) rfl
    have q2 := HR.out.cell (i := 2) rfl
    go_wp2_with fail
    have HF := Lib.hid (set3_cel (v0 := .int .i64 0) (v1 := .string ⟨#[]⟩) (v2 := .bool false) HR.out)
    have z0 := HF.out.cell (i := 0) rfl
    have z1 := HF.out.cell (i := 1) rfl
    have z2 := HF.out.cell (i := 2) rfl
    unfold set3 at z0 z1 z2
    exact bodyPost_ret (v := .tuple #[.agg #[.int .i64 0, .string ⟨#[]⟩, .bool false], .bool false, .int .i64 e]) (by simp [results, Try.results18, go_sem, z0, z1, z2]) rfl ⟨by rw [E2.out]; rfl, set3_below HB.out (Nat.le_refl _)⟩

end Ch
end Go.Proofs.Ytpdojkfjgfeijaa
