/- Which head counts, and how a head is put, in the landed log; contracts; no condition but the range. -/
import Derived.Test.YtjehjbkcdpidbaaGreatRlRead
namespace Go.Proofs.YtjehjbkcdpidbaaGreat
namespace Rd
open Go.RowKit Sc Bk

attribute [local go_sem ↓] Go.wp_at_zero Go.wp_at_succ
attribute [local go_sem] floatUpon pick

/-- the head that counts, 0 if there is none -/
def nwP (D : Dev) : Nat × Nat × Nat := if (hd1 D 0).1 < (hd1 D 1).1 then hd1 D 1 else hd1 D 0

section
variable {Rep : RepT} {w : World} {F : Nat → Prop} {p g c a n m mn : Nat} {A B : Value} {l : Lg} {D : Dev}

theorem alloc3 (w : World) (x y z : Value) (t : TypeId) : Below w.heap.size w (w.alloc (.cells #[x, y, z] t)) ∧ Cel (w.alloc (.cells #[x, y, z] t)) w.heap.size t [x, y, z] :=
  ⟨(Below.refl _ w).alloc (Nat.le_refl _) _, (blk1 w _).2⟩

set_option maxRecDepth 20000 in
set_option maxHeartbeats 4000000 in
theorem newest_down (H : DevQ Rep) (hr : Rep w F g D) (hc : LC w p g c a n A mn B) (hu : D.down = true) :
    Calls Tryz.prog 77 #[.pointer (some ⟨p, 0, none⟩)] w fun e w' => e = .returned (.tuple #[hdV 0 0 0, .int .i64 90]) ∧ Below w.heap.size w w' := by
  have hal := alloc3 w (.int .i64 0) (.int .i64 0) (.int .i64 0) 81
  have HD := Lib.hid (readHead_down H (H.step hr hal.1) (Cel.below hc hal.1) hu 0 (by omega))
  go_enter Tryz.func77, Tryz.ntmps77
  go_upto_region 1 with fail
  generalize w.alloc (.cells #[.int .i64 0, .int .i64 0, .int .i64 0] 81) = W1 at *
  have HB1 := Lib.hid hal.1
  have HC1 := Lib.hid hal.2
  clear hal hr hc
  unfold hdV at HD
  go_wp2_with fail
  refine HD.out.mono ?_
  rintro e w2 ⟨rfl, hb⟩
  have hal2 := alloc3 w2 (.int .i64 0) (.int .i64 0) (.int .i64 0) 81
  have HB2 := Lib.hid ((HB1.out.trans (hb.mono HB1.out.size)).trans (hal2.1.mono (HB1.out.trans (hb.mono HB1.out.size)).size))
  have HC2 := Lib.hid ((HC1.out.below hb).below hal2.1)
  clear hb hal2 HD
  go_upto_region 3 with fail
  generalize w2.alloc _ = w3 at HB2 HC2 ⊢
  have zq := fun i => HC2.out.free (i := i)
  have y0 := HC2.out.cell (i := 0) rfl
  have y1 := HC2.out.cell (i := 1) rfl
  have y2 := HC2.out.cell (i := 2) rfl
  go_wp2_with fail
  have HF := setH_cel (v0 := .int .i64 0) (v1 := .int .i64 0) (v2 := .int .i64 0) HC2.out
  have z0 := HF.cell (i := 0) rfl
  have z1 := HF.cell (i := 1) rfl
  have z2 := HF.cell (i := 2) rfl
  unfold setH at z0 z1 z2
  exact bodyPost_ret (v := .tuple #[hdV 0 0 0, .int .i64 90]) (by simp [results, Tryz.results77, go_sem, hdV, z0, z1, z2]) rfl ⟨rfl, setH_below HB2.out (Nat.le_refl _)⟩

set_option maxRecDepth 20000 in
set_option maxHeartbeats 8000000 in
theorem newest_up (HRt : RepTxt) (H : DevQ Rep) (hr : Rep w F g D) (hc : LC w p g c a n A mn B) (h4 : 4 ≤ D.on.length) (hu : D.down = false) :
    Calls Tryz.prog 77 #[.pointer (some ⟨p, 0, none⟩)] w fun e w' => e = .returned (.tuple #[hdW (nwP D), .int .i64 0]) ∧ Below w.heap.size w w' := by
  have hal := alloc3 w (.int .i64 0) (.int .i64 0) (.int .i64 0) 81
  have HRd := Lib.hid (fun W (h : Below w.heap.size w W) i hi => readHead_up HRt H (H.step hr h) (Cel.below hc h) h4 hu i hi)
  have HN := Lib.hid (show nwP D = if (hd1 D 0).1 < (hd1 D 1).1 then hd1 D 1 else hd1 D 0 from rfl)
  have HD0 := Lib.hid (fun W (h : Below w.heap.size w W) => HRd.out W h 0 (by omega))
  have HD1 := Lib.hid (fun W (h : Below w.heap.size w W) => HRd.out W h 1 (by omega))
  clear HRd
  generalize nwP D = R at HN ⊢
  generalize hd1 D 0 = q0 at HN HD0
  generalize hd1 D 1 = q1 at HN HD1
  obtain ⟨x0, x1, x2⟩ := q0
  obtain ⟨y0, y1, y2⟩ := q1
  simp only [hdW] at HD0 HD1 HN
  unfold hdV at HD0 HD1
  go_enter Tryz.func77, Tryz.ntmps77
  go_upto_region 1 with fail
  generalize w.alloc (.cells #[.int .i64 0, .int .i64 0, .int .i64 0] 81) = W1 at *
  have HB1 := Lib.hid hal.1
  have HC1 := Lib.hid hal.2
  clear hal hr hc
  go_wp2_with fail
  refine (HD0.out _ HB1.out).mono ?_
  rintro e w2 ⟨rfl, hb⟩
  have hal2 := alloc3 w2 (.int .i64 (x0 : Int)) (.int .i64 (x1 : Int)) (.int .i64 (x2 : Int)) 81
  have HB2 := Lib.hid ((HB1.out.trans (hb.mono HB1.out.size)).trans (hal2.1.mono (HB1.out.trans (hb.mono HB1.out.size)).size))
  have HC2 := Lib.hid ((HC1.out.below hb).below hal2.1)
  have HX2 := Lib.hid hal2.2
  clear hb hal2 HD0
  go_upto_region 3 with fail
  generalize w2.alloc _ = w3 at HB2 HC2 HX2 ⊢
  generalize w2.heap.size = kx at HX2 ⊢
  go_wp2_with fail
  refine (HD1.out _ HB2.out).mono ?_
  rintro e w4 ⟨rfl, hb⟩
  have hal2 := alloc3 w4 (.int .i64 (y0 : Int)) (.int .i64 (y1 : Int)) (.int .i64 (y2 : Int)) 81
  have HB4 := Lib.hid ((HB2.out.trans (hb.mono HB2.out.size)).trans (hal2.1.mono (HB2.out.trans (hb.mono HB2.out.size)).size))
  have HC4 := Lib.hid ((HC2.out.below hb).below hal2.1)
  have HX4 := Lib.hid ((HX2.out.below hb).below hal2.1)
  have HY4 := Lib.hid hal2.2
  clear hb hal2 HD1
  go_upto_region 6 with fail
  generalize w4.alloc _ = w5 at HB4 HC4 HX4 HY4 ⊢
  generalize w4.heap.size = ky at HY4 ⊢
  have zq := fun i => HC4.out.free (i := i)
  have c0 := HC4.out.cell (i := 0) rfl
  have c1 := HC4.out.cell (i := 1) rfl
  have c2 := HC4.out.cell (i := 2) rfl
  have d0 := HX4.out.cell (i := 0) rfl
  have d1 := HX4.out.cell (i := 1) rfl
  have d2 := HX4.out.cell (i := 2) rfl
  have e0 := HY4.out.cell (i := 0) rfl
  have e1 := HY4.out.cell (i := 1) rfl
  have e2 := HY4.out.cell (i := 2) rfl
  by_cases hlt : x0 < y0
  · have pl : (x0 : Int) < (y0 : Int) := by omega
    have hR := HN.out
    rw [if_pos hlt] at hR
    have HR := Lib.hid hR
    clear hR hlt
    go_wp2_with fail
    have HF := setH_cel (v0 := .int .i64 (y0 : Int)) (v1 := .int .i64 (y1 : Int)) (v2 := .int .i64 (y2 : Int)) HC4.out
    have z0 := HF.cell (i := 0) rfl
    have z1 := HF.cell (i := 1) rfl
    have z2 := HF.cell (i := 2) rfl
    unfold setH at z0 z1 z2
    exact bodyPost_ret (v := .tuple #[hdV y0 y1 y2, .int .i64 0]) (by simp [results, Tryz.results77, go_sem, hdV, z0, z1, z2]) rfl ⟨by rw [HR.out]; rfl, setH_below HB4.out (Nat.le_refl _)⟩
  · have pl : ¬ (x0 : Int) < (y0 : Int) := by omega
    have hR := HN.out
    rw [if_neg hlt] at hR
    have HR := Lib.hid hR
    clear hR hlt
    go_wp2_with fail
    have HF := setH_cel (v0 := .int .i64 (x0 : Int)) (v1 := .int .i64 (x1 : Int)) (v2 := .int .i64 (x2 : Int)) HC4.out
    have z0 := HF.cell (i := 0) rfl
    have z1 := HF.cell (i := 1) rfl
    have z2 := HF.cell (i := 2) rfl
    unfold setH at z0 z1 z2
    exact bodyPost_ret (v := .tuple #[hdV x0 x1 x2, .int .i64 0]) (by simp [results, Tryz.results77, go_sem, hdV, z0, z1, z2]) rfl ⟨by rw [HR.out]; rfl, setH_below HB4.out (Nat.le_refl _)⟩

/-- what a head that is put answers, and leaves -/
def PutPost (Rep : RepT) (w : World) (F : Nat → Prop) (p g c0 a0 n0 : Nat) (A : Value) (mn : Nat) (B : Value) (c a n : Nat) (r : Dev × Int) (e : Ending) (w' : World) : Prop :=
  e = .returned (.int .i64 r.2) ∧ ∃ F', Rep w' F' g r.1 ∧ ¬ F' p ∧ (r.2 = 0 → LC w' p g c a n A mn B) ∧ (r.2 ≠ 0 → LC w' p g c0 a0 n0 A mn B) ∧ Fr (fun k => F k ∨ k = p) (fun k => F' k ∨ k = p) w w'

theorem fr_p {F F' : Nat → Prop} {w w' : World} (h : Fr F F' w w') : Fr (fun k => F k ∨ k = p) (fun k => F' k ∨ k = p) w w' :=
  ⟨h.os, h.tape, h.output, h.size, fun i hi hn => h.block i hi (fun hf => hn (.inl hf)), fun k hk => hk.elim (fun hf => (h.foot k hf).elim (fun hq => .inl (.inl hq)) .inr) (fun e => .inl (.inr e))⟩

theorem below_fr {F G : Nat → Prop} {w W W' : World} (h : Below w.heap.size w W) (k : Fr F G W W') : Fr F G w W' :=
  ⟨k.os.trans h.os, k.tape.trans h.tape, k.output.trans h.output, Nat.le_trans h.size k.size, fun i hi hn => (k.block i (Nat.lt_of_lt_of_le hi h.size) hn).trans (h.block i hi), fun i hi => (k.foot i hi).elim .inl (fun hs => .inr (Nat.le_trans h.size hs))⟩

theorem cel_fr {F G : Nat → Prop} {W W' : World} {q : Nat} {t : TypeId} {xs : List Value} (h : Cel W q t xs) (hf : Fr F G W W') (hn : ¬ F q) : Cel W' q t xs := (hf.block q h.lt hn).trans h

theorem foot_not {F G : Nat → Prop} {W W' : World} {q : Nat} (hf : Fr F G W W') (hn : ¬ F q) (hl : q < W.heap.size) : ¬ G q := fun hg => (hf.foot q hg).elim hn (fun hs => by omega)

end

end Rd
end Go.Proofs.YtjehjbkcdpidbaaGreat
