/- The law of fuses, over what is asked of the landed package; no condition but the range. -/
import Derived.Test.YtecgimnmccmpjaaScOpen
import Derived.Test.YtecgimnmccmpjaaScView
import Derived.Test.YtecgimnmccmpjaaScRepeat
import Derived.Test.YtecgimnmccmpjaaScStep2
namespace Go.Proofs.Ytecgimnmccmpjaa
namespace Sc
open Go.ChangeShapes Go.WideShapes Go.ChangeAt Go.RowKit Go.Joins Go.Deep Bk

attribute [local go_sem ↓] Go.wp_at_zero Go.wp_at_succ
attribute [local go_sem] floatUpon pick

def BoolsAt (w : World) (A : Option Addr) (l : List Bool) : Prop :=
  0 < l.length → ∃ ad, A = some ad ∧ ad.block < w.heap.size ∧ ∀ i (h : i < l.length), w.cell? (ad.add i) = some (.bool l[i])

def BoolsOf (w : World) (v : Value) (l : List Bool) : Prop := ∃ (A : Option Addr) (c : Nat), v = .slice A l.length c ∧ BoolsAt w A l ∧ l.length ≤ 9223372036854775807

section
variable {H : Type} {enc : TypeId × Value → H} {W : World}

set_option maxRecDepth 20000 in
theorem open_bools {base : Nat} {v : Value} {d : DataW H} {p : List MemPlace}
    (hv : Value.okWide Try.prog W .any base 50 v) (h : DataW.Trod enc Try.prog W 0 (fun _ => true) true 50 v d p) (hl : ∀ x ∈ p, x.block < W.heap.size) : ∃ l, BoolsOf W v l := by
  obtain ⟨a0, len0, cap0, rfl⟩ := okWide_slice Try.underlying50 hv
  obtain ⟨fuel, hf0⟩ := h
  have hf : DataW.trod enc Try.prog W 0 (fun _ => true) true fuel 50 [.slice a0 len0 cap0] = some (d, p) := hf0
  have ce : Try.prog.cellsOf 4 = 1 := by kernel_rfl
  rcases open_slice Try.underlying50 hf with ⟨hcs, _⟩ | ⟨a, len, cap, m, n, D, Pl, hcs, _, hl', hm, hmm, hx, hall⟩
  · rw [show (Value.slice a0 len0 cap0) = .slice none 0 0 from by simpa using hcs]
    exact ⟨[], none, 0, rfl, fun h => absurd h (by simp), by simp⟩
  · rw [show (Value.slice a0 len0 cap0) = .slice (some a) len cap from by simpa using hcs]
    simp only [Prod.mk.injEq] at hx
    simp only [if_true] at hmm
    subst hmm
    have each : ∀ i, i < len → ∃ b : Bool, W.cell? (a.add i) = some (.bool b) := by
      intro i hi
      obtain ⟨cs', h1, h2⟩ := hall i (by omega)
      rw [ce] at h1
      obtain ⟨_, hlen, hcell⟩ := World.cells?_some h1
      match cs', hlen with
      | [v0], _ =>
        obtain ⟨b, rfl⟩ := field_bool Try.underlying4 h2
        have e0 := hcell 0 (by omega)
        rw [add_add] at e0
        exact ⟨b, by simpa using e0⟩
    obtain ⟨q, hq⟩ := choose_lt each
    have hL : ((List.range len).map q).length = len := by simp
    refine ⟨(List.range len).map q, some a, m, by rw [hL], fun hpos => ⟨a, rfl, ?_, fun i hi => ?_⟩, by rw [hL]; unfold maxLen at hm; omega⟩
    · obtain ⟨b, off, spot⟩ := a
      rw [hL] at hpos
      refine hl (.cell b off) ?_
      rw [hx.2]
      exact List.mem_append_left _ (MemPlace.mem_row.2 ⟨0, by rw [ce]; omega, by simp⟩)
    · rw [hL] at hi
      rw [show ((List.range len).map q)[i] = q i from by simp]
      exact hq i hi

end

section
variable {Rep : World → (Nat → Prop) → Nat → Dev → Prop}

set_option maxRecDepth 20000 in
set_option maxHeartbeats 8000000 in
theorem fuses_walk (HD : DevAll Rep) (HRp : RepAll) (n : Int) (v : Value) (l : List Bool) (wipe : Bool) (w : World) (hv : BoolsOf w v l) :
    Calls Try.prog 6 #[.int .i64 n, v, .bool wipe] w fun e w' => e = .returned (.bool true) ∧ Below w.heap.size w w' := by
  obtain ⟨A, c, rfl, hat, hl63⟩ := hv
  have HWk := Lib.hid (fun V => works_any HD HRp V)
  have HAm := Lib.hid (fun V => among_any n 30 V (by omega) (by omega))
  have hlt30 := amongV_lt n 30 (by omega)
  generalize amongV n 30 = q at HAm hlt30
  have HAt := Lib.hid hat
  have HFit := Lib.hid (fun V => fit_any ⟨#[120]⟩ V)
  have HFn := Lib.hid (fun V => fit_any ⟨#[]⟩ V)
  have pl : (l.length : Int) ≤ 9223372036854775807 := by omega
  clear hat
  go_enter Try.func6, Try.ntmps6
  go_wp2_with fail
  refine (HD.new 4 w (by omega)).mono ?_
  rintro e w1 (⟨_, _, F, g, rfl, hr, hF, hb⟩ | ⟨hno, _⟩)
  case inr => omega
  have HO := Lib.hid (show One Rep w w1 F g (new0 4) from ⟨hr, hF, hb⟩)
  clear hr hF hb
  go_wp2_with fail
  refine (HWk.out _).mono ?_
  rintro e w2 ⟨rfl, hb⟩
  have HO2 := Lib.hid (HO.out.step HD hb)
  clear hb HO HWk
  go_wp2_with fail
  refine (HAm.out _).mono ?_
  rintro e w3 ⟨rfl, rfl⟩
  obtain ⟨m, hm⟩ : ∃ m, m = q + 1 := ⟨_, rfl⟩
  have wm : IntKind.i64.wrap (1 + (q : Int)) = (m : Int) := by rw [i64_wrap (by omega) (by omega)]; omega
  have hm30 : m ≤ 30 := by omega
  have hm1 : 1 ≤ m := by omega
  have hfu := fun V (o : One Rep w V F g (new0 4)) => HD.fuse (m : Int) V o.d (by omega)
  rw [fuse_up (rfl : (new0 4).down = false) (by omega)] at hfu
  have HFu := Lib.hid hfu
  clear HAm hm hfu
  go_upto_region 5 with fail
  try rw [wm]
  clear wm
  go_wp2_with fail
  refine (HFu.out _ HO2.out).mono ?_
  rintro e w4 ⟨rfl, F1, h1, h2⟩
  have HO4 := Lib.hid (HO2.out.act h1 h2)
  clear h1 h2 HO2 HFu
  go_wp2_with fail
  go_loopw [9] (fun i wr => ∃ (k j : Nat) (F : Nat → Prop) (D : Dev), k ≤ m + 2 ∧ i = .int .i64 (j : Int) ∧ Hid (j = k + 1) ∧ Hid (One Rep w wr F g D ∧ FzAt D m k ∧ D.on.length = 4)) (fun i _ => m + 3 - (intOf i).toNat)
  case atStart => exact ⟨0, 1, F1, _, by omega, rfl, rfl, HO4.out, .inl ⟨by omega, rfl, rfl⟩, rfl⟩
  case round =>
    obtain ⟨k, j, F1, D, hk, rfl, HJ, HO⟩ := hrel
    clear HO4
    have hj := HJ.out
    by_cases hlt : k + 1 ≤ m + 2
    · have plt : (j : Int) ≤ (m : Int) + 2 := by omega
      have w2 : IntKind.i64.wrap ((m : Int) + 2) = (m : Int) + 2 := i64_wrap (by omega) (by omega)
      have w3 : IntKind.i64.wrap ((j : Int) + 1) = (j : Int) + 1 := i64_wrap (by omega) (by omega)
      obtain ⟨r, hr⟩ : ∃ r, r = j % 4 := ⟨_, rfl⟩
      have hr4 : r < 4 := by omega
      have pr : (j : Int) % 4 = (r : Int) := by omega
      have pr2 : (j : Int).tmod 4 = (r : Int) := by rw [Int.tmod_eq_emod_of_nonneg (by omega)]; exact pr
      clear hr
      by_cases hkm : k + 1 < m
      · have pkm : (j : Int) < (m : Int) := by omega
        clear hj
        by_cases hi : j < l.length
        · have pi : (j : Int) < (l.length : Int) := by omega
          obtain ⟨ad, rfl, hab, hcl⟩ := HAt.out (by omega)
          have x1 := (cell_kept HO.out.1.bel (ad.add j) (by rw [st_block]; exact hab)).trans (hcl j hi)
          generalize l[j] = fb at x1
          clear hcl
          cases fb with
          | true =>
            have hf := HD.flush wr HO.out.1.d
            rw [(fl_fz HO.out.2.1).1, if_pos hkm] at hf
            go_wp2_with fail
            refine hf.mono ?_
            rintro e w6 ⟨rfl, F2, h1, h2⟩
            have HO2 := Lib.hid (show One Rep w w6 F2 g (flD D).1 ∧ FzAt (flD D).1 m (k + 1) ∧ (flD D).1.on.length = 4 from ⟨HO.out.1.act h1 h2, (fl_fz HO.out.2.1).2.1, (fl_fz HO.out.2.1).2.2.trans HO.out.2.2⟩)
            clear hf
            clear h1 h2 HO
            go_wp2_with fail
            go_roundw
            case rel => exact ⟨k + 1, j + 1, F2, _, by omega, by go_num, by rw [HJ.out]; rfl, HO2.out⟩
            case measure => have h := HJ.out; simp [intOf]; omega
          | false =>
            go_wp2_with fail
            refine (HFit.out _).mono ?_
            rintro e w5 ⟨rfl, hb⟩
            have HO' := Lib.hid (show One Rep w w5 F1 g D from HO.out.1.step HD hb)
            have hw := HD.write (r : Int) (fitB ⟨#[120]⟩) w5 HO'.out.d (by omega) (by rw [fitB_size]; unfold reachBytes; omega)
            have hz := wr_fz HO.out.2.1 (i := r) (by rw [HO.out.2.2]; omega) (fitB_size ⟨#[120]⟩)
            rw [hz.1, if_pos hkm] at hw
            have HZ := Lib.hid hz
            clear hb hz
            go_wp2_with fail
            refine hw.mono ?_
            rintro e w6 ⟨rfl, F2, h1, h2⟩
            have HO2 := Lib.hid (show One Rep w w6 F2 g _ ∧ FzAt _ m (k + 1) ∧ _ = 4 from ⟨HO'.out.act h1 h2, HZ.out.2.1, HZ.out.2.2.trans HO.out.2.2⟩)
            clear hw HO' HZ
            clear h1 h2 HO
            go_wp2_with fail
            go_roundw
            case rel => exact ⟨k + 1, j + 1, F2, _, by omega, by go_num, by rw [HJ.out]; rfl, HO2.out⟩
            case measure => have h := HJ.out; simp [intOf]; omega
        · have pi : ¬ (j : Int) < (l.length : Int) := by omega
          go_wp2_with fail
          refine (HFit.out _).mono ?_
          rintro e w5 ⟨rfl, hb⟩
          have HO' := Lib.hid (show One Rep w w5 F1 g D from HO.out.1.step HD hb)
          have hw := HD.write (r : Int) (fitB ⟨#[120]⟩) w5 HO'.out.d (by omega) (by rw [fitB_size]; unfold reachBytes; omega)
          have hz := wr_fz HO.out.2.1 (i := r) (by rw [HO.out.2.2]; omega) (fitB_size ⟨#[120]⟩)
          rw [hz.1, if_pos hkm] at hw
          have HZ := Lib.hid hz
          clear hb hz
          go_wp2_with fail
          refine hw.mono ?_
          rintro e w6 ⟨rfl, F2, h1, h2⟩
          have HO2 := Lib.hid (show One Rep w w6 F2 g _ ∧ FzAt _ m (k + 1) ∧ _ = 4 from ⟨HO'.out.act h1 h2, HZ.out.2.1, HZ.out.2.2.trans HO.out.2.2⟩)
          clear hw HO' HZ
          clear h1 h2 HO
          go_wp2_with fail
          go_roundw
          case rel => exact ⟨k + 1, j + 1, F2, _, by omega, by go_num, by rw [HJ.out]; rfl, HO2.out⟩
          case measure => have h := HJ.out; simp [intOf]; omega
      · have pkm : ¬ (j : Int) < (m : Int) := by omega
        clear hj
        by_cases hi : j < l.length
        · have pi : (j : Int) < (l.length : Int) := by omega
          obtain ⟨ad, rfl, hab, hcl⟩ := HAt.out (by omega)
          have x1 := (cell_kept HO.out.1.bel (ad.add j) (by rw [st_block]; exact hab)).trans (hcl j hi)
          generalize l[j] = fb at x1
          clear hcl
          cases fb with
          | true =>
            have hf := HD.flush wr HO.out.1.d
            rw [(fl_fz HO.out.2.1).1, if_neg hkm] at hf
            go_wp2_with fail
            refine hf.mono ?_
            rintro e w6 ⟨rfl, F2, h1, h2⟩
            have HO2 := Lib.hid (show One Rep w w6 F2 g (flD D).1 ∧ FzAt (flD D).1 m (k + 1) ∧ (flD D).1.on.length = 4 from ⟨HO.out.1.act h1 h2, (fl_fz HO.out.2.1).2.1, (fl_fz HO.out.2.1).2.2.trans HO.out.2.2⟩)
            clear hf
            clear h1 h2 HO
            go_wp2_with fail
            go_roundw
            case rel => exact ⟨k + 1, j + 1, F2, _, by omega, by go_num, by rw [HJ.out]; rfl, HO2.out⟩
            case measure => have h := HJ.out; simp [intOf]; omega
          | false =>
            go_wp2_with fail
            refine (HFit.out _).mono ?_
            rintro e w5 ⟨rfl, hb⟩
            have HO' := Lib.hid (show One Rep w w5 F1 g D from HO.out.1.step HD hb)
            have hw := HD.write (r : Int) (fitB ⟨#[120]⟩) w5 HO'.out.d (by omega) (by rw [fitB_size]; unfold reachBytes; omega)
            have hz := wr_fz HO.out.2.1 (i := r) (by rw [HO.out.2.2]; omega) (fitB_size ⟨#[120]⟩)
            rw [hz.1, if_neg hkm] at hw
            have HZ := Lib.hid hz
            clear hb hz
            go_wp2_with fail
            refine hw.mono ?_
            rintro e w6 ⟨rfl, F2, h1, h2⟩
            have HO2 := Lib.hid (show One Rep w w6 F2 g _ ∧ FzAt _ m (k + 1) ∧ _ = 4 from ⟨HO'.out.act h1 h2, HZ.out.2.1, HZ.out.2.2.trans HO.out.2.2⟩)
            clear hw HO' HZ
            clear h1 h2 HO
            go_wp2_with fail
            go_roundw
            case rel => exact ⟨k + 1, j + 1, F2, _, by omega, by go_num, by rw [HJ.out]; rfl, HO2.out⟩
            case measure => have h := HJ.out; simp [intOf]; omega
        · have pi : ¬ (j : Int) < (l.length : Int) := by omega
          go_wp2_with fail
          refine (HFit.out _).mono ?_
          rintro e w5 ⟨rfl, hb⟩
          have HO' := Lib.hid (show One Rep w w5 F1 g D from HO.out.1.step HD hb)
          have hw := HD.write (r : Int) (fitB ⟨#[120]⟩) w5 HO'.out.d (by omega) (by rw [fitB_size]; unfold reachBytes; omega)
          have hz := wr_fz HO.out.2.1 (i := r) (by rw [HO.out.2.2]; omega) (fitB_size ⟨#[120]⟩)
          rw [hz.1, if_neg hkm] at hw
          have HZ := Lib.hid hz
          clear hb hz
          go_wp2_with fail
          refine hw.mono ?_
          rintro e w6 ⟨rfl, F2, h1, h2⟩
          have HO2 := Lib.hid (show One Rep w w6 F2 g _ ∧ FzAt _ m (k + 1) ∧ _ = 4 from ⟨HO'.out.act h1 h2, HZ.out.2.1, HZ.out.2.2.trans HO.out.2.2⟩)
          clear hw HO' HZ
          clear h1 h2 HO
          go_wp2_with fail
          go_roundw
          case rel => exact ⟨k + 1, j + 1, F2, _, by omega, by go_num, by rw [HJ.out]; rfl, HO2.out⟩
          case measure => have h := HJ.out; simp [intOf]; omega
    · have plt : ¬ (j : Int) ≤ (m : Int) + 2 := by omega
      have w2 : IntKind.i64.wrap ((m : Int) + 2) = (m : Int) + 2 := i64_wrap (by omega) (by omega)
      have hdn : D.down = true := by
        rcases HO.out.2.1 with ⟨h1, _⟩ | ⟨_, h2⟩
        · omega
        · exact h2
      have HOk := Lib.hid (HD.ok HO.out.1.d)
      have hlen := HOk.out.len
      have hon := HO.out.2.2
      have hrd := fun V (o : One Rep w V F1 g D) => HD.read 0 V o.d (by omega)
      rw [down_read hdn] at hrd
      have hfu := fun V F' (o : One Rep w V F' g D) => HD.fuse 0 V o.d (by omega)
      rw [down_fuse hdn] at hfu
      have HRd := Lib.hid hrd
      have HFu := Lib.hid hfu
      have HL := Lib.hid (And.intro hlen hon)
      clear hrd hfu hlen hon hdn hj
      go_wp2_with fail
      refine (HRd.out _ HO.out.1).mono ?_
      rintro e w5 ⟨rfl, F2, h1, h2⟩
      have HO2 := Lib.hid (HO.out.1.act h1 h2)
      clear h1 h2 HO HRd
      go_wp2_with fail
      refine (HFu.out _ _ HO2.out).mono ?_
      rintro e w6 ⟨rfl, F3, h1, h2⟩
      have HO3 := Lib.hid (show One Rep w w6 F3 g D from HO2.out.act h1 h2)
      clear h1 h2 HO2 HFu
      cases wipe with
      | true =>
        go_wp2_with fail
        refine (HD.wipe _ HO3.out.d).mono ?_
        rintro e w7 ⟨rfl, F4, h1, h2⟩
        have HO4 := Lib.hid (HO3.out.act h1 h2)
        have hrd := HD.read 1 w7 HO4.out.d (by omega)
        rw [show rdV (wiD D) 1 = (zero64, 0) from wi_read HL.out.1 (k := 1) (by rw [HL.out.2]; omega)] at hrd
        have hdi := fun V F' (o : One Rep w V F' g (wiD D)) => HD.dirty V o.d
        rw [wi_dirty HL.out.1] at hdi
        have HDi := Lib.hid hdi
        have hfn := HFn.out
        rw [show fitB ⟨#[]⟩ = zero64 from fitB_nil] at hfn
        have HFn2 := Lib.hid hfn
        have q := text_eq zero64
        clear h1 h2 HO3 hdi hfn
        go_wp2_with fail
        refine hrd.mono ?_
        rintro e w8 ⟨rfl, F5, h1, h2⟩
        have HO5 := Lib.hid (HO4.out.act h1 h2)
        clear h1 h2 hrd HO4
        go_wp2_with fail
        refine (HFn2.out _).mono ?_
        rintro e w9 ⟨rfl, hb⟩
        have HO6 := Lib.hid (HO5.out.step HD hb)
        clear hb HO5
        go_wp2_with fail
        refine (HDi.out _ _ HO6.out).mono ?_
        rintro e w10 ⟨rfl, F6, h1, h2⟩
        have HO7 := Lib.hid (HO6.out.act h1 h2)
        clear h1 h2 HO6
        go_wp2_with fail
        go_ret
        exact ⟨rfl, HO7.out.bel⟩
      | false =>
        have hcr := HD.crash none 0 [] w6 HO3.out.d (fun h => absurd h (by simp)) (fun h => absurd h (by simp)) (Nat.zero_le _) (fun p h => absurd h (by simp))
        rw [List.length_nil] at hcr
        go_wp2_with fail
        refine hcr.mono ?_
        rintro e w7 ⟨rfl, F4, h1, h2⟩
        have HO4 := Lib.hid (HO3.out.act h1 h2)
        have hrd := HD.read 0 w7 HO4.out.d (by omega)
        rw [show rdV (crD D []) 0 = (flushF (crD D []) 0, 0) from rd_up (D := crD D []) rfl (k := 0) (by rw [cr_len, HL.out.2]; omega)] at hrd
        have hdi := fun V F' (o : One Rep w V F' g (crD D [])) => HD.dirty V o.d
        rw [cr_dirty HL.out.1] at hdi
        have HDi := Lib.hid hdi
        generalize flushF (crD D []) 0 = y at hrd
        clear h1 h2 HO3 hdi hcr
        go_wp2_with fail
        refine hrd.mono ?_
        rintro e w8 ⟨rfl, F5, h1, h2⟩
        have HO5 := Lib.hid (HO4.out.act h1 h2)
        clear h1 h2 hrd HO4
        go_wp2_with fail
        refine (HDi.out _ _ HO5.out).mono ?_
        rintro e w10 ⟨rfl, F6, h1, h2⟩
        have HO7 := Lib.hid (HO5.out.act h1 h2)
        clear h1 h2 HO5
        go_wp2_with fail
        go_ret
        exact ⟨rfl, HO7.out.bel⟩

end

end Sc
end Go.Proofs.Ytecgimnmccmpjaa
