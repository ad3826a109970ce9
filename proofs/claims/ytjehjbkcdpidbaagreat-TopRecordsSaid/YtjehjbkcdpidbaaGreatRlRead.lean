/- What the landed log reads of a sector; contract; no condition but the range. -/
import Derived.Test.YtjehjbkcdpidbaaGreatRlSec
namespace Go.Proofs.YtjehjbkcdpidbaaGreat
namespace Rd
open Go.RowKit Sc Bk

attribute [local go_sem ↓] Go.wp_at_zero Go.wp_at_succ
attribute [local go_sem] floatUpon pick

/-- three cells are written over, a block's first, or a log's head -/
def setH (W : World) (R : Nat) (v0 v1 v2 : Value) : World := ((W.setCell ⟨R, 0, none⟩ v0).setCell ⟨R, 1, none⟩ v1).setCell ⟨R, 2, none⟩ v2
def setL (W : World) (R : Nat) (v0 v1 v2 : Value) : World := ((W.setCell ⟨R, 1, none⟩ v0).setCell ⟨R, 2, none⟩ v1).setCell ⟨R, 3, none⟩ v2

section
variable {W w : World} {R H : Nat} {t : TypeId} {u0 u1 u2 v0 v1 v2 : Value}

theorem setH_cel (h : Cel W R t [u0, u1, u2]) : Cel (setH W R v0 v1 v2) R t [v0, v1, v2] := ((h.set (i := 0) (v := v0)).set (i := 1) (v := v1)).set (i := 2) (v := v2)

theorem setH_below (h : Below H w W) (hR : H ≤ R) : Below H w (setH W R v0 v1 v2) :=
  ((h.setCell (p := ⟨R, 0, none⟩) hR v0).setCell (p := ⟨R, 1, none⟩) hR v1).setCell (p := ⟨R, 2, none⟩) hR v2

theorem setL_other {k : Nat} (h : k ≠ R) : (setL W R v0 v1 v2).heap[k]? = W.heap[k]? := by
  have e : ∀ (W : World) (i : Nat) (v : Value), (W.setCell ⟨R, i, none⟩ v).heap[k]? = W.heap[k]? := fun W i v => Below.heap_setCell W ⟨R, i, none⟩ v k h
  unfold setL
  rw [e, e, e]

theorem setL_fr {F G : Nat → Prop} (h : Fr F G w W) (hR : F R) : Fr F G w (setL W R v0 v1 v2) :=
  ((h.set (p := ⟨R, 1, none⟩) hR v0).set (p := ⟨R, 2, none⟩) hR v1).set (p := ⟨R, 3, none⟩) hR v2

end

theorem rd_up {D : Dev} (hu : D.down = false) {i : Nat} (hi : i < D.on.length) : rdV D (i : Int) = (flushF D i, 0) := by
  unfold rdV flushF
  rw [if_neg (by rw [hu]; decide), if_neg (by omega), Int.toNat_natCast]

theorem rd_down {D : Dev} (hu : D.down = true) (i : Int) : rdV D i = (nil0, 90) := by
  unfold rdV
  rw [if_pos hu]

/-- what a sector says -/
def hd1 (D : Dev) (i : Nat) : Nat × Nat × Nat :=
  if okH (areaN D) (flushF D i).data.toList then (cOf (flushF D i).data.toList, aOf (flushF D i).data.toList, lOf (flushF D i).data.toList) else (0, 0, 0)

def hdW (h : Nat × Nat × Nat) : Value := hdV h.1 h.2.1 h.2.2

section
variable {Rep : RepT} {w : World} {F : Nat → Prop} {p g c a n m mn : Nat} {A B : Value} {l : Lg} {D : Dev}

/-- the end of a reading that finds no head -/
theorem read_none {W w : World} (hc : Cel W w.heap.size 81 [.int .i64 0, .int .i64 0, .int .i64 0]) (hb : Below w.heap.size w W) :
    Cel (setH W w.heap.size (.int .i64 0) (.int .i64 0) (.int .i64 0)) w.heap.size 81 [.int .i64 0, .int .i64 0, .int .i64 0] ∧ Below w.heap.size w (setH W w.heap.size (.int .i64 0) (.int .i64 0) (.int .i64 0)) :=
  ⟨setH_cel hc, setH_below hb (Nat.le_refl _)⟩

set_option maxRecDepth 20000 in
set_option maxHeartbeats 4000000 in
theorem readHead_down (H : DevQ Rep) (hr : Rep w F g D) (hc : LC w p g c a n A mn B) (hu : D.down = true) (i : Nat) (hi : i ≤ 1) :
    Calls Tryz.prog 113 #[.pointer (some ⟨p, 0, none⟩), .int .i64 (i : Int)] w fun e w' => e = .returned (.tuple #[hdV 0 0 0, .int .i64 90]) ∧ Below w.heap.size w w' := by
  have hal : Below w.heap.size w (w.alloc (.cells #[.int .i64 0, .int .i64 0, .int .i64 0] 81)) := (Below.refl _ w).alloc (Nat.le_refl _) _
  have hcb : Cel (w.alloc (.cells #[.int .i64 0, .int .i64 0, .int .i64 0] 81)) w.heap.size 81 [.int .i64 0, .int .i64 0, .int .i64 0] := (blk1 w _).2
  have hr1 := H.step hr hal
  have hc1 := Cel.below hc hal
  go_enter Tryz.func113, Tryz.ntmps113
  go_upto_region 1 with fail
  generalize w.alloc (.cells #[.int .i64 0, .int .i64 0, .int .i64 0] 81) = W1 at *
  have HB1 := Lib.hid hal
  have HC1 := Lib.hid hcb
  have k0 := hc1.cell (i := 0) rfl
  have hrd := H.read (i : Int) W1 hr1 ⟨by omega, by omega⟩
  rw [rd_down hu] at hrd
  have HRd := Lib.hid hrd
  clear hal hcb hr1 hc1 hrd hr hc
  go_wp2_with fail
  refine HRd.out.mono ?_
  rintro e w2 ⟨rfl, hb⟩
  have HB2 := Lib.hid (HB1.out.trans (hb.mono HB1.out.size))
  have HC2 := Lib.hid (HC1.out.below hb)
  have zq := fun i => HC2.out.free (i := i)
  have y0 := HC2.out.cell (i := 0) rfl
  have y1 := HC2.out.cell (i := 1) rfl
  have y2 := HC2.out.cell (i := 2) rfl
  clear hb
  go_wp2_with fail
  have HF := setH_cel (v0 := .int .i64 0) (v1 := .int .i64 0) (v2 := .int .i64 0) HC2.out
  have z0 := HF.cell (i := 0) rfl
  have z1 := HF.cell (i := 1) rfl
  have z2 := HF.cell (i := 2) rfl
  unfold setH at z0 z1 z2
  exact bodyPost_ret (v := .tuple #[hdV 0 0 0, .int .i64 90]) (by simp [results, Tryz.results113, go_sem, hdV, z0, z1, z2]) rfl ⟨rfl, setH_below HB2.out (Nat.le_refl _)⟩

theorem u64_wrap {x : Nat} (h : x < 18446744073709551616) : IntKind.u64.wrap (x : Int) = (x : Int) := by
  simp only [IntKind.wrap, IntKind.bits, IntKind.signed]; simp; omega

set_option maxRecDepth 20000 in
set_option maxHeartbeats 8000000 in
theorem readHead_up (HRt : RepTxt) (H : DevQ Rep) (hr : Rep w F g D) (hc : LC w p g c a n A mn B) (h4 : 4 ≤ D.on.length) (hu : D.down = false) (i : Nat) (hi : i ≤ 1) :
    Calls Tryz.prog 113 #[.pointer (some ⟨p, 0, none⟩), .int .i64 (i : Int)] w fun e w' => e = .returned (.tuple #[hdW (hd1 D i), .int .i64 0]) ∧ Below w.heap.size w w' := by
  have hal : Below w.heap.size w (w.alloc (.cells #[.int .i64 0, .int .i64 0, .int .i64 0] 81)) := (Below.refl _ w).alloc (Nat.le_refl _) _
  have hcb : Cel (w.alloc (.cells #[.int .i64 0, .int .i64 0, .int .i64 0] 81)) w.heap.size 81 [.int .i64 0, .int .i64 0, .int .i64 0] := (blk1 w _).2
  have hr1 := H.step hr hal
  have hc1 := Cel.below hc hal
  have hok := H.ok hr
  have hs64 := flush64 hok (show i < D.on.length by omega)
  have HSec := Lib.hid (fun c a l W h1 h2 h3 => sec_any HRt c a l W h1 h2 h3)
  have hrd := H.read (i : Int) (w.alloc (.cells #[.int .i64 0, .int .i64 0, .int .i64 0] 81)) hr1 ⟨by omega, by omega⟩
  rw [rd_up hu (by omega)] at hrd
  have HRd := Lib.hid hrd
  have HM := Lib.hid (fun W (h : Below (w.alloc (.cells #[.int .i64 0, .int .i64 0, .int .i64 0] 81)).heap.size (w.alloc (.cells #[.int .i64 0, .int .i64 0, .int .i64 0] 81)) W) => most_any H (H.step hr1 h) (Cel.below hc1 h) h4)
  have hab : areaN D ≤ 65536 := by have := hok.max; unfold areaN; omega
  have hOk : hd1 D i = if okH (areaN D) (flushF D i).data.toList then (cOf (flushF D i).data.toList, aOf (flushF D i).data.toList, lOf (flushF D i).data.toList) else (0, 0, 0) := rfl
  generalize hd1 D i = R at hOk ⊢
  generalize flushF D i = s at *
  have hsl : s.data.toList.length = 64 := by rw [Array.length_toList]; exact hs64
  have hm1 := fun W => str_mid s 4 12 (by omega) (by omega) 4 12 rfl rfl W
  have hm2 := fun W => str_mid s 13 21 (by omega) (by omega) 13 21 rfl rfl W
  obtain ⟨b, hb⟩ : ∃ b, s.data.toList[12]? = some b := ⟨_, List.getElem?_eq_getElem (by omega)⟩
  have hix := fun W => str_at s 12 b hb 12 rfl W
  have hcl : cOf s.data.toList < 256 ^ 8 := numB_lt 8 _ (by rw [List.length_take, List.length_drop]; omega)
  have hll : lOf s.data.toList < 256 ^ 8 := numB_lt 8 _ (by rw [List.length_take, List.length_drop]; omega)
  have haO : aOf s.data.toList = b.toNat := by unfold aOf; rw [List.getD_eq_getElem?_getD, hb]; rfl
  have hn1 := fun W => lnumber_any ⟨((s.data.toList.drop 4).take (12 - 4)).toArray⟩ W (by rw [text_size, List.length_take, List.length_drop]; omega)
  have hn2 := fun W => lnumber_any ⟨((s.data.toList.drop 13).take (21 - 13)).toArray⟩ W (by rw [text_size, List.length_take, List.length_drop]; omega)
  have q1 : numB ((⟨((s.data.toList.drop 4).take (12 - 4)).toArray⟩ : ByteArray).data.toList) = cOf s.data.toList := rfl
  have q2 : numB ((⟨((s.data.toList.drop 13).take (21 - 13)).toArray⟩ : ByteArray).data.toList) = lOf s.data.toList := rfl
  rw [q1] at hn1
  rw [q2] at hn2
  have hO2 : okH (areaN D) s.data.toList ↔ 1 ≤ cOf s.data.toList ∧ cOf s.data.toList ≤ 4611686018427387904 ∧ aOf s.data.toList ≤ 1 ∧ lOf s.data.toList ≤ areaN D ∧ s = headB (cOf s.data.toList) (aOf s.data.toList) (lOf s.data.toList) := by
    unfold okH
    have : s.data.toList = headL (cOf s.data.toList) (aOf s.data.toList) (lOf s.data.toList) ↔ s = headB (cOf s.data.toList) (aOf s.data.toList) (lOf s.data.toList) := by
      constructor
      · intro e
        unfold headB
        apply ByteArray.ext
        apply Array.toList_inj.1
        simpa using e
      · intro e
        have := congrArg (fun t : ByteArray => t.data.toList) e
        simpa [headB] using this
    rw [this]
  have hbl := b.toNat_lt
  have hb8 := u8_i64 b
  rw [haO] at hO2 hOk
  have HNo := Lib.hid (show ¬ (1 ≤ cOf s.data.toList ∧ cOf s.data.toList ≤ 4611686018427387904 ∧ b.toNat ≤ 1 ∧ lOf s.data.toList ≤ areaN D ∧ s = headB (cOf s.data.toList) b.toNat (lOf s.data.toList)) → R = (0, 0, 0) from fun h => by rw [hOk, if_neg (fun h' => h (hO2.1 h'))])
  have HYes := Lib.hid (show (1 ≤ cOf s.data.toList ∧ cOf s.data.toList ≤ 4611686018427387904 ∧ b.toNat ≤ 1 ∧ lOf s.data.toList ≤ areaN D ∧ s = headB (cOf s.data.toList) b.toNat (lOf s.data.toList)) → R = (cOf s.data.toList, b.toNat, lOf s.data.toList) from fun h => by rw [hOk, if_pos (hO2.2 h)])
  have HN1 := Lib.hid hn1
  have HN2 := Lib.hid hn2
  clear hn1 hn2 q1 q2 hb haO hOk hO2 hs64 hsl hok hrd
  generalize cOf s.data.toList = cc at *
  generalize lOf s.data.toList = ll at *
  generalize (⟨((s.data.toList.drop 4).take (12 - 4)).toArray⟩ : ByteArray) = S1 at hm1 HN1
  generalize (⟨((s.data.toList.drop 13).take (21 - 13)).toArray⟩ : ByteArray) = S2 at hm2 HN2
  generalize areaN D = ab at *
  have wab := u64_wrap (x := ab) (by omega)
  have hcl2 : cc < 18446744073709551616 := hcl
  have hll2 : ll < 18446744073709551616 := hll
  have hbl2 : b.toNat ≤ 255 := by omega
  have HMm := Lib.hid (And.intro hm1 (And.intro hm2 (And.intro hix hb8)))
  have hend := fun (W : World) (h1 : Cel W w.heap.size 81 [.int .i64 0, .int .i64 0, .int .i64 0]) (h2 : Below w.heap.size w W) => read_none h1 h2
  have HEnd := Lib.hid hend
  clear hm1 hm2 hix hb8 hcl hll hend HRt hr hc
  go_enter Tryz.func113, Tryz.ntmps113
  go_upto_region 1 with fail
  generalize w.alloc (.cells #[.int .i64 0, .int .i64 0, .int .i64 0] 81) = W1 at *
  have HB1 := Lib.hid hal
  have HC1 := Lib.hid hcb
  have k0 := hc1.cell (i := 0) rfl
  clear hal hcb hr1 hc1
  go_wp2_with fail
  refine HRd.out.mono ?_
  rintro e w2 ⟨rfl, hb⟩
  have HB2 := Lib.hid (HB1.out.trans (hb.mono HB1.out.size))
  have HC2 := Lib.hid (HC1.out.below hb)
  have HW1 := Lib.hid hb
  clear hb k0
  go_upto_region 4 with fail
  refine wp_region_said 12 [25, 26, 27, 28, 29, 30, 31, 32, 33, 8, 9, 10]
    [.is (.string s), .is (.string S1), .is (.int .u64 (cc : Int)), .is (.string s), .is (.int .u8 (b.toNat : Int)), .is (.int .i64 (b.toNat : Int)), .is (.string s), .is (.string S2), .is (.int .u64 (ll : Int)), .is (.int .u64 (cc : Int)), .is (.int .i64 (b.toNat : Int)), .is (.int .u64 (ll : Int))]
    (fun W => Below w2.heap.size w2 W) (by kernel_rfl) (by kernel_rfl) (by kernel_rfl) (by kernel_rfl) (by kernel_rfl) (fun _ _ h hb => h.trans (hb.mono h.size)) (Below.refl _ _) ?steps ?last
  case steps =>
    simp only [List.take_succ_cons, List.take_zero]
    refine ⟨?_, ?_, ?_, ?_, ?_, ?_, ?_, ?_, ?_, ?_, ?_, ?_, trivial⟩
    all_goals
      intro vs W ρ hρ hc hf hg hI hH hd R' hR
      obtain ⟨hm1, hm2, hix, hb8⟩ := HMm.out
      have HR := Lib.hid hR
      simp [depsOf, Region.binds, sayAt, Say.holds] at hd
      clear hR
    case refine_3 =>
      go_simp
      refine (HN1.out _).mono ?_
      rintro e w' ⟨rfl, rfl⟩
      exact ⟨_, rfl, HR.out _ _ (by simp [sayAt, Say.holds]) (Below.refl _ _) (by simp [sayAt, Say.isBlk])⟩
    case refine_9 =>
      go_simp
      refine (HN2.out _).mono ?_
      rintro e w' ⟨rfl, rfl⟩
      exact ⟨_, rfl, HR.out _ _ (by simp [sayAt, Say.holds]) (Below.refl _ _) (by simp [sayAt, Say.isBlk])⟩
    all_goals
      go_simp
      first
        | exact HR.out _ _ (by simp [sayAt, Say.holds]) (Below.refl _ _) (by simp [sayAt, Say.isBlk])
        | trace_state
  case last =>
    intro vs W hI hb hg hd
    have g2 := hg 9 (by omega)
    have g5 := hg 10 (by omega)
    have g8 := hg 11 (by omega)
    have g0 := hg 0 (by omega)
    simp only [sayAt, Say.holds, List.getD_cons_succ, List.getD_cons_zero] at g2 g5 g8 g0
    simp only [List.take_succ_cons, List.take_zero, List.drop_succ_cons, List.drop_zero, putAll, Act.put, List.setIfInBounds_toArray, List.set_cons_succ, List.set_cons_zero, Nat.zero_add, Nat.reduceAdd]
    simp only [g2, g5, g8]
    have HB3 := Lib.hid (HB2.out.trans (hI.mono HB2.out.size))
    have HC3 := Lib.hid (HC2.out.below hI)
    have HM3 := Lib.hid (HM.out _ (HW1.out.trans (hI.mono HW1.out.size)))
    have zq := fun i => HC3.out.free (i := i)
    have y0 := HC3.out.cell (i := 0) rfl
    have y1 := HC3.out.cell (i := 1) rfl
    have y2 := HC3.out.cell (i := 2) rfl
    have HF := setH_cel (v0 := .int .i64 0) (v1 := .int .i64 0) (v2 := .int .i64 0) HC3.out
    have z0 := HF.cell (i := 0) rfl
    have z1 := HF.cell (i := 1) rfl
    have z2 := HF.cell (i := 2) rfl
    unfold setH at z0 z1 z2
    have HZ := Lib.hid (And.intro z0 (And.intro z1 z2))
    have HEn := Lib.hid (setH_below (v0 := .int .i64 0) (v1 := .int .i64 0) (v2 := .int .i64 0) HB3.out (Nat.le_refl _))
    clear g2 g5 g8 g0 hg hd hb hI HN1 HN2 HMm HM HW1 HB2 HC2 HC1 HB1 z0 z1 z2 HF HRd HEnd
    by_cases c1 : 1 ≤ (cc : Int)
    rotate_left
    · have hz := HNo.out (fun h => by omega)
      subst hz
      go_wp2_with (first | (refine HM3.out.mono ?_; rintro e w1 ⟨rfl, rfl⟩) | fail)
      obtain ⟨z0, z1, z2⟩ := HZ.out
      exact bodyPost_ret (v := .tuple #[hdV 0 0 0, .int .i64 0]) (by simp [results, Tryz.results113, go_sem, hdV, z0, z1, z2]) rfl ⟨rfl, HEn.out⟩
    by_cases c2 : (cc : Int) ≤ 4611686018427387904
    rotate_left
    · have hz := HNo.out (fun h => by omega)
      subst hz
      go_wp2_with (first | (refine HM3.out.mono ?_; rintro e w1 ⟨rfl, rfl⟩) | fail)
      obtain ⟨z0, z1, z2⟩ := HZ.out
      exact bodyPost_ret (v := .tuple #[hdV 0 0 0, .int .i64 0]) (by simp [results, Tryz.results113, go_sem, hdV, z0, z1, z2]) rfl ⟨rfl, HEn.out⟩
    by_cases c3 : (b.toNat : Int) ≤ 1
    rotate_left
    · have hz := HNo.out (fun h => by omega)
      subst hz
      go_wp2_with (first | (refine HM3.out.mono ?_; rintro e w1 ⟨rfl, rfl⟩) | fail)
      obtain ⟨z0, z1, z2⟩ := HZ.out
      exact bodyPost_ret (v := .tuple #[hdV 0 0 0, .int .i64 0]) (by simp [results, Tryz.results113, go_sem, hdV, z0, z1, z2]) rfl ⟨rfl, HEn.out⟩
    by_cases c5 : (ll : Int) ≤ (ab : Int)
    rotate_left
    · have hz := HNo.out (fun h => by omega)
      subst hz
      go_wp2_with (first | (refine HM3.out.mono ?_; rintro e w1 ⟨rfl, rfl⟩) | fail)
      obtain ⟨z0, z1, z2⟩ := HZ.out
      exact bodyPost_ret (v := .tuple #[hdV 0 0 0, .int .i64 0]) (by simp [results, Tryz.results113, go_sem, hdV, z0, z1, z2]) rfl ⟨rfl, HEn.out⟩
    have hse := fun V => HSec.out cc b.toNat ll V (by omega) (by omega) (by omega)
    unfold hdV at hse
    have HSe := Lib.hid hse
    have w1 := i64_wrap (x := (cc : Int)) (by omega) (by omega)
    have w2' := i64_wrap (x := (ll : Int)) (by omega) (by omega)
    have hal : Below W.heap.size W (W.alloc (.cells #[.int .i64 (cc : Int), .int .i64 (b.toNat : Int), .int .i64 (ll : Int)] 81)) := (Below.refl _ W).alloc (Nat.le_refl _) _
    have hcb : Cel (W.alloc (.cells #[.int .i64 (cc : Int), .int .i64 (b.toNat : Int), .int .i64 (ll : Int)] 81)) W.heap.size 81 [.int .i64 (cc : Int), .int .i64 (b.toNat : Int), .int .i64 (ll : Int)] := (blk1 W _).2
    have HB4 := Lib.hid (HB3.out.trans (hal.mono HB3.out.size))
    have HC4 := Lib.hid (HC3.out.below hal)
    clear hse hal zq y0 y1 y2 HB3 HC3 HEn HZ HSec
    generalize headB cc b.toNat ll = hdB at HSe HNo HYes
    go_wp2_with (first | (refine HM3.out.mono ?_; rintro e w1 ⟨rfl, rfl⟩) | fail)
    refine (HSe.out _).mono ?_
    rintro e w5 ⟨rfl, hb⟩
    have HB5 := Lib.hid (HB4.out.trans (hb.mono HB4.out.size))
    have HC5 := Lib.hid (HC4.out.below hb)
    have HA5 := Lib.hid (hcb.below hb)
    have zq := fun i => HC5.out.free (i := i)
    have y0 := HC5.out.cell (i := 0) rfl
    have y1 := HC5.out.cell (i := 1) rfl
    have y2 := HC5.out.cell (i := 2) rfl
    have x0 := HA5.out.cell (i := 0) rfl
    have x1 := HA5.out.cell (i := 1) rfl
    have x2 := HA5.out.cell (i := 2) rfl
    clear hb hcb HB4 HC4 HM3 HSe
    by_cases he : s = hdB
    · have hz := HYes.out ⟨by omega, by omega, by omega, by omega, he⟩
      subst hz
      subst he
      have q := text_eq s
      go_wp2_with fail
      have HF := setH_cel (v0 := .int .i64 (cc : Int)) (v1 := .int .i64 (b.toNat : Int)) (v2 := .int .i64 (ll : Int)) HC5.out
      have z0 := HF.cell (i := 0) rfl
      have z1 := HF.cell (i := 1) rfl
      have z2 := HF.cell (i := 2) rfl
      unfold setH at z0 z1 z2
      exact bodyPost_ret (v := .tuple #[hdV cc b.toNat ll, .int .i64 0]) (by simp [results, Tryz.results113, go_sem, hdV, z0, z1, z2]) rfl ⟨rfl, setH_below HB5.out (Nat.le_refl _)⟩
    · have hz := HNo.out (fun h => he h.2.2.2.2)
      subst hz
      have q := text_ne he
      go_wp2_with fail
      have HF := setH_cel (v0 := .int .i64 0) (v1 := .int .i64 0) (v2 := .int .i64 0) HC5.out
      have z0 := HF.cell (i := 0) rfl
      have z1 := HF.cell (i := 1) rfl
      have z2 := HF.cell (i := 2) rfl
      unfold setH at z0 z1 z2
      exact bodyPost_ret (v := .tuple #[hdV 0 0 0, .int .i64 0]) (by simp [results, Tryz.results113, go_sem, hdV, z0, z1, z2]) rfl ⟨rfl, setH_below HB5.out (Nat.le_refl _)⟩

end

end Rd
end Go.Proofs.YtjehjbkcdpidbaaGreat
