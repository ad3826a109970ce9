/- What the landed log's bytes are; contract; no condition but the range. -/
import Derived.Test.YtjehjbkcdpidbaaGreatRlStart
import Derived.Test.YtjehjbkcdpidbaaGreatB9
namespace Go.Proofs.YtjehjbkcdpidbaaGreat
namespace Rd
open Go.RowKit Sc Bk

attribute [local go_sem ↓] Go.wp_at_zero Go.wp_at_succ
attribute [local go_sem] floatUpon pick

theorem bld_kept {b : Nat} {l : List UInt8} {w w' : World} (h : Bld b l w) (hb : Below w.heap.size w w') : Bld b l w' := by
  have key : ∀ p, Lib.BuilderAtF 127 5 b b p (Lib.byteCells l) w → Lib.BuilderAtF 127 5 b b p (Lib.byteCells l) w' := fun p h => by
    obtain ⟨h0, v, h1, h2, h3⟩ := h
    refine ⟨h0, v, (hb.block b (Array.getElem?_eq_some_iff.1 h1).1).trans h1, ?_, h3⟩
    refine ⟨h2.1, ?_⟩
    rcases h2.2 with h4 | ⟨g, cap, cur, fz, e1, e2, e3, e4⟩
    · exact .inl h4
    · exact .inr ⟨g, cap, cur, fz, e1, e2, (hb.block g (Array.getElem?_eq_some_iff.1 e3).1).trans e3, e4⟩
  rcases h with h | h
  · exact .inl (key _ h)
  · exact .inr (key _ h)

section
variable {Rep : RepT} {w : World} {F : Nat → Prop} {p g c a n m mn : Nat} {A B : Value} {l : Lg} {D : Dev}

set_option maxRecDepth 20000 in
set_option maxHeartbeats 8000000 in
theorem bytes_any (H : DevQ Rep) (hr : Rep w F g D) (hc : LC w p g c a n A mn B) (h4 : 4 ≤ D.on.length) (ha : a ≤ 1) (hn : n ≤ areaN D) (hu : n ≠ 0 → D.down = false) :
    Calls Tryz.prog 79 #[.pointer (some ⟨p, 0, none⟩)] w fun e w' => e = .returned (.tuple #[.string ⟨(storedL D a n).toArray⟩, .int .i64 0]) ∧ Below w.heap.size w w' := by
  have hok := H.ok hr
  have hmx := hok.max
  have hal : Below w.heap.size w (w.alloc (.cells #[.pointer none, .slice none 0 0] 127)) := (Below.refl _ w).alloc (Nat.le_refl _) _
  have hbl := Bld.new w
  have HR := Lib.hid (fun W (h : Below w.heap.size w W) => H.step hr h)
  have HC := Lib.hid (fun W (h : Below w.heap.size w W) => Cel.below hc h)
  have HFi := Lib.hid (fun W (h : Below w.heap.size w W) => first_any H (H.step hr h) (Cel.below hc h) h4 a ha)
  have hab : areaN D ≤ 65536 := by unfold areaN; omega
  have hm64 : areaN D = 64 * (areaN D / 64) := by unfold areaN; omega
  obtain ⟨mm, hmm⟩ : ∃ mm, mm = areaN D / 64 := ⟨_, rfl⟩
  rw [← hmm] at hm64
  have hm1 : mm ≤ 1024 := by omega
  have HSt := Lib.hid (show ∀ i, n ≤ 64 * i → 64 * i < n + 64 → (catS D a i).take n = storedL D a n from fun i h1 h2 => by
    unfold storedL
    rw [show (n + 63) / 64 = i by omega])
  have HLen := Lib.hid (fun i (hi : i ≤ mm) => catS_len hok h4 ha i (by rw [← hmm]; exact hi))
  have HCat := Lib.hid (fun i => catS_succ D a i)
  have h0 : areaAt D a ≤ 1026 := by
    unfold areaAt areaN
    have : a = 0 ∨ a = 1 := by omega
    rcases this with rfl | rfl <;> omega
  have HRd := Lib.hid (fun W (h : Below w.heap.size w W) i (hi : i < mm) (h0 : n ≠ 0) => show Calls Tryz.prog 29 #[.pointer (some ⟨g, 0, none⟩), .int .i64 ((areaAt D a : Int) + (i : Int))] W fun e w' => e = .returned (.tuple #[.string (flushF D (areaAt D a + i)), .int .i64 0]) ∧ Below W.heap.size W w' from by
    have h2 := H.read (((areaAt D a + i : Nat)) : Int) W (H.step hr h) ⟨by omega, by omega⟩
    rw [rd_up (hu h0) (area_fit h4 ha (by rw [← hmm]; exact hi))] at h2
    exact h2)
  have HF64 := Lib.hid (fun i (hi : i < mm) => show (flushF D (areaAt D a + i)).size = 64 from flush64 hok (area_fit h4 ha (by rw [← hmm]; exact hi)))
  generalize storedL D a n = res at HSt ⊢
  generalize areaAt D a = at0 at *
  clear hr hc hok hmx hmm
  go_enter Tryz.func79, Tryz.ntmps79
  go_upto_region 2 with fail
  generalize w.alloc (.cells #[.pointer none, .slice none 0 0] 127) = W1 at *
  have HB1 := Lib.hid hal
  have HL1 := Lib.hid hbl
  have k2 := (HC.out W1 hal).cell (i := 2) rfl
  clear hal hbl
  go_wp2_with fail
  refine (HFi.out _ HB1.out).mono ?_
  rintro e w2 ⟨rfl, rfl⟩
  clear k2
  go_wp2_with fail
  go_loopw [5] (fun u wr => ∃ (i : Nat), i ≤ mm ∧ u = .int .i64 ((at0 : Int) + (i : Int)) ∧ Hid (64 * i < n + 64) ∧ Hid (Bld w.heap.size (catS D a i) wr) ∧ Hid (Below w.heap.size w wr)) (fun u _ => 3000 - (intOf u).toNat)
  case atStart => exact ⟨0, by omega, by simp, Lib.hid (by omega), HL1.out, HB1.out⟩
  case round =>
    obtain ⟨i, hi, rfl, hj, hbld, hbel⟩ := hrel
    have HI0 : Hid (Bld w.heap.size (catS D a i) wr ∧ LC wr p g c a n A mn B) := Lib.hid ⟨hbld.out, HC.out _ hbel.out⟩
    have HBl := Lib.hid (fun W (h : Bld w.heap.size (catS D a i) W) => bld_len h)
    have hlen := HLen.out i hi
    rw [hlen] at HBl
    generalize hkk : 64 * i = q at HBl hlen
    by_cases hlt : q < n
    · have pl : (q : Int) < (n : Int) := by omega
      go_upto_region 3 with fail
      refine wp_region_said 7 [15, 16, 17, 18, 19, 20, 21]
        [.is (.int .i64 (q : Int)), .is (.pointer (some ⟨p, 0, none⟩)), .is (.pointer (some ⟨p, 0, none⟩)), .is (.pointer (some ⟨p, 1, none⟩)), .is (.pointer (some ⟨p, 3, none⟩)), .is (.int .i64 (n : Int)), .is (.bool true)]
        (fun W => Bld w.heap.size (catS D a i) W ∧ LC W p g c a n A mn B) (by kernel_rfl) (by kernel_rfl) (by kernel_rfl) (by kernel_rfl) (by kernel_rfl) (fun W W' h hb => ⟨bld_kept h.1 hb, Cel.below h.2 hb⟩) HI0.out ?steps ?last
      case steps =>
        simp only [List.take_succ_cons, List.take_zero]
        refine ⟨?_, ?_, ?_, ?_, ?_, ?_, ?_, trivial⟩
        all_goals
          intro vs W ρ hρ hc hf hg hI hH hd R' hR
          have y3 := hI.2.cell (i := 3) rfl
          have HI := Lib.hid hI
          have HR := Lib.hid hR
          simp [depsOf, Region.binds, sayAt, Say.holds] at hd
          clear hR hI
          go_simp
          first
            | exact HR.out _ _ (by simp [sayAt, Say.holds]) (Below.refl _ _) (by simp [sayAt, Say.isBlk])
            | (refine (HBl.out _ HI.out.1).mono ?_; rintro e w' ⟨rfl, rfl⟩; exact ⟨_, rfl, HR.out _ _ (by simp [sayAt, Say.holds]) (Below.refl _ _) (by simp [sayAt, Say.isBlk])⟩)
            | trace_state
      case last =>
        intro vs W hI hb hg hd
        have e6 := hg 6 (by omega)
        simp only [sayAt, Say.holds, List.getD_cons_succ, List.getD_cons_zero] at e6
        simp only [List.take_succ_cons, List.take_zero, List.drop_succ_cons, List.drop_zero, putAll, Act.put, List.setIfInBounds_toArray, List.set_cons_succ, List.set_cons_zero, Nat.zero_add, Nat.reduceAdd]
        rw [e6]
        have him : i < mm := by omega
        have HB2 := Lib.hid (hbel.out.trans (hb.mono hbel.out.size))
        have HL2 := Lib.hid hI.1
        have y0 := hI.2.cell (i := 0) rfl
        have HRd2 := Lib.hid (HRd.out W HB2.out i him (by omega))
        have h64 := HF64.out i him
        have hcs := HCat.out i
        generalize flushF D (at0 + i) = t at HRd2 h64 hcs
        have HCs := Lib.hid hcs
        clear e6 hg hd hb hI hcs
        go_wp2_with fail
        refine HRd2.out.mono ?_
        rintro e w3 ⟨rfl, hb⟩
        have HB3 := Lib.hid (HB2.out.trans (hb.mono HB2.out.size))
        have HL3 := Lib.hid (bld_kept HL2.out hb)
        clear hb HL2 y0 HRd2
        go_wp2_with fail
        refine (bld_string t HL3.out (by rw [hlen, h64]; omega)).mono ?_
        rintro e w4 ⟨rfl, hl4, hb⟩
        rw [← HCs.out] at hl4
        have HL4 := Lib.hid hl4
        have HB4 := Lib.hid (HB3.out.trans hb)
        clear hl4 hb HL3
        go_wp2_with fail
        go_roundw
        case rel => exact ⟨i + 1, by omega, by go_num, Lib.hid (by omega), HL4.out, HB4.out⟩
        case measure => simp [intOf]; omega
    · have pl : ¬ (q : Int) < (n : Int) := by omega
      go_upto_region 3 with fail
      refine wp_region_said 7 [15, 16, 17, 18, 19, 20, 21]
        [.is (.int .i64 (q : Int)), .is (.pointer (some ⟨p, 0, none⟩)), .is (.pointer (some ⟨p, 0, none⟩)), .is (.pointer (some ⟨p, 1, none⟩)), .is (.pointer (some ⟨p, 3, none⟩)), .is (.int .i64 (n : Int)), .is (.bool false)]
        (fun W => Bld w.heap.size (catS D a i) W ∧ LC W p g c a n A mn B) (by kernel_rfl) (by kernel_rfl) (by kernel_rfl) (by kernel_rfl) (by kernel_rfl) (fun W W' h hb => ⟨bld_kept h.1 hb, Cel.below h.2 hb⟩) HI0.out ?steps2 ?last2
      case steps2 =>
        simp only [List.take_succ_cons, List.take_zero]
        refine ⟨?_, ?_, ?_, ?_, ?_, ?_, ?_, trivial⟩
        all_goals
          intro vs W ρ hρ hc hf hg hI hH hd R' hR
          have y3 := hI.2.cell (i := 3) rfl
          have HI := Lib.hid hI
          have HR := Lib.hid hR
          simp [depsOf, Region.binds, sayAt, Say.holds] at hd
          clear hR hI
          go_simp
          first
            | exact HR.out _ _ (by simp [sayAt, Say.holds]) (Below.refl _ _) (by simp [sayAt, Say.isBlk])
            | (refine (HBl.out _ HI.out.1).mono ?_; rintro e w' ⟨rfl, rfl⟩; exact ⟨_, rfl, HR.out _ _ (by simp [sayAt, Say.holds]) (Below.refl _ _) (by simp [sayAt, Say.isBlk])⟩)
            | trace_state
      case last2 =>
        intro vs W hI hb hg hd
        have e6 := hg 6 (by omega)
        simp only [sayAt, Say.holds, List.getD_cons_succ, List.getD_cons_zero] at e6
        simp only [List.take_succ_cons, List.take_zero, List.drop_succ_cons, List.drop_zero, putAll, Act.put, List.setIfInBounds_toArray, List.set_cons_succ, List.set_cons_zero, Nat.zero_add, Nat.reduceAdd]
        rw [e6]
        have HB2 := Lib.hid (hbel.out.trans (hb.mono hbel.out.size))
        have HI2 := Lib.hid hI
        have hst := HSt.out i (by omega) (by have := hj.out; omega)
        have hsl := fun W => str_to (⟨(catS D a i).toArray⟩ : ByteArray) n (by rw [text_size]; omega) (n : Int) rfl W
        rw [show ((⟨(catS D a i).toArray⟩ : ByteArray).data.toList.take n) = res from hst] at hsl
        have HTx := Lib.hid (fun W (h : Bld w.heap.size (catS D a i) W) => bld_text h)
        generalize (⟨(catS D a i).toArray⟩ : ByteArray) = cs at hsl HTx
        clear e6 hg hd hb hI hst
        go_upto_region 9 with fail
        have y3 := HI2.out.2.cell (i := 3) rfl
        go_region_with
          ((refine (HTx.out _ (bld_kept HI2.out.1 (Below.refl _ _).drew)).mono ?_
            rintro e w5 ⟨rfl, _, hb⟩
            have HB5 := Lib.hid (HB2.out.drew.trans hb)
            have y5 := (HC.out _ HB5.out).cell (i := 3) rfl
            clear hb))
        all_goals
          go_wp2_with fail
          go_ret2
          exact ⟨rfl, HB5.out⟩

end

end Rd
end Go.Proofs.YtjehjbkcdpidbaaGreat
