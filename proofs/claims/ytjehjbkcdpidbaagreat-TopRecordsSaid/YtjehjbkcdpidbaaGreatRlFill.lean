/- How the landed log writes bytes into an area; contract; no condition but the range. -/
import Derived.Test.YtjehjbkcdpidbaaGreatRlOpen
namespace Go.Proofs.YtjehjbkcdpidbaaGreat
namespace Rd
open Go.RowKit Sc Bk

attribute [local go_sem ↓] Go.wp_at_zero Go.wp_at_succ
attribute [local go_sem] floatUpon pick

theorem list_sum3 (X Y : List UInt8) (h : X.length + Y.length ≤ 1000000000) (W : World) : (Op.stringOp .add ⟨X.toArray⟩ ⟨Y.toArray⟩).run Tryz.prog W = .ok (.string ⟨(X ++ Y).toArray⟩) W := by
  have h1 : (⟨X.toArray⟩ : ByteArray).size = X.length := text_size X
  have h2 : (⟨Y.toArray⟩ : ByteArray).size = Y.length := text_size Y
  rw [run_string_add_sum W _ _ (by omega), ByteArray.mk_append_mk]

set_option maxRecDepth 20000 in
set_option maxHeartbeats 2000000 in
theorem padded_any (HRt : RepTxt) (L : List UInt8) (w : World) (h : L.length ≤ 64) :
    Calls Tryz.prog 120 #[.string ⟨L.toArray⟩] w fun e w' => e = .returned (.string ⟨(L ++ List.replicate (64 - L.length) 0).toArray⟩) ∧ Below w.heap.size w w' := by
  have hR := fun W => HRt ⟨#[0]⟩ (64 - L.length) W (by omega) (by decide)
  have e1 : (List.replicate (64 - L.length) (⟨#[0]⟩ : ByteArray).data.toList).flatten = List.replicate (64 - L.length) (0 : UInt8) := by
    show (List.replicate (64 - L.length) [(0 : UInt8)]).flatten = _
    generalize 64 - L.length = k
    induction k with
    | zero => rfl
    | succ k ih => rw [List.replicate_succ, List.flatten_cons, ih, List.replicate_succ]; rfl
  rw [e1] at hR
  have hs := fun W => list_sum3 L (List.replicate (64 - L.length) 0) (by rw [List.length_replicate]; omega) W
  have hsz : (⟨L.toArray⟩ : ByteArray).size = L.length := text_size L
  have e2 : ((64 - L.length : Nat) : Int) = 64 - (L.length : Int) := by omega
  rw [e2] at hR
  have HR := Lib.hid hR
  have hb : (L.length : Int) ≤ 64 := by omega
  clear hR e1 e2 HRt
  generalize (⟨(L ++ List.replicate (64 - L.length) 0).toArray⟩ : ByteArray) = X at hs ⊢
  generalize (⟨(List.replicate (64 - L.length) (0 : UInt8)).toArray⟩ : ByteArray) = Y at hs HR
  generalize (⟨L.toArray⟩ : ByteArray) = S at hs hsz ⊢
  generalize L.length = m at *
  subst hsz
  go_enter Tryz.func120, Tryz.ntmps120
  go_wp2_with fail
  refine (HR.out _).mono ?_
  rintro e w2 ⟨rfl, hb2⟩
  have HB := Lib.hid hb2
  clear hb2
  go_wp2_with fail
  go_ret
  exact ⟨rfl, HB.out⟩

/-- bytes are written, and a flush -/
def fillP (D : Dev) (a : Nat) (old more : List UInt8) : Dev × Int := andD (wrs (areaAt D a) (old ++ more) (old.length / 64) (((old ++ more).length + 63) / 64 - old.length / 64) D) flD

theorem settle_fill {D : Dev} {c a : Nat} {old more : List UInt8} (h : more ≠ []) : settleP D c a old more = andD (fillP D a old more) fun D2 => putP D2 (c + 1) a (old ++ more).length := by
  unfold settleP fillP manyW
  rw [if_neg h]
  generalize wrs (areaAt D a) (old ++ more) (old.length / 64) (((old ++ more).length + 63) / 64 - old.length / 64) D = r
  by_cases h0 : r.2 = 0
  · rw [and_go h0, and_go h0]
    show andD (if more = [] then _ else _) _ = _
    rw [if_neg h]; rfl
  · rw [and_stop h0, and_stop h0, and_stop h0]

theorem settle_none {D : Dev} {c a : Nat} {old : List UInt8} : settleP D c a old [] = putP D (c + 1) a old.length := by
  unfold settleP manyW
  rw [if_pos rfl, and_go rfl]
  show andD (if ([] : List UInt8) = [] then _ else _) _ = _
  rw [if_pos rfl, and_go rfl, List.append_nil]
  rfl

theorem limB_drop {all : List UInt8} {i : Nat} (h : 64 * i < all.length) : (all.drop (64 * i)).drop (limB all i) = all.drop (64 * (i + 1)) := by
  have h1 := lim_say all h
  rw [List.drop_drop]
  rcases h1.2.2 with e | e
  · rw [e]; congr 1
  · rw [List.drop_of_length_le (by omega), List.drop_of_length_le (by omega)]

theorem blkB_pad (all : List UInt8) (i : Nat) (h : 64 * i < all.length) : (all.drop (64 * i)).take (limB all i) ++ List.replicate (64 - ((all.drop (64 * i)).take (limB all i)).length) 0 = (blkB all i).data.toList := by
  have h1 := lim_say all h
  rw [List.length_take, List.length_drop, Nat.min_eq_left (by omega)]
  unfold blkB rowB
  simp

section
variable {Rep : RepT} {w : World} {F : Nat → Prop} {p g c a n m mn : Nat} {A B : Value} {l : Lg} {D : Dev}

/-- what a fill answers, and leaves -/
def FillPost (Rep : RepT) (w : World) (F : Nat → Prop) (p g c a n : Nat) (A : Value) (mn : Nat) (B : Value) (r : Dev × Int) (e : Ending) (w' : World) : Prop :=
  e = .returned (.int .i64 r.2) ∧ ∃ F', Rep w' F' g r.1 ∧ ¬ F' p ∧ LC w' p g c a n A mn B ∧ Fr F F' w w'

set_option maxRecDepth 20000 in
set_option maxHeartbeats 8000000 in
theorem fill_any (HRt : RepTxt) (HB : DevBase Rep) (H : DevQ Rep) (hr : Rep w F g D) (hc : LC w p g c a n A mn B) (hpF : ¬ F p) (h4 : 4 ≤ D.on.length) (hu : D.down = false) (b : Nat) (old more : List UInt8) (hb : b ≤ 1) (hm : more ≠ []) (hz : (old ++ more).length ≤ areaN D)
    (hold : (flushF D (areaAt D b + old.length / 64)).data.toList.take (old.length % 64) = old.drop (64 * (old.length / 64))) :
    Calls Tryz.prog 88 #[.pointer (some ⟨p, 0, none⟩), .int .i64 (b : Int), .int .i64 (old.length : Int), .string ⟨more.toArray⟩] w (FillPost Rep w F p g c a n A mn B (fillP D b old more)) := by
  have hok := H.ok hr
  have hab : areaN D ≤ 65536 := by have := hok.max; unfold areaN; omega
  have hmp : 0 < more.length := List.length_pos_iff.2 hm
  have hall : (old ++ more).length = old.length + more.length := List.length_append
  obtain ⟨f, hf⟩ : ∃ f, f = old.length / 64 := ⟨_, rfl⟩
  obtain ⟨N, hN⟩ : ∃ N, N = ((old ++ more).length + 63) / 64 := ⟨_, rfl⟩
  have hfm : f < areaN D / 64 := by unfold areaN at *; omega
  have hNm : N ≤ areaN D / 64 := by unfold areaN at *; omega
  have hFi := first_any H hr hc h4 b hb
  have hrd := H.read ((areaAt D b + f : Nat) : Int) w hr ⟨by omega, by have := area_fit h4 hb hfm; have := hok.max; omega⟩
  rw [rd_up hu (area_fit h4 hb hfm)] at hrd
  have ht64 : (flushF D (areaAt D b + f)).size = 64 := flush64 hok (area_fit h4 hb hfm)
  have hP : fillP D b old more = andD (wrs (areaAt D b) (old ++ more) f (N - f) D) flD := by unfold fillP; rw [← hf, ← hN]
  rw [← hf] at hold
  have hbs : areaAt D b ≤ 1026 := by
    unfold areaAt
    have : areaN D / 64 ≤ 1024 := by omega
    have hb2 : b = 0 ∨ b = 1 := by omega
    rcases hb2 with rfl | rfl <;> omega
  have hmm : areaN D / 64 ≤ 1024 := by omega
  generalize areaN D / 64 = mm at hfm hNm hmm
  generalize areaN D = ab at *
  generalize areaAt D b = base at *
  generalize flushF D (base + f) = t at *
  have hdrop : t.data.toList.take (old.length % 64) ++ more = (old ++ more).drop (64 * f) := by
    rw [hold, List.drop_append_of_le_length (by omega)]
  have hto := fun W => str_to t (old.length % 64) (by omega) ((old.length : Int).tmod 64) (by rw [Int.tmod_eq_emod_of_nonneg (by omega)]; omega) W
  have hsum := fun W => list_sum3 (t.data.toList.take (old.length % 64)) more (by rw [List.length_take]; omega) W
  rw [hdrop] at hsum
  have hq1 : (old.length : Int).tdiv 64 = (f : Int) := by rw [Int.tdiv_eq_ediv_of_nonneg (by omega)]; omega
  have hq2 : (old.length : Int) / 64 = (f : Int) := by omega
  have hm1 : (old.length : Int).tmod 64 = ((old.length % 64 : Nat) : Int) := by rw [Int.tmod_eq_emod_of_nonneg (by omega)]; omega
  rw [hm1] at hto
  have hm2 : (old.length : Int) % 64 = ((old.length % 64 : Nat) : Int) := by omega
  have hlb : (old.length : Int) ≤ 65536 := by omega
  have hml : (old.length % 64 : Nat) < 64 := by omega
  have HAllL := Lib.hid (show 64 * f < (old ++ more).length from by omega)
  have HNn := Lib.hid (show ∀ i, 64 * i < (old ++ more).length → i < N from fun i h => by omega)
  have HNe := Lib.hid (show ∀ i, ¬ 64 * i < (old ++ more).length → 64 * i < (old ++ more).length + 64 → N = i from fun i h h2 => by omega)
  have hal6 : (old ++ more).length ≤ 65536 := by omega
  have HPad := Lib.hid (fun L V h => padded_any HRt L V h)
  have HR0 := Lib.hid hr
  have HC0 := Lib.hid hc
  have HFi := Lib.hid hFi
  have HRd := Lib.hid hrd
  have HP := Lib.hid hP
  have hfN : f < N := HNn.out f HAllL.out
  generalize old.length % 64 = mo at *
  generalize (⟨more.toArray⟩ : ByteArray) = SM at *
  generalize (⟨(t.data.toList.take mo).toArray⟩ : ByteArray) = ST at *
  generalize hPst : FillPost Rep w F p g c a n A mn B (fillP D b old more) = Pst
  have HPst := Lib.hid hPst
  generalize hOL : old.length = ol at *
  generalize hAL : old ++ more = all at *
  clear hPst hr hc hFi hrd hP hdrop hold hN hf hall hz hmp hm hOL hAL hok ht64 hm1 HRt
  have k0 := HC0.out.cell (i := 0) rfl
  have HLen0 := Lib.hid h4
  clear h4
  go_enter Tryz.func88, Tryz.ntmps88
  go_wp2_with fail
  refine HFi.out.mono ?_
  rintro e w2 ⟨rfl, rfl⟩
  go_wp2_with fail
  refine HRd.out.mono ?_
  rintro e w3 ⟨rfl, hb3⟩
  have HB3 := Lib.hid hb3
  clear hb3 k0 HRd HFi
  have HR3 := Lib.hid (H.step HR0.out HB3.out)
  have HC3 := Lib.hid (Cel.below HC0.out HB3.out)
  have HF3 := Lib.hid (fr_refl_below (G := F) HB3.out)
  clear HR0 HC0 HB3 HLen0
  go_upto_region 6 with fail
  clear hto hsum hq1 hq2 hm2 hlb hml
  go_loopw [9, 12] (fun u r wr => ∃ (i : Nat) (D1 : Dev) (F1 : Nat → Prop), i ≤ N ∧ u = .int .i64 ((base : Int) + (i : Int)) ∧ r = .string ⟨(all.drop (64 * i)).toArray⟩ ∧ Hid (64 * i < all.length + 64) ∧ Hid (wrs base all f (N - f) D = wrs base all i (N - i) D1) ∧ Hid (Rep wr F1 g D1) ∧ Hid (¬ F1 p) ∧ Hid (LC wr p g c a n A mn B) ∧ Hid (Fr F F1 w2 wr)) (fun u _ _ => 3000 - (intOf u).toNat)
  case atStart => exact ⟨f, D, F, by omega, rfl, rfl, Lib.hid (by have := HAllL.out; omega), Lib.hid rfl, HR3.out, hpF, HC3.out, HF3.out⟩
  case round =>
    obtain ⟨i, D1, F1, hi, rfl, rfl, hj, hwrs, hr1, hp1, hc1, hf1⟩ := hrel
    obtain ⟨R, hR⟩ : ∃ R : ByteArray, R = ⟨(all.drop (64 * i)).toArray⟩ := ⟨_, rfl⟩
    have hRl : R.data.toList = all.drop (64 * i) := by rw [hR]
    have hRs : R.size = all.length - 64 * i := by rw [hR, text_size, List.length_drop]
    rw [← hR]
    by_cases hlt : 64 * i < all.length
    · have hiN := HNn.out i hlt
      have hlim := lim_say all hlt
      have hne : R ≠ ⟨#[]⟩ := fun e => by rw [e] at hRs; have : (⟨#[]⟩ : ByteArray).size = 0 := rfl; omega
      have hq := text_ne hne
      have hq2 : ¬ R.toList = [] := fun e => by
        have e0 : (⟨#[]⟩ : ByteArray).toList = [] := by rw [ByteArray.toList_eq]
        rw [e, e0] at hq
        exact absurd hq (by decide)
      have hq3 : R.toList.isEmpty = false := by simpa using hq2
      have hpad := HPad.out ((all.drop (64 * i)).take (limB all i))
      rw [blkB_pad all i hlt] at hpad
      have hbs64 := blkB_size all i
      have hsto := fun W => str_to R (limB all i) (by omega) (limB all i : Int) rfl W
      have hsfr := fun W => str_from R (limB all i) (by omega) (limB all i : Int) rfl W
      rw [hRl] at hsto hsfr
      rw [limB_drop hlt] at hsfr
      have hpadl : ((all.drop (64 * i)).take (limB all i)).length ≤ 64 := by rw [List.length_take]; omega
      have hmn : min (R.size : Int) 64 = (limB all i : Int) := by
        rcases hlim.2.2 with e | e <;> omega
      have HPd := Lib.hid (fun V => hpad V hpadl)
      have hN1 := fun h => wrs_next (base := base) (all := all) (i := i) (N := N) (D1 := D1) hiN h
      have hS1 := fun h => wrs_stop (base := base) (all := all) (i := i) (N := N) (D1 := D1) hiN h
      have ecast : ((base + i : Nat) : Int) = (base : Int) + (i : Int) := by omega
      rw [ecast] at hN1 hS1
      generalize (⟨((all.drop (64 * i)).take (limB all i)).toArray⟩ : ByteArray) = PR at HPd hsto
      have hBB : (⟨(blkB all i).data.toList.toArray⟩ : ByteArray) = blkB all i := rfl
      rw [hBB] at HPd
      generalize blkB all i = BL at HPd hN1 hS1 hbs64
      obtain ⟨R2, hR2⟩ : ∃ R2 : ByteArray, R2 = ⟨(all.drop (64 * (i + 1))).toArray⟩ := ⟨_, rfl⟩
      rw [← hR2] at hsfr
      have HR2 := Lib.hid hR2
      have HS1 := Lib.hid hS1
      have HN1 := Lib.hid hN1
      have HLt := Lib.hid hlt
      generalize limB all i = k at hsto hsfr hmn hlim
      have hk64 : k ≤ 64 := hlim.1
      have HI0 : Hid (Rep wr F1 g D1 ∧ LC wr p g c a n A mn B) := Lib.hid ⟨hr1.out, hc1.out⟩
      clear hR hRl hRs hlim hne hpad hpadl hN1 hS1 ecast hBB hR2 hlt
      go_upto_region 9 with fail
      refine wp_region_said 9 [46, 47, 48, 49, 50, 51, 52, 53, 54]
        [.is (.pointer (some ⟨p, 0, none⟩)), .is (.pointer (some ⟨p, 0, none⟩)), .is (.pointer (some ⟨p, 0, none⟩)), .is (.pointer (some ⟨g, 0, none⟩)), .is (.int .i64 ((base : Int) + (i : Int))), .is (.string R), .is (.int .i64 (k : Int)), .is (.string PR), .is (.string BL)]
        (fun W => Rep W F1 g D1 ∧ LC W p g c a n A mn B) (by kernel_rfl) (by kernel_rfl) (by kernel_rfl) (by kernel_rfl) (by kernel_rfl) (fun W W' h hb => ⟨H.step h.1 hb, Cel.below h.2 hb⟩) HI0.out ?steps ?last
      case steps =>
        simp only [List.take_succ_cons, List.take_zero]
        refine ⟨?_, ?_, ?_, ?_, ?_, ?_, ?_, ?_, ?_, trivial⟩
        all_goals
          intro vs W ρ hρ hc hf hg hI hH hd R' hR
          have y0 := hI.2.cell (i := 0) rfl
          have HR := Lib.hid hR
          simp [depsOf, Region.binds, sayAt, Say.holds] at hd
          clear hR hI
          go_simp
          first
            | exact HR.out _ _ (by simp [sayAt, Say.holds]) (Below.refl _ _) (by simp [sayAt, Say.isBlk])
            | (refine (HPd.out _).mono ?_; rintro e w' ⟨rfl, hb⟩; exact ⟨_, rfl, HR.out _ _ (by simp [sayAt, Say.holds]) hb (by simp [sayAt, Say.isBlk])⟩)
            | trace_state
      case last =>
        intro vs W hI hbw hg hd
        have e3 := hg 3 (by omega)
        have e4 := hg 4 (by omega)
        have e8 := hg 8 (by omega)
        simp only [sayAt, Say.holds, List.getD_cons_succ, List.getD_cons_zero] at e3 e4 e8
        simp only [List.take_succ_cons, List.take_zero, List.drop_succ_cons, List.drop_zero, putAll, Act.put, List.setIfInBounds_toArray, List.set_cons_succ, List.set_cons_zero, Nat.zero_add, Nat.reduceAdd]
        rw [e3, e4, e8]
        have hwr := HB.write ((base : Int) + (i : Int)) BL W hI.1 ⟨by omega, by omega⟩ (by rw [hbs64]; unfold reachBytes; omega)
        have HF4 := Lib.hid (hf1.out.below hbw)
        have HC4 := Lib.hid hI.2
        generalize wrD D1 ((base : Int) + (i : Int)) BL = rr at hwr HN1 HS1
        obtain ⟨D3, e3'⟩ := rr
        have HWr := Lib.hid hwr
        clear e3 e4 e8 hg hd hbw hI hwr HPd
        go_wp2_with fail
        refine HWr.out.mono ?_
        rintro e w7 ⟨rfl, F2, hr7, hf7⟩
        have HF7 := Lib.hid (HF4.out.trans hf7)
        have HR7 := Lib.hid hr7
        have HC7 := Lib.hid (cel_fr HC4.out hf7 hp1.out)
        have HP7 := Lib.hid (foot_not hf7 hp1.out HC4.out.lt)
        clear hr7 hf7 HWr HF4 HC4
        by_cases h0 : e3' = 0
        rotate_left
        · have hnz : (e3' != 0) = true := by simpa using h0
          go_wp2_with fail
          rw [← HPst.out, HP.out, hwrs.out, HS1.out h0, and_stop h0]
          exact ⟨rfl, F2, HR7.out, HP7.out, HC7.out, HF7.out⟩
        subst h0
        have HW2 := Lib.hid (hwrs.out.trans (HN1.out rfl))
        go_wp2_with fail
        go_roundw
        case rel => exact ⟨i + 1, D3, F2, by omega, by go_num, by rw [HR2.out], Lib.hid (by have := HLt.out; omega), HW2.out, HR7.out, HP7.out, HC7.out, HF7.out⟩
        case measure => simp [intOf]; omega
    · have hNi := HNe.out i hlt hj.out
      have hw2 := hwrs.out
      rw [← hNi, Nat.sub_self] at hw2
      have HW := Lib.hid (show wrs base all f (N - f) D = (D1, 0) from hw2)
      have hem : R = ⟨#[]⟩ := by rw [hR, List.drop_of_length_le (by omega)]
      clear hw2 hNi hRl hRs hR
      subst hem
      have q0 := text_eq ⟨#[]⟩
      have y0 := hc1.out.cell (i := 0) rfl
      have hfl := HB.flush wr hr1.out
      have HEq := Lib.hid (show andD (wrs base all f (N - f) D) flD = flD D1 from by rw [HW.out, and_go rfl])
      generalize flD D1 = rr at hfl HEq
      obtain ⟨D3, e3'⟩ := rr
      have HFl := Lib.hid hfl
      clear hfl
      go_wp2_with fail
      refine HFl.out.mono ?_
      rintro e w7 ⟨rfl, F2, hr7, hf7⟩
      have HF7 := Lib.hid (hf1.out.trans hf7)
      have HR7 := Lib.hid hr7
      have HC7 := Lib.hid (cel_fr hc1.out hf7 hp1.out)
      have HP7 := Lib.hid (foot_not hf7 hp1.out hc1.out.lt)
      clear hr7 hf7 HFl y0
      go_wp2_with fail
      rw [← HPst.out, HP.out, HEq.out]
      exact ⟨rfl, F2, HR7.out, HP7.out, HC7.out, HF7.out⟩

end

end Rd
end Go.Proofs.YtjehjbkcdpidbaaGreat
