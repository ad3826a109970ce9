/- How much room a landed log has, how many texts are synced, and its Sync; contracts; no condition but the range. -/
import Derived.Test.YtjehjbkcdpidbaaGreatRlSettle
namespace Go.Proofs.YtjehjbkcdpidbaaGreat
namespace Rd
open Go.RowKit Sc Bk

attribute [local go_sem ↓] Go.wp_at_zero Go.wp_at_succ
attribute [local go_sem] floatUpon pick

section
variable {Rep : RepT} {w : World} {F : Nat → Prop} {p g c a n m mn : Nat} {A B : Value} {l : Lg} {D : Dev}

set_option maxRecDepth 20000 in
set_option maxHeartbeats 4000000 in
theorem room_any (H : DevQ Rep) (hr : Rep w F g D) (hL : LL w p g A B l) (hlo : LgOk D l) :
    Calls Tryz.prog 26 #[.pointer (some ⟨p, 0, none⟩)] w fun e w' => e = .returned (.int .i64 (roomN D l : Int)) ∧ Below w.heap.size w w' := by
  have hab : areaN D ≤ 65536 := by have := (H.ok hr).max; unfold areaN; omega
  have h4 := hlo.dev
  have hro := hlo.room
  have HM := Lib.hid (fun W (h : Rep W F g D ∧ LL W p g A B l) => most_any H h.1 h.2.cel h4)
  have HE : Hid (Rep w F g D ∧ LL w p g A B l) := Lib.hid ⟨hr, hL⟩
  obtain ⟨X, cX, rfl, hlc⟩ := own_form2 hL.wt
  have hR : (roomN D l : Int) = (areaN D : Int) - (l.bs.length : Int) - ((waitL l).length : Int) := by unfold roomN; omega
  rw [hR]
  clear hR hr hL hlo
  have q1 : (areaN D : Int) ≤ 65536 := by omega
  have q2 : (l.bs.length : Int) + ((waitL l).length : Int) ≤ (areaN D : Int) := by omega
  have k3 := HE.out.2.cel
  clear k3 hlc
  generalize hbl : l.bs.length = bl at *
  generalize hwl : (waitL l).length = wl at *
  generalize areaN D = ab at *
  have HBl := Lib.hid hbl
  have HWl := Lib.hid hwl
  clear hbl hwl hab hro
  go_enter Tryz.func26, Tryz.ntmps26
  go_upto_region 1 with fail
  refine wp_region_said 15 [3, 4, 5, 6, 7, 8, 9, 10, 11, 12, 13, 14, 15, 16, 2]
    [.is (.pointer (some ⟨p, 0, none⟩)), .is (.int .i64 (ab : Int)), .is (.pointer (some ⟨p, 0, none⟩)), .is (.pointer (some ⟨p, 0, none⟩)), .is (.pointer (some ⟨p, 1, none⟩)), .is (.pointer (some ⟨p, 3, none⟩)), .is (.int .i64 (bl : Int)), .is (.int .i64 ((ab : Int) - (bl : Int))), .is (.pointer (some ⟨p, 0, none⟩)), .is (.pointer (some ⟨p, 0, none⟩)), .is (.pointer (some ⟨p, 6, none⟩)), .is (.slice X wl cX), .is (.int .i64 (wl : Int)), .is (.int .i64 ((ab : Int) - (bl : Int) - (wl : Int))), .is (.int .i64 ((ab : Int) - (bl : Int) - (wl : Int)))]
    (fun W => Rep W F g D ∧ LL W p g A (.slice X wl cX) l) (by kernel_rfl) (by kernel_rfl) (by kernel_rfl) (by kernel_rfl) (by kernel_rfl) (fun W W' h hb => ⟨H.step h.1 hb, h.2.step hb⟩) HE.out ?steps ?last
  case steps =>
    simp only [List.take_succ_cons, List.take_zero]
    refine ⟨?_, ?_, ?_, ?_, ?_, ?_, ?_, ?_, ?_, ?_, ?_, ?_, ?_, ?_, ?_, trivial⟩
    all_goals
      intro vs W ρ hρ hc hf hg hI hH hd R' hR
      have y3 := hI.2.cel.cell (i := 3) rfl
      have y6 := hI.2.cel.cell (i := 6) rfl
      rw [HBl.out] at y3
      have v1 := i64_wrap (x := (ab : Int) - (bl : Int)) (by omega) (by omega)
      have v2 := i64_wrap (x := (ab : Int) - (bl : Int) - (wl : Int)) (by omega) (by omega)
      have HI := Lib.hid hI
      have HR := Lib.hid hR
      simp [depsOf, Region.binds, sayAt, Say.holds] at hd
      clear hR hI
      go_simp
      first
        | exact HR.out _ _ (by simp [sayAt, Say.holds]) (Below.refl _ _) (by simp [sayAt, Say.isBlk])
        | (refine (HM.out _ HI.out).mono ?_; rintro e w' ⟨rfl, rfl⟩; exact ⟨_, rfl, HR.out _ _ (by simp [sayAt, Say.holds]) (Below.refl _ _) (by simp [sayAt, Say.isBlk])⟩)
        | trace_state
  case last =>
    intro vs W hI hb hg hd
    have e14 := hg 14 (by omega)
    simp only [sayAt, Say.holds, List.getD_cons_succ, List.getD_cons_zero] at e14
    simp only [List.take_succ_cons, List.take_zero, List.drop_succ_cons, List.drop_zero, putAll, Act.put, List.setIfInBounds_toArray, List.set_cons_succ, List.set_cons_zero, Nat.zero_add, Nat.reduceAdd]
    rw [e14]
    have HB2 := Lib.hid hb
    clear e14 hg hd hb hI
    go_wp2_with fail
    go_ret
    exact ⟨rfl, HB2.out⟩

set_option maxRecDepth 20000 in
theorem synced_any (hL : LL w p g A B l) :
    Calls Tryz.prog 24 #[.pointer (some ⟨p, 0, none⟩)] w fun e w' => e = .returned (.int .i64 (l.mn : Int)) ∧ w' = w := by
  have k5 := hL.cel.cell (i := 5) rfl
  clear hL
  go_enter Tryz.func24, Tryz.ntmps24
  go_wp2_with fail
  go_ret
  exact ⟨rfl, rfl⟩

/-- what a call of the landed log answers, and leaves -/
def LPost (Rep : RepT) (w : World) (F : Nat → Prop) (p g : Nat) (A B : Value) (r : Dev × Lg × Int) (e : Ending) (w' : World) : Prop :=
  e = .returned (.int .i64 r.2.2) ∧ ∃ F' A' B', Rep w' F' g r.1 ∧ LL w' p g A' B' r.2.1 ∧ (∀ k, LFt p A' B' k → ¬ F' k) ∧ Fr (fun k => F k ∨ LFt p A B k) (fun k => F' k ∨ LFt p A' B' k) w w'

theorem stored_tail {D : Dev} (hok : DevOk D) (h4 : 4 ≤ D.on.length) {a n : Nat} (ha : a ≤ 1) (hn : n ≤ areaN D) : (flushF D (areaAt D a + n / 64)).data.toList.take (n % 64) = (storedL D a n).drop (64 * (n / 64)) := by
  have hm : areaN D = 64 * (areaN D / 64) := by unfold areaN; omega
  have hq : n / 64 ≤ areaN D / 64 := by omega
  have hl := catS_len hok h4 ha (n / 64) hq
  unfold storedL
  by_cases h0 : n % 64 = 0
  · rw [h0, List.take_zero, show (n + 63) / 64 = n / 64 by omega, List.drop_of_length_le (by rw [List.length_take, hl]; omega)]
  · have e : (catS D a (n / 64) ++ (flushF D (areaAt D a + n / 64)).data.toList).take n = catS D a (n / 64) ++ (flushF D (areaAt D a + n / 64)).data.toList.take (n % 64) := by
      rw [List.take_append, hl, show n - 64 * (n / 64) = n % 64 by omega]
      congr 1
      exact List.take_of_length_le (by rw [hl]; omega)
    rw [show (n + 63) / 64 = n / 64 + 1 by omega, catS_succ, e]
    exact (List.drop_left' hl).symm

theorem lft_same {A B : Value} (h : ∀ k, LFt p A B k → ¬ F k) {F' : Nat → Prop} {W W' : World} (hf : Fr F F' W W') (hl : ∀ k, LFt p A B k → k < W.heap.size) : ∀ k, LFt p A B k → ¬ F' k := fun k hk hf' =>
  (hf.foot k hf').elim (h k hk) (fun hs => by have := hl k hk; omega)

end

end Rd
end Go.Proofs.YtjehjbkcdpidbaaGreat
