/- The chapter's example comes out, over what is asked of the landed package and of strings.Repeat; no condition. -/
import Derived.Test.YtecgimnmccmpjaaScLaw
namespace Go.Proofs.Ytecgimnmccmpjaa
namespace Sc
open Go.RowKit Bk

attribute [local go_sem ↓] Go.wp_at_zero Go.wp_at_succ
attribute [local go_sem] floatUpon pick

/-- what is asked of strings.Repeat -/
def RepAll : Prop := ∀ (b : UInt8) (c : Nat) (w : World), c ≤ 1000 → Calls Try.prog 23 #[.string ⟨#[b]⟩, .int .i64 (c : Int)] w fun e w' => e = .returned (.string ⟨(List.replicate c b).toArray⟩) ∧ Below w.heap.size w w'

def all64 (b : UInt8) : ByteArray := ⟨(List.replicate 64 b).toArray⟩
def wk1 : Dev := (wrD (new0 2) 0 (all64 97)).1
def wk2 : Dev := (flD wk1).1
def wk3 : Dev := (wrD wk2 0 (all64 98)).1
def wk4 : Dev := crD wk3 [67]

theorem wk_1 : (wrD (new0 2) 0 (all64 97)).2 = 0 := by decide +kernel
theorem wk_2 : (flD wk1).2 = 0 := by decide +kernel
theorem wk_3 : (wrD wk2 0 (all64 98)).2 = 0 := by decide +kernel
theorem wk_4 : rdV wk4 0 = (⟨#[98, 98, 98]⟩ ++ ⟨(List.replicate 61 97).toArray⟩, 0) := by decide +kernel
theorem wk_5 : dirtyN wk4 = 0 := by decide +kernel

variable {Rep : World → (Nat → Prop) → Nat → Dev → Prop}

set_option maxRecDepth 20000 in
set_option maxHeartbeats 4000000 in
theorem works_any (HD : DevAll Rep) (HRp : RepAll) (w : World) : Calls Try.prog 9 #[] w fun e w' => e = .returned (.bool true) ∧ Below w.heap.size w w' := by
  have rb : reachBytes = 140737488351232 := by unfold reachBytes; rfl
  have HRa := Lib.hid (fun W => HRp 97 64 W (by omega))
  have HRb := Lib.hid (fun W => HRp 98 64 W (by omega))
  have HRc := Lib.hid (fun W => HRp 97 61 W (by omega))
  have HA64 := Lib.hid (rfl : (⟨(List.replicate 64 (97 : UInt8)).toArray⟩ : ByteArray) = all64 97)
  have HB64 := Lib.hid (rfl : (⟨(List.replicate 64 (98 : UInt8)).toArray⟩ : ByteArray) = all64 98)
  rw [HA64.out] at HRa
  rw [HB64.out] at HRb
  clear rb
  go_enter Try.func9, Try.ntmps9
  go_wp2_with fail
  refine (HD.new 2 w (by omega)).mono ?_
  rintro e w1 (⟨_, _, F, g, rfl, hr, hF, hb⟩ | ⟨hno, _⟩)
  case inr => omega
  have HP := Lib.hid (show One Rep w w1 F g (new0 2) from ⟨hr, hF, hb⟩)
  clear hr hF hb
  go_wp2_with fail
  refine (HRa.out _).mono ?_
  rintro e w2 ⟨rfl, hb⟩
  have HP2 := Lib.hid (HP.out.step HD hb)
  clear hb HP
  have hw1 := HD.write 0 (all64 97) w2 HP2.out.d (by omega) (by decide +kernel)
  rw [wk_1] at hw1
  go_wp2_with fail
  refine hw1.mono ?_
  rintro e w3 ⟨rfl, F1, h1, h2⟩
  have HP3 := Lib.hid (HP2.out.act h1 h2)
  clear h1 h2 hw1 HP2
  have hw2 := HD.flush w3 HP3.out.d
  rw [show (flD (wrD (new0 2) 0 (all64 97)).1).2 = 0 from wk_2] at hw2
  go_wp2_with fail
  refine hw2.mono ?_
  rintro e w4 ⟨rfl, F2, h1, h2⟩
  have HP4 := Lib.hid (show One Rep w w4 F2 g wk2 from HP3.out.act h1 h2)
  clear h1 h2 hw2 HP3
  go_wp2_with fail
  refine (HRb.out _).mono ?_
  rintro e w5 ⟨rfl, hb⟩
  have HP5 := Lib.hid (HP4.out.step HD hb)
  clear hb HP4
  have hw3 := HD.write 0 (all64 98) w5 HP5.out.d (by omega) (by decide +kernel)
  rw [wk_3] at hw3
  go_wp2_with fail
  refine hw3.mono ?_
  rintro e w6 ⟨rfl, F3, h1, h2⟩
  have HP6 := Lib.hid (show One Rep w w6 F3 g wk3 from HP5.out.act h1 h2)
  clear h1 h2 hw3 HP5
  go_wp2_with fail
  have HP7 := Lib.hid (HP6.out.step HD ((Below.refl _ w6).alloc (Nat.le_refl _) (.cells #[.int .i64 67] 3)))
  refine (HD.crash (some ⟨w6.heap.size, 0, none⟩) 1 [67] _ HP7.out.d (fun _ => ⟨_, rfl, by simp, fun i hi => by
    have hi2 : i < 1 := hi
    obtain rfl : i = 0 := by omega
    rw [add_zero']; exact cell_one_new w6 (.int .i64 67) 3 0 _ rfl⟩) (fun _ a e hf => by
      obtain rfl := Option.some.inj e
      have := HD.lt HP6.out.d _ hf
      exact absurd this (Nat.lt_irrefl _)) (by show 1 * 8 ≤ _; unfold reachBytes; omega) (fun p hp => by rw [List.mem_singleton] at hp; omega)).mono ?_
  rintro e w8 ⟨rfl, F4, h1, h2⟩
  have HP8 := Lib.hid (show One Rep w w8 F4 g wk4 from HP7.out.act h1 h2)
  clear h1 h2 HP6 HP7
  have hw4 := HD.read 0 w8 HP8.out.d (by omega)
  rw [wk_4] at hw4
  go_wp2_with fail
  refine hw4.mono ?_
  rintro e w9 ⟨rfl, F5, h1, h2⟩
  have HP9 := Lib.hid (HP8.out.act h1 h2)
  clear h1 h2 hw4 HP8
  have hsz : ¬ 9223372036854775807 < (⟨#[98, 98, 98]⟩ : ByteArray).size + (⟨(List.replicate 61 (97 : UInt8)).toArray⟩ : ByteArray).size := by decide +kernel
  obtain ⟨Y, hY⟩ : ∃ Y, Y = (⟨(List.replicate 61 (97 : UInt8)).toArray⟩ : ByteArray) := ⟨_, rfl⟩
  rw [← hY] at HRc hsz ⊢
  have q := text_eq (⟨#[98, 98, 98]⟩ ++ Y)
  have hw5 := fun V (hV : One Rep w V F5 g wk4) => HD.dirty V hV.d
  rw [wk_5] at hw5
  have HW5 := Lib.hid hw5
  clear hY hw5
  go_wp2_with fail
  refine (HRc.out _).mono ?_
  rintro e w10 ⟨rfl, hb⟩
  have HP10 := Lib.hid (HP9.out.step HD hb)
  clear hb HP9
  go_wp2_with fail
  refine (HW5.out _ HP10.out).mono ?_
  rintro e w11 ⟨rfl, F6, h1, h2⟩
  have HP11 := Lib.hid (HP10.out.act h1 h2)
  clear h1 h2 HP10
  go_wp2_with fail
  go_ret
  exact ⟨rfl, HP11.out.bel⟩

end Sc
end Go.Proofs.Ytecgimnmccmpjaa
