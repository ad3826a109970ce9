/- The law of a device under any calls, over what is asked of the landed package; no condition but the range. -/
import Derived.Test.YtecgimnmccmpjaaScOpen
import Derived.Test.YtecgimnmccmpjaaScStep2
import Derived.Test.YtecgimnmccmpjaaScRepeat
namespace Go.Proofs.Ytecgimnmccmpjaa
namespace Sc
open Go.RowKit Bk

attribute [local go_sem ↓] Go.wp_at_zero Go.wp_at_succ
attribute [local go_sem] floatUpon pick

theorem add_field (a : Addr) (n k : Nat) (hk : 0 < k) : (⟨(a.add n).block, (a.add n).off + k, none⟩ : Addr) = a.add (n + k) := by
  unfold Addr.add
  by_cases h : n = 0
  · rw [if_pos h, if_neg (by omega), h, Nat.zero_add]
  · rw [if_neg h, if_neg (by omega)]
    simp only [Nat.add_assoc]

section
variable {Rep : World → (Nat → Prop) → Nat → Dev → Prop}

set_option maxRecDepth 20000 in
set_option maxHeartbeats 8000000 in
theorem plays_walk (HD : DevAll Rep) (HRp : RepAll) (n : Int) (hn : -9223372036854775808 ≤ n ∧ n ≤ 9223372036854775807) (v : Value) (L : List Ac) (w : World) (hv : ActsOf w v L) :
    Calls Try.prog 3 #[.int .i64 n, v] w fun e w' => e = .returned (.bool true) ∧ Below w.heap.size w w' := by
  obtain ⟨A, c, rfl, hat, hl16, hok⟩ := hv
  have HWk := Lib.hid (fun V => works_any HD HRp V)
  have HMk := Lib.hid (fun V => rmake_any n V)
  have rb : reachBytes = 140737488351232 := by unfold reachBytes; rfl
  have hlen : (L.length : Int) ≤ 9223372036854775807 := by omega
  have HAt := Lib.hid hat
  have HOk := Lib.hid hok
  clear hat hok hl16 rb
  go_enter Try.func3, Try.ntmps3
  go_wp2_with fail
  refine (HD.new n w hn).mono ?_
  rintro e w1 (⟨n1, n2, F, g, rfl, hr, hF, hb⟩ | ⟨hno, rfl, hb⟩)
  case inr =>
    have HB := Lib.hid hb
    clear hb
    go_wp2_with fail
    refine (HMk.out _).mono ?_
    rintro e w2 hmk
    rcases hmk with ⟨m1, m2, _⟩ | ⟨_, rfl, rfl⟩
    · exact absurd ⟨m1, m2⟩ hno
    clear hno
    go_wp2_with fail
    refine (HWk.out _).mono ?_
    rintro e w3 ⟨rfl, hb⟩
    have HB3 := Lib.hid (HB.out.trans (hb.mono HB.out.size))
    clear hb
    go_wp2_with fail
    go_loopw [9] (fun i wr => i = .int .i64 0 ∧ wr = w3) (fun i _ => 0)
    case atStart => exact ⟨rfl, rfl⟩
    case round =>
      obtain ⟨rfl, rfl⟩ := hrel
      go_wp2_with fail
      go_ret
      exact ⟨rfl, HB3.out⟩
  have HO := Lib.hid (show One Rep w w1 F g (new0 n.toNat) from ⟨hr, hF, hb⟩)
  clear hr hF hb
  go_wp2_with fail
  refine (HMk.out _).mono ?_
  rintro e w2 hmk
  rcases hmk with ⟨_, _, h, ao, an, co, cn, so, sn, rfl, hra, hfo, hb⟩ | ⟨hno, _⟩
  case inr => exact absurd ⟨n1, n2⟩ hno
  have hp : Pr Rep w w2 F g h ao an co cn so sn (new0 n.toNat) (new0 n.toNat) :=
    ⟨(HO.out.step HD hb).d, hra, fun k hk hf => by have := hfo k hk; have := HD.lt HO.out.d k hf; omega, HO.out.bF, fun k hk => Nat.le_trans HO.out.bel.size (hfo k hk), HO.out.bel.trans (hb.mono HO.out.bel.size)⟩
  have HP := Lib.hid hp
  clear hp hra hfo hb HO
  go_wp2_with fail
  refine (HWk.out _).mono ?_
  rintro e w3 ⟨rfl, hb⟩
  have HP3 := Lib.hid (HP.out.step HD hb)
  clear hb HP
  go_wp2_with fail
  go_loopw [9] (fun i wr => ∃ (j : Nat) (F : Nat → Prop) (D : Dev), j ≤ L.length ∧ j ≤ 100 ∧ i = .int .i64 (j : Int) ∧ Hid (Pr Rep w wr F g h ao an co cn so sn D D)) (fun i _ => L.length - (intOf i).toNat)
  case atStart => exact ⟨0, F, _, by omega, by omega, rfl, HP3.out⟩
  case round =>
    obtain ⟨j, F1, D, hj, hj2, rfl, hp⟩ := hrel
    clear HP3
    by_cases hlt : j < L.length
    case neg =>
      have pj : ¬ (j : Int) < (L.length : Int) := by omega
      go_wp2_with fail
      go_ret
      exact ⟨rfl, hp.out.bel⟩
    have pj : (j : Int) < (L.length : Int) := by omega
    by_cases hlt2 : j < 100
    case neg =>
      have pj2 : ¬ (j : Int) < 100 := by omega
      go_wp2_with fail
      go_ret
      exact ⟨rfl, hp.out.bel⟩
    have pj2 : (j : Int) < 100 := by omega
    obtain ⟨ad, rfl, hab, hc⟩ := HAt.out (by omega)
    obtain ⟨x0, x1, x2, x3, x4⟩ := hc j hlt
    rw [← cell_kept hp.out.bel _ (by rw [st_block]; exact hab)] at x0 x1 x2 x3 x4
    rw [← add_field _ _ _ (by omega)] at x1 x2 x3 x4
    have hao := HOk.out _ (List.getElem_mem hlt)
    generalize L[j] = X at x0 x1 x2 x3 x4 hao
    obtain ⟨kd, n', tx, rw', A', c', ps⟩ := X
    simp only at x0 x1 x2 x3 x4 hao
    have HSt := Lib.hid (fun V (q : Pr Rep w V F1 g h ao an co cn so sn D D) => step_any HD q A' c' kd n' tx rw' ps hao)
    clear hc hao hab
    go_upto_region 8 with fail
    go_region_with (first
      | (refine (HSt.out _ (hp.out.step HD (Below.refl _ _).drew)).mono ?_
         rintro e W4 ⟨rfl, F2, D2, hp2⟩
         have HP2 := Lib.hid hp2
         have q1 : ((D2.on.length : Int) != (D2.on.length : Int)) = false := by simp
         have q2 : ((dirtyN D2 : Int) != (dirtyN D2 : Int)) = false := by simp
         have z2 := hp2.r.cel.cell (i := 0) rfl
         have HOk2 := Lib.hid (HD.ok hp2.d)
         clear hp2)
      | (refine (HD.size _ HP2.out.d).mono ?_
         rintro e W5 ⟨rfl, F3, h1, h2⟩
         have HP3 := Lib.hid (HP2.out.actD h1 h2)
         have z3 := HP3.out.r.cel.cell (i := 0) rfl
         clear h1 h2)
      | (refine (HD.dirty _ HP3.out.d).mono ?_
         rintro e W6 ⟨rfl, F4, h1, h2⟩
         have HP4 := Lib.hid (HP3.out.actD h1 h2)
         clear h1 h2)
      | (refine (rdirty_any HP4.out.r HOk2.out).mono ?_
         rintro e W7 ⟨rfl, rfl⟩))
    all_goals
      go_wp2_with fail
      go_roundw
      case rel => exact ⟨j + 1, F4, D2, by omega, by omega, by go_num, HP4.out⟩
      case measure => simp [intOf]; omega

end

end Sc
end Go.Proofs.Ytecgimnmccmpjaa
