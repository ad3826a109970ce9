/- A call, of both devices: they answer alike; contract; no condition but the range. -/
import Derived.Test.YtecgimnmccmpjaaScRef4
import Derived.Test.YtecgimnmccmpjaaScLaw
import Derived.Deep.RegionWith
namespace Go.Proofs.Ytecgimnmccmpjaa
namespace Sc
open Go.RowKit Bk

attribute [local go_sem ↓] Go.wp_at_zero Go.wp_at_succ
attribute [local go_sem] floatUpon pick

section
variable {Rep : World → (Nat → Prop) → Nat → Dev → Prop} {w0 W : World} {F : Nat → Prop} {g h : Nat} {ao an : Addr} {co cn : Nat} {so sn : List Value} {D : Dev}

/-- a call that is asked for -/
structure ActOk (w0 : World) (A : Option Addr) (c : Nat) (n : Int) (text : ByteArray) (ps : List Int) : Prop where
  n63 : -9223372036854775808 ≤ n ∧ n ≤ 9223372036854775807
  text : text.size ≤ reachBytes
  at_ : IntsAt w0 A ps
  p8 : ps.length * 8 ≤ reachBytes
  pr : ∀ p ∈ ps, -9223372036854775808 ≤ p ∧ p ≤ 9223372036854775807
  pc : ps.length ≤ c
  c63 : c ≤ maxLen
  none_ : A = none → ps = [] ∧ c = 0

set_option maxRecDepth 20000 in
set_option maxHeartbeats 8000000 in
theorem step_0 (HD : DevAll Rep) (p : Pr Rep w0 W F g h ao an co cn so sn D D) (A : Option Addr) (c : Nat) (kind n : Int) (text : ByteArray) (raw : Bool) (ps : List Int) (ha : ActOk w0 A c n text ps) (hk : amongV kind 6 = 0) :
    Calls Try.prog 10 #[.pointer (some ⟨g, 0, none⟩), .pointer (some ⟨h, 0, none⟩), .agg #[.int .i64 kind, .int .i64 n, .string text, .bool raw, .slice A ps.length c]] W fun e W' => e = .returned (.bool true) ∧ ∃ F' D', Pr Rep w0 W' F' g h ao an co cn so sn D' D' := by
  have HAm := Lib.hid (fun V => among_any kind 6 V (by omega) (by omega))
  rw [hk] at HAm
  have HFit := Lib.hid (fun V => fit_any text V)
  have hal := p.step HD ((Below.refl _ W).alloc (Nat.le_refl _) (.cells #[.int .i64 kind, .int .i64 n, .string text, .bool raw, .slice A ps.length c] 34))
  have hbx : Cel (W.alloc (.cells #[.int .i64 kind, .int .i64 n, .string text, .bool raw, .slice A ps.length c] 34)) W.heap.size 34 [.int .i64 kind, .int .i64 n, .string text, .bool raw, .slice A ps.length c] := (blk1 W _).2
  have hbf : ¬ F W.heap.size := fun hf => by have := HD.lt p.d _ hf; omega
  have hbr : ¬ RFoot h ao an W.heap.size := fun hf => by have := p.r.lt _ hf; omega
  have HN := Lib.hid ha.n63
  have HTx := Lib.hid ha.text
  have hlt : W.heap.size < (W.alloc (.cells #[.int .i64 kind, .int .i64 n, .string text, .bool raw, .slice A ps.length c] 34)).heap.size := by simp
  clear p hk ha
  go_enter Try.func10, Try.ntmps10
  go_upto_region 1 with fail
  generalize W.alloc (.cells #[.int .i64 kind, .int .i64 n, .string text, .bool raw, .slice A ps.length c] 34) = W1 at hal hbx hlt ⊢
  generalize W.heap.size = b at hbx hbf hbr hlt ⊢
  have HP := Lib.hid hal
  have HB := Lib.hid hbx
  have k0 := hbx.cell (i := 0) rfl
  have k1 := hbx.cell (i := 1) rfl
  have k2 := hbx.cell (i := 2) rfl
  have k3 := hbx.cell (i := 3) rfl
  clear hal hbx
  go_wp2_with fail
  refine (HAm.out _).mono ?_
  rintro e W2 ⟨rfl, rfl⟩
  cases raw with
  | true =>
    obtain ⟨s, hs⟩ : ∃ s, s = text := ⟨_, rfl⟩
    rw [← hs] at HTx k2
    have HW := Lib.hid (fun V (q : Pr Rep w0 V F g h ao an co cn so sn D D) => HD.write n s V q.d HN.out HTx.out)
    have HOk := Lib.hid (HD.ok HP.out.d)
    clear hs
    have q := beq_self_eq_true (wrD D n s).2
    go_upto_region 6 with fail
    go_region_with (first
      | (refine (HW.out _ (HP.out.step HD (Below.refl _ _).drew)).mono ?_
         rintro e W4 ⟨rfl, F1, hd1, hf1⟩
         have hx1 := (One.cell hf1 (a := ⟨b, 1, none⟩) hlt hbf).trans k1
         have hp1 := (HP.out.step HD (Below.refl _ _).drew).actD hd1 hf1
         have HV := Lib.hid (rwrite_any hp1.r HOk.out n s)
         have HP1 := Lib.hid hp1
         clear hd1 hf1 hp1)
      | (refine (HV.out).mono ?_
         rintro e W5 ⟨rfl, hr2, hf2⟩
         have HP2 := Lib.hid (HP1.out.actR HD hr2 hf2)
         clear hr2 hf2))
    all_goals
      go_wp2_with fail
      go_ret
      exact ⟨rfl, _, _, HP2.out⟩
  | false =>
    go_wp2_with fail
    refine (HFit.out _).mono ?_
    rintro e W3 ⟨rfl, hb⟩
    have HP' := Lib.hid (HP.out.step HD hb)
    have k1' := (cell_kept hb ⟨b, 1, none⟩ hlt).trans k1
    have hlt' : b < W3.heap.size := Nat.lt_of_lt_of_le hlt hb.size
    obtain ⟨s, hs⟩ : ∃ s, s = fitB text := ⟨_, rfl⟩
    have hs64 : s.size ≤ reachBytes := by rw [hs, fitB_size]; unfold reachBytes; omega
    rw [← hs]
    have HW := Lib.hid (fun V (q : Pr Rep w0 V F g h ao an co cn so sn D D) => HD.write n s V q.d HN.out hs64)
    have HOk := Lib.hid (HD.ok HP'.out.d)
    clear hb HP HB k0 k1 k2 k3 hlt hs hs64
    have HP := HP'
    have k1 := k1'
    have hlt := hlt'
    clear HP' k1' hlt'
    have q := beq_self_eq_true (wrD D n s).2
    go_upto_region 6 with fail
    go_region_with (first
      | (refine (HW.out _ (HP.out.step HD (Below.refl _ _).drew)).mono ?_
         rintro e W4 ⟨rfl, F1, hd1, hf1⟩
         have hx1 := (One.cell hf1 (a := ⟨b, 1, none⟩) hlt hbf).trans k1
         have hp1 := (HP.out.step HD (Below.refl _ _).drew).actD hd1 hf1
         have HV := Lib.hid (rwrite_any hp1.r HOk.out n s)
         have HP1 := Lib.hid hp1
         clear hd1 hf1 hp1)
      | (refine (HV.out).mono ?_
         rintro e W5 ⟨rfl, hr2, hf2⟩
         have HP2 := Lib.hid (HP1.out.actR HD hr2 hf2)
         clear hr2 hf2))
    all_goals
      go_wp2_with fail
      go_ret
      exact ⟨rfl, _, _, HP2.out⟩

end

end Sc
end Go.Proofs.Ytecgimnmccmpjaa
