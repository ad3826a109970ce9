/- What the landed device does at Flush: the walk; no condition but the range. -/
import Derived.Test.YtecgimnmccmpjaaScLand4
namespace Go.Proofs.Ytecgimnmccmpjaa
namespace Sc
open Go.RowKit Bk

attribute [local go_sem ↓] Go.wp_at_zero Go.wp_at_succ
attribute [local go_sem] floatUpon pick

section
variable {w w' : World} {g a b : Nat} {D : Dev}

/-- an entry has come out, and lies in a variable of the call's own -/
structure FlMid (w W : World) (g a b r vb : Nat) (D D1 : Dev) (DM : DataW Unit) (left left' : Lit → Bool) (cnt : Nat) (c : ByteArray) : Prop where
  rg : W.ranges Try.prog 3 rdSec b r D.new.length DM left' cnt
  d : LAt W g a b ⟨flL D left, D.new, D1.left, D1.down⟩
  f : Fr (LFoot g a b) (LFoot g a b) w W
  c : Cel W vb 64 (secC c)

theorem FlMid.step {W W' : World} {r vb : Nat} {D1 : Dev} {DM : DataW Unit} {left left' : Lit → Bool} {cnt : Nat} {c : ByteArray} (h : FlMid w W g a b r vb D D1 DM left left' cnt c) (hb : Below W.heap.size W W') : FlMid w W' g a b r vb D D1 DM left left' cnt c :=
  ⟨h.rg.kept (below_grown hb) (by simp) (by simp), h.d.step hb, h.f.below hb, h.c.below hb⟩

set_option maxRecDepth 20000 in
set_option maxHeartbeats 4000000 in
theorem lflush_any (h : LAt w g a b D) (hok : DevOk D) :
    Calls Try.prog 16 #[.pointer (some ⟨g, 0, none⟩)] w fun e w' => e = .returned (.int .i64 (flD D).2) ∧ LAt w' g a b (flD D).1 ∧ Fr (LFoot g a b) (LFoot g a b) w w' := by
  have HBn := Lib.hid (lburn_any h hok)
  have k3 := h.cel.cell (i := 3) rfl
  have H := Lib.hid h
  by_cases hd : D.down = true
  · have E := Lib.hid (show flD D = (D, 90) from by unfold flD; rw [if_pos hd])
    rw [hd] at k3
    clear h hd hok
    go_enter Try.func16, Try.ntmps16
    go_wp2_with fail
    go_ret
    exact ⟨by rw [E.out]; rfl, by rw [E.out]; exact H.out, Fr.refl _ _⟩
  have hd' : D.down = false := by simpa using hd
  rw [hd'] at k3
  have ew : flD D = if (burn D).2 = true then ((burn D).1, 90) else (⟨upd D.on D.on.length (flushF D), upd D.new D.on.length (fun _ => nil0), (burn D).1.left, (burn D).1.down⟩, 0) := by
    unfold flD; rw [if_neg hd]
  obtain ⟨b1, b2, b3⟩ := burn_parts D
  have hlen := hok.len
  generalize burn D = Q at HBn ew b1 b2
  obtain ⟨D1, bb⟩ := Q
  simp only at HBn ew b1 b2
  cases bb with
  | true =>
    have E := Lib.hid (show flD D = (D1, 90) from by rw [ew, if_pos rfl])
    clear h hok ew hd hd'
    go_enter Try.func16, Try.ntmps16
    go_wp2_with fail
    refine HBn.out.mono ?_
    rintro e w2 ⟨rfl, hb⟩
    have HB := Lib.hid hb
    clear hb
    go_wp2_with fail
    go_ret
    exact ⟨by rw [E.out]; rfl, by rw [E.out]; exact HB.out.1, HB.out.2⟩
  | false =>
    have E := Lib.hid (show flD D = (⟨upd D.on D.on.length (flushF D), List.replicate D.on.length nil0, D1.left, D1.down⟩, 0) from by
      rw [ew, if_neg (by simp), ← hlen, upd_all])
    have HOk := Lib.hid hok
    have HBs := Lib.hid (And.intro b1 b2)
    have hzs := zero_sec
    obtain ⟨Z, hZ⟩ : ∃ Z, Z = secC zero64 := ⟨_, rfl⟩
    have hZl : Z.length = 64 := by rw [hZ, secC_len]; rfl
    unfold secV at hzs
    rw [← hZ] at hzs
    clear h hok ew hd hd' b1 b2 b3 hlen hZ
    go_enter Try.func16, Try.ntmps16
    go_wp2_with fail
    refine HBn.out.mono ?_
    rintro e w2 ⟨rfl, hb⟩
    have k1 := hb.1.cel.cell (i := 1) rfl
    have HB := Lib.hid hb
    obtain ⟨DM, hown, hsays⟩ := hb.1.mp
    rw [HBs.out.2] at hown hsays
    have HSs := Lib.hid (And.intro hown hsays)
    have hra : w2.heap.size ≠ a := fun e => by have := hb.1.ro.lt; omega
    have hrg' : w2.heap.size ≠ g := fun e => by have := hb.1.cel.lt; omega
    have hra2 := Lib.hid (And.intro hra (And.intro hrg' hb.2.size))
    clear hb k3 hra hrg'
    go_wp2_with (at_range; refine wpList_range_own _ rfl _ 55 rfl 3 64 Try.keyedInt Try.underlying55 rdSec b D.new.length DM rfl hown ?_; intro w3 hrg0 hg0 hs0)
    go_frame
    have HE0 : Hid (FlEnv w w3 g a b w2.heap.size D D1 DM (Maps.has DM) (Maps.size DM)) := Lib.hid (by
      refine ⟨hrg0, ?_, ?_, hra2.out.1, hra2.out.2.1, hra2.out.2.2⟩
      · rw [flL_start HOk.out hsays.has]
        have := HB.out.1.kept (w' := w3) (fun k hk => hg0.block k (HB.out.1.lt k hk) (by simp))
        rw [← HBs.out.1, ← HBs.out.2]
        exact this
      · exact ⟨hg0.os.trans HB.out.2.os, hg0.tape.trans HB.out.2.tape, hg0.output.trans HB.out.2.output, Nat.le_trans HB.out.2.size hg0.size, fun i hi hn => (hg0.block i (Nat.lt_of_lt_of_le hi HB.out.2.size) (by simp)).trans (HB.out.2.block i hi hn), HB.out.2.foot⟩)
    clear hrg0 hg0 hs0 hown hsays k1 HBn HB
    generalize w2.heap.size = r at HE0 hra2 ⊢
    go_loopw [3, 4] (fun _ _ wr => ∃ (left : Lit → Bool) (cnt : Nat), Hid (FlEnv w wr g a b r D D1 DM left cnt)) (fun _ _ wr => wr.rangeLeft b r)
    case atStart => exact ⟨_, _, HE0.out⟩
    case round =>
      obtain ⟨left, cnt, hr⟩ := hrel
      have hrg := hr.out.rg
      go_wp2_with (at_next; refine wpList_next_ranges _ rfl _ rfl 3 Try.keyedInt rdSec (Value.int .i64) secV (fun key kl hk => by obtain ⟨x, hx, _⟩ := Maps.keyOf_i64 Try.underlying3 hk; exact ⟨x, hx⟩) (fun v y hv => by obtain ⟨s, _, hs, _⟩ := rdSec_inv hv; exact ⟨s, hs⟩) b r D.new.length _ _ _ rfl hrg ?_ ?_)
      · intro hc0 hl0
        have k1 := hr.out.d.cel.cell (i := 1) rfl
        obtain ⟨W5, hcl, hm5, hg5, hz5⟩ := hr.out.d.mp.clear 0 D.on.length
        have HA := Lib.hid (And.intro (hr.out.d.setMap hm5 hg5) (hr.out.f.grown (.inl lfoot_b) hg5))
        have HL := Lib.hid (flL_end (D := D) hl0)
        clear hr hrg hm5 hg5 hz5 hc0 hl0 HE0
        go_wp2_with fail
        go_ret
        refine ⟨by rw [E.out]; rfl, ?_, HA.out.2⟩
        rw [E.out]
        have := HA.out.1
        rw [HL.out] at this
        exact this
      · intro x c kl yd yp w4 cnt4 hkey hlk hv hat hrg4 hlt hg4 hs4 hen
        obtain ⟨i, rfl, rfl, hi, hw, hc, hc64⟩ := entry_is HSs.out.1 HSs.out.2 hkey hv hat
        have hn : i < D.on.length := by rw [← HOk.out.len]; exact hi
        have hrb := hrg.ne
        have HM : Hid (FlMid w (w4.alloc (.cells (secC c).toArray 64)) g a b r w4.heap.size D D1 DM left (fun z => left z && !z.sameKey (.int .i64 (i : Int))) cnt4 c) := Lib.hid (by
          have hb4 := (Below.refl w4.heap.size w4).alloc (Nat.le_refl _) (.cells (secC c).toArray 64)
          refine ⟨hrg4.alloc _, ?_, ?_, heap_alloc_new w4 _⟩
          · refine LAt.step (hr.out.d.kept fun k hk => hg4.block k (hr.out.d.lt k hk) (fun e => ?_)) hb4
            simp only [Option.some.injEq] at e
            subst e
            rcases hk with e | e | e
            · exact hr.out.rg' e
            · exact hr.out.ra e
            · exact hrb e
          · exact (hr.out.f.grown (.inr hr.out.wr) hg4).below hb4)
        have Hlt := Lib.hid hlt
        have Hlc := Lib.hid hrg.left_eq
        have Hr := Lib.hid (And.intro hr.out.ra (And.intro hr.out.rg' (And.intro hr.out.wr hrb)))
        have HI := Lib.hid (And.intro hi (And.intro hw (And.intro hc (And.intro hc64 hn))))
        have pn : (i : Int) < (D.on.length : Int) := by omega
        have hs1 := put_cells w4 Z hZl hc64
        have hcl : (secC c).length = 64 := by rw [secC_len, hc64]
        unfold secV at hen ⊢
        clear hkey hlk hv hat hrg4 hlt hg4 hs4 hrg hr hrb hi hw hc hc64 hn HE0
        obtain ⟨C1, hC⟩ : ∃ C1, secC c = C1 := ⟨_, rfl⟩
        have HC := Lib.hid hC
        rw [hC] at hs1 hen hcl HM ⊢
        clear hC
        go_upto_region 6 with fail
        generalize w4.alloc (.cells C1.toArray 64) = W5 at HM ⊢
        generalize w4.heap.size = vb at HM ⊢
        clear hs1 hen hcl
        refine wp_region_said 7 [23, 24, 25, 26, 27, 28, 29]
          [.is (.pointer (some ⟨g, 0, none⟩)), .is (.pointer (some ⟨g, 0, none⟩)), .is (.pointer (some ⟨g, 0, none⟩)), .is (.slice (some ⟨a, 0, none⟩) D.on.length D.on.length), .is (.int .i64 (i : Int)), .is (secV c), .is (.pointer (some ⟨a, i * 64, none⟩))]
          (fun W => FlMid w W g a b r vb D D1 DM left (fun z => left z && !z.sameKey (.int .i64 (i : Int))) cnt4 c) (by kernel_rfl) (by kernel_rfl) (by kernel_rfl) (by kernel_rfl) (by kernel_rfl) (fun W W' h hb => h.step hb) HM.out ?steps ?last
        case steps =>
          simp only [List.take_succ_cons, List.take_zero]
          refine ⟨?_, ?_, ?_, ?_, ?_, ?_, ?_, trivial⟩
          all_goals
            intro vs W ρ hρ hc hf hg hI hH hd R' hR
            have z0 := hI.d.cel.cell (i := 0) rfl
            simp only [flL_len] at z0
            have hld := sec_own hI.c HI.out.2.2.2.1
            have HR := Lib.hid hR
            simp [depsOf, Region.binds, sayAt, Say.holds] at hd
            clear hR hI
          case refine_6 =>
            have e0 : ρ (.tmp 4) = .pointer (some ⟨vb, 0, none⟩) := by rw [hρ]; simp [pick]; rfl
            rw [if_pos (by simp [Region.wanted])]
            unfold execOp
            simp only [Sem.run_bind, Sem.run_pure, Result.andThen_ok, e0, hld, floatUpon]
            exact HR.out _ _ (by simp [sayAt, Say.holds]) (Below.refl _ _) (by simp [sayAt, Say.isBlk])
          all_goals
            clear hld
            go_simp
            first
              | exact HR.out _ _ (by simp [sayAt, Say.holds]) (Below.refl _ _) (by simp [sayAt, Say.isBlk])
              | trace_state
        case last =>
          intro vs W hI hb hg hd
          have e5 := hg 5 (by omega)
          have e6 := hg 6 (by omega)
          simp only [sayAt, Say.holds, List.getD_cons_succ, List.getD_cons_zero] at e5 e6
          simp only [List.take_succ_cons, List.take_zero, List.drop_succ_cons, List.drop_zero, putAll, Act.put, List.setIfInBounds_toArray, List.set_cons_succ, List.set_cons_zero, Nat.zero_add, Nat.reduceAdd]
          rw [e5, e6]
          refine wpList_secStore W rfl (.tmp 29) (.tmp 28) rfl a (flL D left) hI.d.ro (flL_64 HOk.out left) i (by rw [flL_len]; exact HI.out.2.2.2.2) c HI.out.2.2.2.1 rfl rfl ?_
          have HA := Lib.hid (FlEnv.put HI.out.2.2.2.2 HI.out.2.1 hI.d hI.f Hr.out.1 Hr.out.2.1 Hr.out.2.2.1 hI.rg HI.out.2.2.1)
          generalize W.setRow a (onC ((flL D left).set i c)).toArray = W6 at HA ⊢
          clear e5 e6 hg hd hb hI HM HC
          simp only [Act.put]
          go_wp2_with fail
          go_roundw
          case rel => exact ⟨_, cnt4, HA.out⟩
          case measure => rw [HA.out.rg.left_eq, Hlc.out]; exact Hlt.out

end

end Sc
end Go.Proofs.Ytecgimnmccmpjaa
