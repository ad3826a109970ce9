/- What the document's device does when it is wiped, and when it is made; contracts; no condition but the range. -/
import Derived.Test.YtecgimnmccmpjaaScRef2
import Derived.Test.YtecgimnmccmpjaaBkAppend
import Derived.Maps.AppendAt
namespace Go.Proofs.Ytecgimnmccmpjaa
namespace Sc
open Go.RowKit Bk

attribute [local go_sem ↓] Go.wp_at_zero Go.wp_at_succ
attribute [local go_sem] floatUpon pick

section
variable {w : World} {g : Nat} {ao an : Addr} {co cn : Nat} {so sn : List Value} {D : Dev}

set_option maxRecDepth 20000 in
set_option maxHeartbeats 4000000 in
theorem rwipe_any (h : RAt w g ao an co cn so sn D) (hok : DevOk D) :
    Calls Try.prog 30 #[.pointer (some ⟨g, 0, none⟩)] w fun e w' => e = .returned (.tuple #[]) ∧ RAt w' g ao an co cn so sn (wiD D) ∧ Fr (RFoot g ao an) (RFoot g ao an) w w' := by
  have H := Lib.hid (show RAt w g ao an co cn so sn (part D 0 (fun _ => zero64) D.left D.down) from by rw [part_zero]; exact h)
  have hlen := hok.len
  have hmx := hok.max
  have HNo := Lib.hid (fun W => none_any W)
  clear h hok
  go_enter Try.func30, Try.ntmps30
  go_wp2_with fail
  go_loopw [2] (fun i wr => ∃ j : Nat, j ≤ D.on.length ∧ i = .int .i64 (j : Int) ∧ Hid (RAt wr g ao an co cn so sn (part D j (fun _ => zero64) D.left D.down) ∧ Fr (RFoot g ao an) (RFoot g ao an) w wr)) (fun i _ => D.on.length - (intOf i).toNat)
  case atStart => exact ⟨0, by omega, rfl, H.out, Fr.refl _ _⟩
  case round =>
    obtain ⟨j, hj, rfl, hr⟩ := hrel
    clear H
    have lo : (part D j (fun _ => zero64) D.left D.down).on.length = D.on.length := upd_len _ _ _
    have ln : (part D j (fun _ => zero64) D.left D.down).new.length = D.on.length := (upd_len _ _ _).trans hlen
    have k0 := hr.out.1.cel.cell (i := 0) rfl
    rw [lo] at k0
    by_cases hlt : j < D.on.length
    · have pj : (j : Int) < (D.on.length : Int) := by omega
      have hlt2 : j < D.new.length := by omega
      have HN := Lib.hid (fun W (hW : RAt W g ao an co cn so sn (part D j (fun _ => zero64) D.left D.down)) => show RAt (W.setCell (ao.add j) (.string zero64)) g ao an co cn so sn ⟨upd D.on (j + 1) (fun _ => zero64), upd D.new j (fun _ => nil0), D.left, D.down⟩ from by
        have := hW.setO (i := j) (by rw [lo]; exact hlt) zero64
        have e : (part D j (fun _ => zero64) D.left D.down).on.set j zero64 = upd D.on (j + 1) (fun _ => zero64) := upd_set hlt rfl
        rw [e] at this
        exact this)
      have Hlo := Lib.hid lo
      clear lo ln
      go_upto_region 3 with fail
      refine wp_region_said 7 [12, 13, 14, 15, 16, 17, 18]
        [.is (.pointer (some ⟨g, 0, none⟩)), .is (.pointer (some ⟨g, 0, none⟩)), .is (.pointer (some ⟨g, 0, none⟩)), .is (.slice (some ao) D.on.length co), .is (.int .i64 (j : Int)), .is (.string zero64), .is (.pointer (some (ao.add j)))]
        (fun W => RAt W g ao an co cn so sn (part D j (fun _ => zero64) D.left D.down) ∧ Fr (RFoot g ao an) (RFoot g ao an) w W) (by kernel_rfl) (by kernel_rfl) (by kernel_rfl) (by kernel_rfl) (by kernel_rfl) (fun W W' h hb => ⟨h.1.step hb, h.2.below hb⟩) hr.out ?steps3 ?last3
      case steps3 =>
        simp only [List.take_succ_cons, List.take_zero]
        refine ⟨?_, ?_, ?_, ?_, ?_, ?_, ?_, trivial⟩
        all_goals
          intro vs W ρ hρ hc hf hg hI hH hd R' hR
          have z0 := hI.1.cel.cell (i := 0) rfl
          rw [Hlo.out] at z0
          have HR := Lib.hid hR
          simp [depsOf, Region.binds, sayAt, Say.holds] at hd
          clear hR hI k0
          go_simp
          first
            | exact HR.out _ _ (by simp [sayAt, Say.holds]) (Below.refl _ _) (by simp [sayAt, Say.isBlk])
            | (refine (HNo.out _).mono ?_; rintro e w' ⟨rfl, hb⟩; exact ⟨_, rfl, HR.out _ _ (by simp [sayAt, Say.holds]) hb (by simp [sayAt, Say.isBlk])⟩)
            | trace_state
      case last3 =>
        intro vs W hI hb hg hd
        have e5 := hg 5 (by omega)
        have e6 := hg 6 (by omega)
        simp only [sayAt, Say.holds, List.getD_cons_succ, List.getD_cons_zero] at e5 e6
        simp only [List.take_succ_cons, List.take_zero, List.drop_succ_cons, List.drop_zero, putAll, Act.put, List.setIfInBounds_toArray, List.set_cons_succ, List.set_cons_zero, Nat.zero_add, Nat.reduceAdd]
        rw [e5, e6]
        obtain ⟨y0, xo⟩ : ∃ y, W.cell? (ao.add j) = some (.string y) := ⟨_, hI.1.readO (i := j) (by rw [Hlo.out]; exact hlt)⟩
        have xf := hI.1.freeO j
        have HA := Lib.hid (And.intro (HN.out W hI.1) (hI.2.set (foot_o j) (.string zero64)))
        clear e5 e6 hg hd hb hI k0 HN hr
        go_upto_region 4 with fail
        generalize W.setCell (ao.add j) (.string zero64) = W2 at HA ⊢
        clear xo xf
        have ln2 : j < (⟨upd D.on (j + 1) (fun _ => zero64), upd D.new j (fun _ => nil0), D.left, D.down⟩ : Dev).new.length := by show j < (upd _ _ _).length; rw [upd_len]; omega
        have k1 := HA.out.1.cel.cell (i := 1) rfl
        have e2 : (⟨upd D.on (j + 1) (fun _ => zero64), upd D.new j (fun _ => nil0), D.left, D.down⟩ : Dev).new.length = D.on.length := (upd_len _ _ _).trans hlen
        rw [e2] at k1
        obtain ⟨y, xo⟩ : ∃ y, W2.cell? (an.add j) = some (.string y) := ⟨_, HA.out.1.readN ln2⟩
        have xf := HA.out.1.freeN j
        have HA2 := Lib.hid (show RAt (W2.setCell (an.add j) (.string nil0)) g ao an co cn so sn (part D (j + 1) (fun _ => zero64) D.left D.down) ∧ Fr (RFoot g ao an) (RFoot g ao an) w (W2.setCell (an.add j) (.string nil0)) from by
          refine ⟨?_, HA.out.2.set (foot_n j) _⟩
          have := HA.out.1.setN ln2 nil0
          have e : (upd D.new j (fun _ => nil0)).set j nil0 = upd D.new (j + 1) (fun _ => nil0) := upd_set hlt2 rfl
          simp only at this
          rw [e] at this
          exact this)
        unfold nil0 at HA2
        clear HA e2 ln2
        go_upto_region 2 with fail
        generalize W2.setCell (an.add j) (.string ⟨#[]⟩) = W3 at HA2 ⊢
        clear xo xf k1
        go_wp2_with fail
        go_roundw
        case rel => exact ⟨j + 1, by omega, by go_num, HA2.out⟩
        case measure => simp [intOf]; omega
    · obtain rfl : j = D.on.length := by omega
      have HN := Lib.hid (hr.out.1.setLeft 0)
      have HF := Lib.hid (hr.out.2.set (p := ⟨g, 2, none⟩) foot_g (.int .i64 0))
      have kq := fun i => hr.out.1.cel.free (i := i)
      have k2 := hr.out.1.cel.cell (i := 2) rfl
      clear hr lo ln
      go_upto_region 6 with fail
      have e0 : (Value.int .i64 ((0 : Nat) : Int)) = .int .i64 0 := rfl
      rw [e0] at HN
      generalize wr.setCell ⟨g, 2, none⟩ (.int .i64 0) = W2 at HN HF ⊢
      clear kq k2 k0 e0
      have HN2 := Lib.hid (HN.out.setDown false)
      have HF2 := Lib.hid (HF.out.set (p := ⟨g, 3, none⟩) foot_g (.bool false))
      have kq := fun i => HN.out.cel.free (i := i)
      have k3 := HN.out.cel.cell (i := 3) rfl
      clear HN HF
      go_wp2_with fail
      refine bodyPost_end (results_none rfl _ _ _) rfl ?_
      exact ⟨rfl, HN2.out, HF2.out⟩

end

end Sc
end Go.Proofs.Ytecgimnmccmpjaa
