/- What the document's device does at a crash; contract; no condition but the range. -/
import Derived.Test.YtecgimnmccmpjaaScRef2
import Derived.Test.YtecgimnmccmpjaaBkInts
import Derived.Test.YtecgimnmccmpjaaBkStr
namespace Go.Proofs.Ytecgimnmccmpjaa
namespace Sc
open Go.RowKit Bk

attribute [local go_sem ↓] Go.wp_at_zero Go.wp_at_succ
attribute [local go_sem] floatUpon pick

theorem cut_mod (p : Int) : ((p % 64).toNat : Int) = p % 64 ∧ (p % 64).toNat ≤ 64 := by omega

/-- what is left behind a crash, as two parts -/
theorem torn_two (o n : ByteArray) (p : Int) {m : Nat} (hm : cutN p = m) : (⟨(n.data.toList.take m).toArray⟩ : ByteArray) ++ ⟨(o.data.toList.drop m).toArray⟩ = torn o n p := by
  unfold torn
  rw [hm]
  apply ByteArray.ext
  apply Array.toList_inj.1
  simp

section
variable {w : World} {g : Nat} {ao an : Addr} {co cn : Nat} {so sn : List Value} {D : Dev}

set_option maxRecDepth 20000 in
set_option maxHeartbeats 8000000 in
theorem rcrash_any (h : RAt w g ao an co cn so sn D) (hok : DevOk D) (A : Option Addr) (c : Nat) (ps : List Int) (hp : IntsAt w A ps) (hpd : 0 < ps.length → ∀ a, A = some a → ¬ RFoot g ao an a.block) (hpl : ps.length ≤ 140737488351232) :
    Calls Try.prog 28 #[.pointer (some ⟨g, 0, none⟩), .slice A ps.length c] w fun e w' => e = .returned (.tuple #[]) ∧ RAt w' g ao an co cn so sn (crD D ps) ∧ Fr (RFoot g ao an) (RFoot g ao an) w w' := by
  have H := Lib.hid (show RAt w g ao an co cn so sn (part D 0 (tearF D ps) D.left D.down) from by rw [part_zero]; exact h)
  have hlen := hok.len
  have hmx := hok.max
  have hlt0 := h.lt
  have HPs := Lib.hid (fun wr (hf : Fr (RFoot g ao an) (RFoot g ao an) w wr) (k : Nat) (hk : k < ps.length) => show ∃ ad, A = some ad ∧ wr.cell? (ad.add k) = some (.int .i64 ps[k]) from by
    obtain ⟨ad, e, hb, hc⟩ := hp (by omega)
    refine ⟨ad, e, ?_⟩
    have hkp : wr.heap[(ad.add k).block]? = w.heap[(ad.add k).block]? := by rw [st_block]; exact hf.block _ hb (hpd (by omega) ad e)
    rw [show wr.cell? (ad.add k) = w.cell? (ad.add k) from by unfold World.cell?; rw [hkp]]
    exact hc k hk)
  have HOk := Lib.hid hok
  clear h hok hp hpd
  go_enter Try.func28, Try.ntmps28
  go_wp2_with fail
  go_loopw [4, 5] (fun k i wr => ∃ j : Nat, j ≤ D.on.length ∧ k = .int .i64 (cnt D.new j : Int) ∧ i = .int .i64 (j : Int) ∧ Hid (RAt wr g ao an co cn so sn (part D j (tearF D ps) D.left D.down) ∧ Fr (RFoot g ao an) (RFoot g ao an) w wr)) (fun _ i _ => D.on.length - (intOf i).toNat)
  case atStart => exact ⟨0, by omega, rfl, rfl, H.out, Fr.refl _ _⟩
  case round =>
    obtain ⟨j, hj, rfl, rfl, hr⟩ := hrel
    clear H
    have lo : (part D j (tearF D ps) D.left D.down).on.length = D.on.length := upd_len _ _ _
    have ln : (part D j (tearF D ps) D.left D.down).new.length = D.on.length := (upd_len _ _ _).trans hlen
    have k0 := hr.out.1.cel.cell (i := 0) rfl
    have k1 := hr.out.1.cel.cell (i := 1) rfl
    rw [lo] at k0
    rw [ln] at k1
    by_cases hlt : j < D.on.length
    · have pj : (j : Int) < (D.on.length : Int) := by omega
      have hlt2 : j < D.new.length := by omega
      have x1 := hr.out.1.readN (i := j) (by rw [ln]; exact hlt)
      have e1 : (part D j (tearF D ps) D.left D.down).new[j]'(by rw [ln]; exact hlt) = D.new[j] := upd_here hlt2 _
      have eo : (part D j (tearF D ps) D.left D.down).on[j]'(by rw [lo]; exact hlt) = D.on[j] := upd_here hlt _
      rw [e1] at x1
      have hf : tearF D ps j = if D.new[j] = nil0 then D.on[j] else torn D.on[j] D.new[j] (ps.getD (cnt D.new j) 0) := by unfold tearF; rw [getD_at hlt, getD_at hlt2]
      have hc := cnt_succ hlt2
      have hcl := cnt_le D.new j
      have ho64 := HOk.out.on64 _ (List.getElem_mem hlt)
      have hn64 := HOk.out.new64 _ (List.getElem_mem hlt2)
      obtain ⟨n, hn'⟩ : ∃ n, n = D.new[j] := ⟨_, rfl⟩
      obtain ⟨o, ho'⟩ : ∃ o, o = D.on[j] := ⟨_, rfl⟩
      rw [← hn'] at x1 hf hc hn64
      rw [← ho'] at hf ho64
      generalize cnt D.new j = q at hf hc hcl ⊢
      have pq : (q : Int) ≤ 2048 := by omega
      have wq : IntKind.i64.wrap ((q : Int) + 1) = (q : Int) + 1 := i64_wrap (by omega) (by omega)
      by_cases hn : n = nil0
      · rw [if_pos hn] at hf hc
        have HN := Lib.hid (show RAt wr g ao an co cn so sn (part D (j + 1) (tearF D ps) D.left D.down) ∧ Fr (RFoot g ao an) (RFoot g ao an) w wr from by
          have : part D (j + 1) (tearF D ps) D.left D.down = part D j (tearF D ps) D.left D.down := by
            unfold part
            rw [upd_same hlt (by rw [hf, ho']), upd_same hlt2 (by rw [← hn', hn])]
          rw [this]; exact hr.out)
        subst hn
        have HC := Lib.hid hc
        have t0 := text_eq nil0
        unfold nil0 at t0 x1
        clear hr hf hn' ho' e1 eo lo ln hc ho64 hn64 wq
        go_wp2_with fail
        go_roundw
        case rel => exact ⟨j + 1, by omega, by rw [HC.out]; rfl, by go_num, HN.out⟩
        case measure => simp [intOf]; omega
      · rw [if_neg hn] at hf hc
        obtain ⟨t1, t2, t0⟩ := text_no hn
        have hn64' : n.size = 64 := hn64.resolve_left hn
        obtain ⟨p, hpv⟩ : ∃ p, p = ps.getD q 0 := ⟨_, rfl⟩
        rw [← hpv] at hf
        obtain ⟨m, hm⟩ : ∃ m, cutN p = m := ⟨_, rfl⟩
        have hm64 : m ≤ 64 := by rw [← hm]; exact cut_le p
        have htw := torn_two o n p hm
        obtain ⟨X, hX⟩ : ∃ X, X = (⟨(n.data.toList.take m).toArray⟩ : ByteArray) := ⟨_, rfl⟩
        obtain ⟨Y, hY⟩ : ∃ Y, Y = (⟨(o.data.toList.drop m).toArray⟩ : ByteArray) := ⟨_, rfl⟩
        rw [← hX, ← hY] at htw
        have hxy : ¬ 9223372036854775807 < X.size + Y.size := by
          have h1 : X.size ≤ 64 := by rw [hX, text_size, List.length_take]; omega
          have h2 : Y.size ≤ 64 := by
            have h3 : o.data.toList.length = 64 := ho64
            rw [hY, text_size, List.length_drop]; omega
          omega
        have HXY := Lib.hid hxy
        have HXe := Lib.hid (And.intro hX (And.intro hY (And.intro hn64' ho64)))
        rw [← htw] at hf
        have HN := Lib.hid (fun W (hW : RAt W g ao an co cn so sn (part D j (tearF D ps) D.left D.down)) => show RAt (W.setCell (ao.add j) (.string (X ++ Y))) g ao an co cn so sn ⟨upd D.on (j + 1) (tearF D ps), upd D.new j (fun _ => nil0), D.left, D.down⟩ from by
          have := hW.setO (i := j) (by rw [lo]; exact hlt) (X ++ Y)
          have e : (part D j (tearF D ps) D.left D.down).on.set j (X ++ Y) = upd D.on (j + 1) (tearF D ps) := upd_set hlt hf.symm
          rw [e] at this
          exact this)
        have HX := Lib.hid (fun W (hW : RAt W g ao an co cn so sn (part D j (tearF D ps) D.left D.down)) => show W.cell? (an.add j) = some (.string n) ∧ W.cell? (ao.add j) = some (.string o) from by
          have h1 := hW.readN (i := j) (by rw [ln]; exact hlt)
          have h2 := hW.readO (i := j) (by rw [lo]; exact hlt)
          rw [e1, ← hn'] at h1
          rw [eo, ← ho'] at h2
          exact ⟨h1, h2⟩)
        have Hln := Lib.hid ln
        have Hlo := Lib.hid lo
        have HC := Lib.hid hc
        clear hf hn hn' ho' e1 eo lo ln hc ho64 hn64 hn64' htw hX hY hxy
        by_cases hk : q < ps.length
        case neg =>
          have hp0 : p = 0 := by rw [hpv, List.getD_eq_getElem?_getD, List.getElem?_eq_none (by omega)]; rfl
          have pk : (ps.length : Int) ≤ (q : Int) := by omega
          subst hp0
          have hmv : m = 0 := by rw [← hm]; rfl
          subst hmv
          clear hm hpv hk
          go_upto_region 14 with fail
          have HTo : Hid (∀ W, (Instr.slice 9 (.string n) none (some (.int .i64 0)) none).run Try.prog W = .ok (.string X) W) := Lib.hid (fun W => by rw [HXe.out.1]; exact str_to n 0 (by rw [HXe.out.2.2.1]; omega) 0 rfl W)
          have HFrom : Hid (∀ W, (Instr.slice 9 (.string o) (some (.int .i64 0)) none none).run Try.prog W = .ok (.string Y) W) := Lib.hid (fun W => by rw [HXe.out.2.1]; exact str_from o 0 (by rw [HXe.out.2.2.2]; omega) 0 rfl W)
          refine wp_region_said 25 [43, 44, 45, 46, 47, 48, 49, 50, 51, 52, 53, 54, 55, 56, 57, 58, 59, 60, 61, 62, 63, 64, 65, 66, 67]
            [.is (.pointer (some ⟨g, 0, none⟩)), .is (.pointer (some ⟨g, 0, none⟩)), .is (.pointer (some ⟨g, 0, none⟩)), .is (.slice (some ao) D.on.length co), .is (.int .i64 (j : Int)), .is (.pointer (some ⟨g, 0, none⟩)), .is (.pointer (some ⟨g, 0, none⟩)), .is (.pointer (some ⟨g, 1, none⟩)), .is (.slice (some an) D.on.length cn), .is (.int .i64 (j : Int)), .is (.pointer (some (an.add j))), .is (.string n), .is (.int .i64 0), .is (.string X), .is (.pointer (some ⟨g, 0, none⟩)), .is (.pointer (some ⟨g, 0, none⟩)), .is (.pointer (some ⟨g, 0, none⟩)), .is (.slice (some ao) D.on.length co), .is (.int .i64 (j : Int)), .is (.pointer (some (ao.add j))), .is (.string o), .is (.int .i64 0), .is (.string Y), .is (.string (X ++ Y)), .is (.pointer (some (ao.add j)))]
            (fun W => RAt W g ao an co cn so sn (part D j (tearF D ps) D.left D.down) ∧ Fr (RFoot g ao an) (RFoot g ao an) w W) (by kernel_rfl) (by kernel_rfl) (by kernel_rfl) (by kernel_rfl) (by kernel_rfl) (fun W W' h hb => ⟨h.1.step hb, h.2.below hb⟩) hr.out ?stepsa ?lasta
          case stepsa =>
            simp only [List.take_succ_cons, List.take_zero]
            refine ⟨?_, ?_, ?_, ?_, ?_, ?_, ?_, ?_, ?_, ?_, ?_, ?_, ?_, ?_, ?_, ?_, ?_, ?_, ?_, ?_, ?_, ?_, ?_, ?_, ?_, trivial⟩
            all_goals
              intro vs W ρ hρ hc hf hg hI hH hd R' hR
              have z0 := hI.1.cel.cell (i := 0) rfl
              have z1 := hI.1.cel.cell (i := 1) rfl
              rw [Hlo.out] at z0
              rw [Hln.out] at z1
              obtain ⟨zx, zy⟩ := HX.out W hI.1
              have hto := HTo.out
              have hfrom := HFrom.out
              have hxy := HXY.out
              have HR := Lib.hid hR
              simp [depsOf, Region.binds, sayAt, Say.holds] at hd
              clear hR hI k0 k1
              go_simp
              first
                | exact HR.out _ _ (by simp [sayAt, Say.holds]) (Below.refl _ _) (by simp [sayAt, Say.isBlk])
                | trace_state
          case lasta =>
            intro vs W hI hb hg hd
            have e23 := hg 23 (by omega)
            have e24 := hg 24 (by omega)
            simp only [sayAt, Say.holds, List.getD_cons_succ, List.getD_cons_zero] at e23 e24
            simp only [List.take_succ_cons, List.take_zero, List.drop_succ_cons, List.drop_zero, putAll, Act.put, List.setIfInBounds_toArray, List.set_cons_succ, List.set_cons_zero, Nat.zero_add, Nat.reduceAdd]
            rw [e23, e24]
            have xo := (HX.out W hI.1).2
            have xf := hI.1.freeO j
            have HA := Lib.hid (And.intro (HN.out W hI.1) (hI.2.set (foot_o j) (.string (X ++ Y))))
            clear e23 e24 hg hd hb hI k0 k1 HN HX hr
            go_upto_region 15 with fail
            generalize W.setCell (ao.add j) (.string (X ++ Y)) = W2 at HA ⊢
            clear xo xf
            have ln2 : j < (⟨upd D.on (j + 1) (tearF D ps), upd D.new j (fun _ => nil0), D.left, D.down⟩ : Dev).new.length := by show j < (upd _ _ _).length; rw [upd_len]; omega
            have k1 := HA.out.1.cel.cell (i := 1) rfl
            have e2 : (⟨upd D.on (j + 1) (tearF D ps), upd D.new j (fun _ => nil0), D.left, D.down⟩ : Dev).new.length = D.on.length := (upd_len _ _ _).trans hlen
            rw [e2] at k1
            obtain ⟨y, xo⟩ : ∃ y, W2.cell? (an.add j) = some (.string y) := ⟨_, HA.out.1.readN ln2⟩
            have xf := HA.out.1.freeN j
            have HA2 := Lib.hid (show RAt (W2.setCell (an.add j) (.string nil0)) g ao an co cn so sn (part D (j + 1) (tearF D ps) D.left D.down) ∧ Fr (RFoot g ao an) (RFoot g ao an) w (W2.setCell (an.add j) (.string nil0)) from by
              refine ⟨?_, HA.out.2.set (foot_n j) _⟩
              have := HA.out.1.setN ln2 nil0
              have e : (upd D.new j (fun _ => nil0)).set j nil0 = upd D.new (j + 1) (fun _ => nil0) := upd_set hlt2 rfl
              simp only at this
              rw [e] at this
              exact this)
            unfold nil0 at HA2
            clear HA e2 ln2
            go_upto_region 3 with fail
            generalize W2.setCell (an.add j) (.string ⟨#[]⟩) = W3 at HA2 ⊢
            clear xo xf k1
            go_wp2_with fail
            go_roundw
            case rel => exact ⟨j + 1, by omega, by rw [HC.out]; rfl, by go_num, HA2.out⟩
            case measure => simp [intOf]; omega
        obtain ⟨ad, rfl, xp⟩ := HPs.out wr hr.out.2 q hk
        have hpe : p = ps[q] := by rw [hpv, List.getD_eq_getElem?_getD, List.getElem?_eq_getElem hk]; rfl
        rw [← hpe] at xp
        have pk : (q : Int) < (ps.length : Int) := by omega
        clear hpe hpv
        by_cases hp0 : p = 0
        · subst hp0
          have hmv : m = 0 := by rw [← hm]; rfl
          subst hmv
          clear hm hk
          go_upto_region 14 with fail
          have HTo : Hid (∀ W, (Instr.slice 9 (.string n) none (some (.int .i64 0)) none).run Try.prog W = .ok (.string X) W) := Lib.hid (fun W => by rw [HXe.out.1]; exact str_to n 0 (by rw [HXe.out.2.2.1]; omega) 0 rfl W)
          have HFrom : Hid (∀ W, (Instr.slice 9 (.string o) (some (.int .i64 0)) none none).run Try.prog W = .ok (.string Y) W) := Lib.hid (fun W => by rw [HXe.out.2.1]; exact str_from o 0 (by rw [HXe.out.2.2.2]; omega) 0 rfl W)
          refine wp_region_said 25 [43, 44, 45, 46, 47, 48, 49, 50, 51, 52, 53, 54, 55, 56, 57, 58, 59, 60, 61, 62, 63, 64, 65, 66, 67]
            [.is (.pointer (some ⟨g, 0, none⟩)), .is (.pointer (some ⟨g, 0, none⟩)), .is (.pointer (some ⟨g, 0, none⟩)), .is (.slice (some ao) D.on.length co), .is (.int .i64 (j : Int)), .is (.pointer (some ⟨g, 0, none⟩)), .is (.pointer (some ⟨g, 0, none⟩)), .is (.pointer (some ⟨g, 1, none⟩)), .is (.slice (some an) D.on.length cn), .is (.int .i64 (j : Int)), .is (.pointer (some (an.add j))), .is (.string n), .is (.int .i64 0), .is (.string X), .is (.pointer (some ⟨g, 0, none⟩)), .is (.pointer (some ⟨g, 0, none⟩)), .is (.pointer (some ⟨g, 0, none⟩)), .is (.slice (some ao) D.on.length co), .is (.int .i64 (j : Int)), .is (.pointer (some (ao.add j))), .is (.string o), .is (.int .i64 0), .is (.string Y), .is (.string (X ++ Y)), .is (.pointer (some (ao.add j)))]
            (fun W => RAt W g ao an co cn so sn (part D j (tearF D ps) D.left D.down) ∧ Fr (RFoot g ao an) (RFoot g ao an) w W) (by kernel_rfl) (by kernel_rfl) (by kernel_rfl) (by kernel_rfl) (by kernel_rfl) (fun W W' h hb => ⟨h.1.step hb, h.2.below hb⟩) hr.out ?stepsb ?lastb
          case stepsb =>
            simp only [List.take_succ_cons, List.take_zero]
            refine ⟨?_, ?_, ?_, ?_, ?_, ?_, ?_, ?_, ?_, ?_, ?_, ?_, ?_, ?_, ?_, ?_, ?_, ?_, ?_, ?_, ?_, ?_, ?_, ?_, ?_, trivial⟩
            all_goals
              intro vs W ρ hρ hc hf hg hI hH hd R' hR
              have z0 := hI.1.cel.cell (i := 0) rfl
              have z1 := hI.1.cel.cell (i := 1) rfl
              rw [Hlo.out] at z0
              rw [Hln.out] at z1
              obtain ⟨zx, zy⟩ := HX.out W hI.1
              have hto := HTo.out
              have hfrom := HFrom.out
              have hxy := HXY.out
              have HR := Lib.hid hR
              simp [depsOf, Region.binds, sayAt, Say.holds] at hd
              clear hR hI k0 k1
              go_simp
              first
                | exact HR.out _ _ (by simp [sayAt, Say.holds]) (Below.refl _ _) (by simp [sayAt, Say.isBlk])
                | trace_state
          case lastb =>
            intro vs W hI hb hg hd
            have e23 := hg 23 (by omega)
            have e24 := hg 24 (by omega)
            simp only [sayAt, Say.holds, List.getD_cons_succ, List.getD_cons_zero] at e23 e24
            simp only [List.take_succ_cons, List.take_zero, List.drop_succ_cons, List.drop_zero, putAll, Act.put, List.setIfInBounds_toArray, List.set_cons_succ, List.set_cons_zero, Nat.zero_add, Nat.reduceAdd]
            rw [e23, e24]
            have xo := (HX.out W hI.1).2
            have xf := hI.1.freeO j
            have HA := Lib.hid (And.intro (HN.out W hI.1) (hI.2.set (foot_o j) (.string (X ++ Y))))
            clear e23 e24 hg hd hb hI k0 k1 HN HX hr
            go_upto_region 15 with fail
            generalize W.setCell (ao.add j) (.string (X ++ Y)) = W2 at HA ⊢
            clear xo xf
            have ln2 : j < (⟨upd D.on (j + 1) (tearF D ps), upd D.new j (fun _ => nil0), D.left, D.down⟩ : Dev).new.length := by show j < (upd _ _ _).length; rw [upd_len]; omega
            have k1 := HA.out.1.cel.cell (i := 1) rfl
            have e2 : (⟨upd D.on (j + 1) (tearF D ps), upd D.new j (fun _ => nil0), D.left, D.down⟩ : Dev).new.length = D.on.length := (upd_len _ _ _).trans hlen
            rw [e2] at k1
            obtain ⟨y, xo⟩ : ∃ y, W2.cell? (an.add j) = some (.string y) := ⟨_, HA.out.1.readN ln2⟩
            have xf := HA.out.1.freeN j
            have HA2 := Lib.hid (show RAt (W2.setCell (an.add j) (.string nil0)) g ao an co cn so sn (part D (j + 1) (tearF D ps) D.left D.down) ∧ Fr (RFoot g ao an) (RFoot g ao an) w (W2.setCell (an.add j) (.string nil0)) from by
              refine ⟨?_, HA.out.2.set (foot_n j) _⟩
              have := HA.out.1.setN ln2 nil0
              have e : (upd D.new j (fun _ => nil0)).set j nil0 = upd D.new (j + 1) (fun _ => nil0) := upd_set hlt2 rfl
              simp only at this
              rw [e] at this
              exact this)
            unfold nil0 at HA2
            clear HA e2 ln2
            go_upto_region 3 with fail
            generalize W2.setCell (an.add j) (.string ⟨#[]⟩) = W3 at HA2 ⊢
            clear xo xf k1
            go_wp2_with fail
            go_roundw
            case rel => exact ⟨j + 1, by omega, by rw [HC.out]; rfl, by go_num, HA2.out⟩
            case measure => simp [intOf]; omega
        by_cases hp1 : p = 1
        · subst hp1
          have hmv : m = 64 := by rw [← hm]; rfl
          subst hmv
          clear hm hk hp0
          go_upto_region 14 with fail
          have HTo : Hid (∀ W, (Instr.slice 9 (.string n) none (some (.int .i64 64)) none).run Try.prog W = .ok (.string X) W) := Lib.hid (fun W => by rw [HXe.out.1]; exact str_to n 64 (by rw [HXe.out.2.2.1]; omega) 64 rfl W)
          have HFrom : Hid (∀ W, (Instr.slice 9 (.string o) (some (.int .i64 64)) none none).run Try.prog W = .ok (.string Y) W) := Lib.hid (fun W => by rw [HXe.out.2.1]; exact str_from o 64 (by rw [HXe.out.2.2.2]; omega) 64 rfl W)
          refine wp_region_said 25 [43, 44, 45, 46, 47, 48, 49, 50, 51, 52, 53, 54, 55, 56, 57, 58, 59, 60, 61, 62, 63, 64, 65, 66, 67]
            [.is (.pointer (some ⟨g, 0, none⟩)), .is (.pointer (some ⟨g, 0, none⟩)), .is (.pointer (some ⟨g, 0, none⟩)), .is (.slice (some ao) D.on.length co), .is (.int .i64 (j : Int)), .is (.pointer (some ⟨g, 0, none⟩)), .is (.pointer (some ⟨g, 0, none⟩)), .is (.pointer (some ⟨g, 1, none⟩)), .is (.slice (some an) D.on.length cn), .is (.int .i64 (j : Int)), .is (.pointer (some (an.add j))), .is (.string n), .is (.int .i64 64), .is (.string X), .is (.pointer (some ⟨g, 0, none⟩)), .is (.pointer (some ⟨g, 0, none⟩)), .is (.pointer (some ⟨g, 0, none⟩)), .is (.slice (some ao) D.on.length co), .is (.int .i64 (j : Int)), .is (.pointer (some (ao.add j))), .is (.string o), .is (.int .i64 64), .is (.string Y), .is (.string (X ++ Y)), .is (.pointer (some (ao.add j)))]
            (fun W => RAt W g ao an co cn so sn (part D j (tearF D ps) D.left D.down) ∧ Fr (RFoot g ao an) (RFoot g ao an) w W) (by kernel_rfl) (by kernel_rfl) (by kernel_rfl) (by kernel_rfl) (by kernel_rfl) (fun W W' h hb => ⟨h.1.step hb, h.2.below hb⟩) hr.out ?stepsc ?lastc
          case stepsc =>
            simp only [List.take_succ_cons, List.take_zero]
            refine ⟨?_, ?_, ?_, ?_, ?_, ?_, ?_, ?_, ?_, ?_, ?_, ?_, ?_, ?_, ?_, ?_, ?_, ?_, ?_, ?_, ?_, ?_, ?_, ?_, ?_, trivial⟩
            all_goals
              intro vs W ρ hρ hc hf hg hI hH hd R' hR
              have z0 := hI.1.cel.cell (i := 0) rfl
              have z1 := hI.1.cel.cell (i := 1) rfl
              rw [Hlo.out] at z0
              rw [Hln.out] at z1
              obtain ⟨zx, zy⟩ := HX.out W hI.1
              have hto := HTo.out
              have hfrom := HFrom.out
              have hxy := HXY.out
              have HR := Lib.hid hR
              simp [depsOf, Region.binds, sayAt, Say.holds] at hd
              clear hR hI k0 k1
              go_simp
              first
                | exact HR.out _ _ (by simp [sayAt, Say.holds]) (Below.refl _ _) (by simp [sayAt, Say.isBlk])
                | trace_state
          case lastc =>
            intro vs W hI hb hg hd
            have e23 := hg 23 (by omega)
            have e24 := hg 24 (by omega)
            simp only [sayAt, Say.holds, List.getD_cons_succ, List.getD_cons_zero] at e23 e24
            simp only [List.take_succ_cons, List.take_zero, List.drop_succ_cons, List.drop_zero, putAll, Act.put, List.setIfInBounds_toArray, List.set_cons_succ, List.set_cons_zero, Nat.zero_add, Nat.reduceAdd]
            rw [e23, e24]
            have xo := (HX.out W hI.1).2
            have xf := hI.1.freeO j
            have HA := Lib.hid (And.intro (HN.out W hI.1) (hI.2.set (foot_o j) (.string (X ++ Y))))
            clear e23 e24 hg hd hb hI k0 k1 HN HX hr
            go_upto_region 15 with fail
            generalize W.setCell (ao.add j) (.string (X ++ Y)) = W2 at HA ⊢
            clear xo xf
            have ln2 : j < (⟨upd D.on (j + 1) (tearF D ps), upd D.new j (fun _ => nil0), D.left, D.down⟩ : Dev).new.length := by show j < (upd _ _ _).length; rw [upd_len]; omega
            have k1 := HA.out.1.cel.cell (i := 1) rfl
            have e2 : (⟨upd D.on (j + 1) (tearF D ps), upd D.new j (fun _ => nil0), D.left, D.down⟩ : Dev).new.length = D.on.length := (upd_len _ _ _).trans hlen
            rw [e2] at k1
            obtain ⟨y, xo⟩ : ∃ y, W2.cell? (an.add j) = some (.string y) := ⟨_, HA.out.1.readN ln2⟩
            have xf := HA.out.1.freeN j
            have HA2 := Lib.hid (show RAt (W2.setCell (an.add j) (.string nil0)) g ao an co cn so sn (part D (j + 1) (tearF D ps) D.left D.down) ∧ Fr (RFoot g ao an) (RFoot g ao an) w (W2.setCell (an.add j) (.string nil0)) from by
              refine ⟨?_, HA.out.2.set (foot_n j) _⟩
              have := HA.out.1.setN ln2 nil0
              have e : (upd D.new j (fun _ => nil0)).set j nil0 = upd D.new (j + 1) (fun _ => nil0) := upd_set hlt2 rfl
              simp only at this
              rw [e] at this
              exact this)
            unfold nil0 at HA2
            clear HA e2 ln2
            go_upto_region 3 with fail
            generalize W2.setCell (an.add j) (.string ⟨#[]⟩) = W3 at HA2 ⊢
            clear xo xf k1
            go_wp2_with fail
            go_roundw
            case rel => exact ⟨j + 1, by omega, by rw [HC.out]; rfl, by go_num, HA2.out⟩
            case measure => simp [intOf]; omega
        obtain ⟨a1, a2, a3⟩ := among_eq p 64 (by omega)
        have e6 : IntKind.i64.wrap (p.tmod 64 + 64) = p.tmod 64 + 64 := by rw [IntKind.wrap_i64]; simp at a2 a3; omega
        have em : (amongV p 64 : Int) = (m : Int) := by
          rw [amongV_emod p 64 (by omega), ← hm]
          unfold cutN
          rw [if_neg hp0, if_neg hp1]
          exact (cut_mod p).1.symm
        rw [em] at a1
        have a4 : (p.tmod 64 + 64).tmod 64 = (m : Int) := by simpa using a1
        clear hm hk em a1 a2 a3
        go_upto_region 14 with fail
        have HTo : Hid (∀ W, (Instr.slice 9 (.string n) none (some (.int .i64 (m : Int))) none).run Try.prog W = .ok (.string X) W) := Lib.hid (fun W => by rw [HXe.out.1]; exact str_to n m (by rw [HXe.out.2.2.1]; omega) (m : Int) rfl W)
        have HFrom : Hid (∀ W, (Instr.slice 9 (.string o) (some (.int .i64 (m : Int))) none none).run Try.prog W = .ok (.string Y) W) := Lib.hid (fun W => by rw [HXe.out.2.1]; exact str_from o m (by rw [HXe.out.2.2.2]; omega) (m : Int) rfl W)
        refine wp_region_said 25 [43, 44, 45, 46, 47, 48, 49, 50, 51, 52, 53, 54, 55, 56, 57, 58, 59, 60, 61, 62, 63, 64, 65, 66, 67]
          [.is (.pointer (some ⟨g, 0, none⟩)), .is (.pointer (some ⟨g, 0, none⟩)), .is (.pointer (some ⟨g, 0, none⟩)), .is (.slice (some ao) D.on.length co), .is (.int .i64 (j : Int)), .is (.pointer (some ⟨g, 0, none⟩)), .is (.pointer (some ⟨g, 0, none⟩)), .is (.pointer (some ⟨g, 1, none⟩)), .is (.slice (some an) D.on.length cn), .is (.int .i64 (j : Int)), .is (.pointer (some (an.add j))), .is (.string n), .is (.int .i64 (m : Int)), .is (.string X), .is (.pointer (some ⟨g, 0, none⟩)), .is (.pointer (some ⟨g, 0, none⟩)), .is (.pointer (some ⟨g, 0, none⟩)), .is (.slice (some ao) D.on.length co), .is (.int .i64 (j : Int)), .is (.pointer (some (ao.add j))), .is (.string o), .is (.int .i64 (m : Int)), .is (.string Y), .is (.string (X ++ Y)), .is (.pointer (some (ao.add j)))]
          (fun W => RAt W g ao an co cn so sn (part D j (tearF D ps) D.left D.down) ∧ Fr (RFoot g ao an) (RFoot g ao an) w W) (by kernel_rfl) (by kernel_rfl) (by kernel_rfl) (by kernel_rfl) (by kernel_rfl) (fun W W' h hb => ⟨h.1.step hb, h.2.below hb⟩) hr.out ?stepsd ?lastd
        case stepsd =>
          simp only [List.take_succ_cons, List.take_zero]
          refine ⟨?_, ?_, ?_, ?_, ?_, ?_, ?_, ?_, ?_, ?_, ?_, ?_, ?_, ?_, ?_, ?_, ?_, ?_, ?_, ?_, ?_, ?_, ?_, ?_, ?_, trivial⟩
          all_goals
            intro vs W ρ hρ hc hf hg hI hH hd R' hR
            have z0 := hI.1.cel.cell (i := 0) rfl
            have z1 := hI.1.cel.cell (i := 1) rfl
            rw [Hlo.out] at z0
            rw [Hln.out] at z1
            obtain ⟨zx, zy⟩ := HX.out W hI.1
            have hto := HTo.out
            have hfrom := HFrom.out
            have hxy := HXY.out
            have HR := Lib.hid hR
            simp [depsOf, Region.binds, sayAt, Say.holds] at hd
            clear hR hI k0 k1
            go_simp
            first
              | exact HR.out _ _ (by simp [sayAt, Say.holds]) (Below.refl _ _) (by simp [sayAt, Say.isBlk])
              | trace_state
        case lastd =>
          intro vs W hI hb hg hd
          have e23 := hg 23 (by omega)
          have e24 := hg 24 (by omega)
          simp only [sayAt, Say.holds, List.getD_cons_succ, List.getD_cons_zero] at e23 e24
          simp only [List.take_succ_cons, List.take_zero, List.drop_succ_cons, List.drop_zero, putAll, Act.put, List.setIfInBounds_toArray, List.set_cons_succ, List.set_cons_zero, Nat.zero_add, Nat.reduceAdd]
          rw [e23, e24]
          have xo := (HX.out W hI.1).2
          have xf := hI.1.freeO j
          have HA := Lib.hid (And.intro (HN.out W hI.1) (hI.2.set (foot_o j) (.string (X ++ Y))))
          clear e23 e24 hg hd hb hI k0 k1 HN HX hr
          go_upto_region 15 with fail
          generalize W.setCell (ao.add j) (.string (X ++ Y)) = W2 at HA ⊢
          clear xo xf
          have ln2 : j < (⟨upd D.on (j + 1) (tearF D ps), upd D.new j (fun _ => nil0), D.left, D.down⟩ : Dev).new.length := by show j < (upd _ _ _).length; rw [upd_len]; omega
          have k1 := HA.out.1.cel.cell (i := 1) rfl
          have e2 : (⟨upd D.on (j + 1) (tearF D ps), upd D.new j (fun _ => nil0), D.left, D.down⟩ : Dev).new.length = D.on.length := (upd_len _ _ _).trans hlen
          rw [e2] at k1
          obtain ⟨y, xo⟩ : ∃ y, W2.cell? (an.add j) = some (.string y) := ⟨_, HA.out.1.readN ln2⟩
          have xf := HA.out.1.freeN j
          have HA2 := Lib.hid (show RAt (W2.setCell (an.add j) (.string nil0)) g ao an co cn so sn (part D (j + 1) (tearF D ps) D.left D.down) ∧ Fr (RFoot g ao an) (RFoot g ao an) w (W2.setCell (an.add j) (.string nil0)) from by
            refine ⟨?_, HA.out.2.set (foot_n j) _⟩
            have := HA.out.1.setN ln2 nil0
            have e : (upd D.new j (fun _ => nil0)).set j nil0 = upd D.new (j + 1) (fun _ => nil0) := upd_set hlt2 rfl
            simp only at this
            rw [e] at this
            exact this)
          unfold nil0 at HA2
          clear HA e2 ln2
          go_upto_region 3 with fail
          generalize W2.setCell (an.add j) (.string ⟨#[]⟩) = W3 at HA2 ⊢
          clear xo xf k1
          go_wp2_with fail
          go_roundw
          case rel => exact ⟨j + 1, by omega, by rw [HC.out]; rfl, by go_num, HA2.out⟩
          case measure => simp [intOf]; omega
    · obtain rfl : j = D.on.length := by omega
      have HN := Lib.hid (hr.out.1.setLeft 0)
      have HF := Lib.hid (hr.out.2.set (p := ⟨g, 2, none⟩) foot_g (.int .i64 0))
      have kq := fun i => hr.out.1.cel.free (i := i)
      have k2 := hr.out.1.cel.cell (i := 2) rfl
      clear hr lo ln
      go_upto_region 17 with fail
      have e0 : (Value.int .i64 ((0 : Nat) : Int)) = .int .i64 0 := rfl
      rw [e0] at HN
      generalize wr.setCell ⟨g, 2, none⟩ (.int .i64 0) = W2 at HN HF ⊢
      clear kq k2 k0 k1 e0
      have HN2 := Lib.hid (HN.out.setDown false)
      have HF2 := Lib.hid (HF.out.set (p := ⟨g, 3, none⟩) foot_g (.bool false))
      have kq := fun i => HN.out.cel.free (i := i)
      have k3 := HN.out.cel.cell (i := 3) rfl
      clear HN HF
      go_wp2_with fail
      refine bodyPost_end (results_none rfl _ _ _) rfl ?_
      exact ⟨rfl, HN2.out, HF2.out⟩

end

end Sc
end Go.Proofs.Ytecgimnmccmpjaa
