/- Parts of the proof, joined: ScRef3, BkAppend, BkGrow; their conditions stand with each. -/
import Derived.Maps.AppendAt
import Derived.Test.YtjehjbkcdpidbaaGreatB3
import Derived.Test.YtjehjbkcdpidbaaGreatB4

/- What the document's device does at a crash; contract; no condition but the range. -/
namespace Go.Proofs.YtjehjbkcdpidbaaGreat
namespace Sc
open Go.RowKit Bk

attribute [local go_sem ↓] Go.wp_at_zero Go.wp_at_succ
attribute [local go_sem] floatUpon pick

theorem cut_mod (p : Int) : ((p % 64).toNat : Int) = p % 64 ∧ (p % 64).toNat ≤ 64 := by omega

/-- what is left behind a crash, as two parts -/
theorem torn_two (o n : ByteArray) (p : Int) {m : Nat} (hm : cutN p = m) : (⟨(n.data.toList.take m).toArray⟩ : ByteArray) ++ ⟨(o.data.toList.drop m).toArray⟩ = torn o n p := by
  unfold torn
  rw [hm]
  apply ByteArray.ext
  apply Array.toList_inj.1
  simp

section
variable {w : World} {g : Nat} {ao an : Addr} {co cn : Nat} {so sn : List Value} {D : Dev}

set_option maxRecDepth 20000 in
set_option maxHeartbeats 8000000 in
theorem rcrash_any (h : RAt w g ao an co cn so sn D) (hok : DevOk D) (A : Option Addr) (c : Nat) (ps : List Int) (hp : IntsAt w A ps) (hpd : 0 < ps.length → ∀ a, A = some a → ¬ RFoot g ao an a.block) (hpl : ps.length ≤ 140737488351232) :
    Calls Tryz.prog 73 #[.pointer (some ⟨g, 0, none⟩), .slice A ps.length c] w fun e w' => e = .returned (.tuple #[]) ∧ RAt w' g ao an co cn so sn (crD D ps) ∧ Fr (RFoot g ao an) (RFoot g ao an) w w' := by
  have H := Lib.hid (show RAt w g ao an co cn so sn (part D 0 (tearF D ps) D.left D.down) from by rw [part_zero]; exact h)
  have hlen := hok.len
  have hmx := hok.max
  have hlt0 := h.lt
  have HPs := Lib.hid (fun wr (hf : Fr (RFoot g ao an) (RFoot g ao an) w wr) (k : Nat) (hk : k < ps.length) => show ∃ ad, A = some ad ∧ wr.cell? (ad.add k) = some (.int .i64 ps[k]) from by
    obtain ⟨ad, e, hb, hc⟩ := hp (by omega)
    refine ⟨ad, e, ?_⟩
    have hkp : wr.heap[(ad.add k).block]? = w.heap[(ad.add k).block]? := by rw [st_block]; exact hf.block _ hb (hpd (by omega) ad e)
    rw [show wr.cell? (ad.add k) = w.cell? (ad.add k) from by unfold World.cell?; rw [hkp]]
    exact hc k hk)
  have HOk := Lib.hid hok
  clear h hok hp hpd
  go_enter Tryz.func73, Tryz.ntmps73
  go_wp2_with fail
  go_loopw [4, 5] (fun k i wr => ∃ j : Nat, j ≤ D.on.length ∧ k = .int .i64 (cnt D.new j : Int) ∧ i = .int .i64 (j : Int) ∧ Hid (RAt wr g ao an co cn so sn (part D j (tearF D ps) D.left D.down) ∧ Fr (RFoot g ao an) (RFoot g ao an) w wr)) (fun _ i _ => D.on.length - (intOf i).toNat)
  case atStart => exact ⟨0, by omega, rfl, rfl, H.out, Fr.refl _ _⟩
  case round =>
    obtain ⟨j, hj, rfl, rfl, hr⟩ := hrel
    clear H
    have lo : (part D j (tearF D ps) D.left D.down).on.length = D.on.length := upd_len _ _ _
    have ln : (part D j (tearF D ps) D.left D.down).new.length = D.on.length := (upd_len _ _ _).trans hlen
    have k0 := hr.out.1.cel.cell (i := 0) rfl
    have k1 := hr.out.1.cel.cell (i := 1) rfl
    rw [lo] at k0
    rw [ln] at k1
    by_cases hlt : j < D.on.length
    · have pj : (j : Int) < (D.on.length : Int) := by omega
      have hlt2 : j < D.new.length := by omega
      have x1 := hr.out.1.readN (i := j) (by rw [ln]; exact hlt)
      have e1 : (part D j (tearF D ps) D.left D.down).new[j]'(by rw [ln]; exact hlt) = D.new[j] := upd_here hlt2 _
      have eo : (part D j (tearF D ps) D.left D.down).on[j]'(by rw [lo]; exact hlt) = D.on[j] := upd_here hlt _
      rw [e1] at x1
      have hf : tearF D ps j = if D.new[j] = nil0 then D.on[j] else torn D.on[j] D.new[j] (ps.getD (cnt D.new j) 0) := by unfold tearF; rw [getD_at hlt, getD_at hlt2]
      have hc := cnt_succ hlt2
      have hcl := cnt_le D.new j
      have ho64 := HOk.out.on64 _ (List.getElem_mem hlt)
      have hn64 := HOk.out.new64 _ (List.getElem_mem hlt2)
      obtain ⟨n, hn'⟩ : ∃ n, n = D.new[j] := ⟨_, rfl⟩
      obtain ⟨o, ho'⟩ : ∃ o, o = D.on[j] := ⟨_, rfl⟩
      rw [← hn'] at x1 hf hc hn64
      rw [← ho'] at hf ho64
      generalize cnt D.new j = q at hf hc hcl ⊢
      have pq : (q : Int) ≤ 2048 := by omega
      have wq : IntKind.i64.wrap ((q : Int) + 1) = (q : Int) + 1 := i64_wrap (by omega) (by omega)
      by_cases hn : n = nil0
      · rw [if_pos hn] at hf hc
        have HN := Lib.hid (show RAt wr g ao an co cn so sn (part D (j + 1) (tearF D ps) D.left D.down) ∧ Fr (RFoot g ao an) (RFoot g ao an) w wr from by
          have : part D (j + 1) (tearF D ps) D.left D.down = part D j (tearF D ps) D.left D.down := by
            unfold part
            rw [upd_same hlt (by rw [hf, ho']), upd_same hlt2 (by rw [← hn', hn])]
          rw [this]; exact hr.out)
        subst hn
        have HC := Lib.hid hc
        have t0 := text_eq nil0
        unfold nil0 at t0 x1
        clear hr hf hn' ho' e1 eo lo ln hc ho64 hn64 wq
        go_wp2_with fail
        go_roundw
        case rel => exact ⟨j + 1, by omega, by rw [HC.out]; rfl, by go_num, HN.out⟩
        case measure => simp [intOf]; omega
      · rw [if_neg hn] at hf hc
        obtain ⟨t1, t2, t0⟩ := text_no hn
        have hn64' : n.size = 64 := hn64.resolve_left hn
        obtain ⟨p, hpv⟩ : ∃ p, p = ps.getD q 0 := ⟨_, rfl⟩
        rw [← hpv] at hf
        obtain ⟨m, hm⟩ : ∃ m, cutN p = m := ⟨_, rfl⟩
        have hm64 : m ≤ 64 := by rw [← hm]; exact cut_le p
        have htw := torn_two o n p hm
        obtain ⟨X, hX⟩ : ∃ X, X = (⟨(n.data.toList.take m).toArray⟩ : ByteArray) := ⟨_, rfl⟩
        obtain ⟨Y, hY⟩ : ∃ Y, Y = (⟨(o.data.toList.drop m).toArray⟩ : ByteArray) := ⟨_, rfl⟩
        rw [← hX, ← hY] at htw
        have hxy : ¬ 9223372036854775807 < X.size + Y.size := by
          have h1 : X.size ≤ 64 := by rw [hX, text_size, List.length_take]; omega
          have h2 : Y.size ≤ 64 := by
            have h3 : o.data.toList.length = 64 := ho64
            rw [hY, text_size, List.length_drop]; omega
          omega
        have HXY := Lib.hid hxy
        have HXe := Lib.hid (And.intro hX (And.intro hY (And.intro hn64' ho64)))
        rw [← htw] at hf
        have HN := Lib.hid (fun W (hW : RAt W g ao an co cn so sn (part D j (tearF D ps) D.left D.down)) => show RAt (W.setCell (ao.add j) (.string (X ++ Y))) g ao an co cn so sn ⟨upd D.on (j + 1) (tearF D ps), upd D.new j (fun _ => nil0), D.left, D.down⟩ from by
          have := hW.setO (i := j) (by rw [lo]; exact hlt) (X ++ Y)
          have e : (part D j (tearF D ps) D.left D.down).on.set j (X ++ Y) = upd D.on (j + 1) (tearF D ps) := upd_set hlt hf.symm
          rw [e] at this
          exact this)
        have HX := Lib.hid (fun W (hW : RAt W g ao an co cn so sn (part D j (tearF D ps) D.left D.down)) => show W.cell? (an.add j) = some (.string n) ∧ W.cell? (ao.add j) = some (.string o) from by
          have h1 := hW.readN (i := j) (by rw [ln]; exact hlt)
          have h2 := hW.readO (i := j) (by rw [lo]; exact hlt)
          rw [e1, ← hn'] at h1
          rw [eo, ← ho'] at h2
          exact ⟨h1, h2⟩)
        have Hln := Lib.hid ln
        have Hlo := Lib.hid lo
        have HC := Lib.hid hc
        clear hf hn hn' ho' e1 eo lo ln hc ho64 hn64 hn64' htw hX hY hxy
        by_cases hk : q < ps.length
        case neg =>
          have hp0 : p = 0 := by rw [hpv, List.getD_eq_getElem?_getD, List.getElem?_eq_none (by omega)]; rfl
          have pk : (ps.length : Int) ≤ (q : Int) := by omega
          subst hp0
          have hmv : m = 0 := by rw [← hm]; rfl
          subst hmv
          clear hm hpv hk
          go_upto_region 14 with fail
          have HTo : Hid (∀ W, (Instr.slice 9 (.string n) none (some (.int .i64 0)) none).run Tryz.prog W = .ok (.string X) W) := Lib.hid (fun W => by rw [HXe.out.1]; exact str_to n 0 (by rw [HXe.out.2.2.1]; omega) 0 rfl W)
          have HFrom : Hid (∀ W, (Instr.slice 9 (.string o) (some (.int .i64 0)) none none).run Tryz.prog W = .ok (.string Y) W) := Lib.hid (fun W => by rw [HXe.out.2.1]; exact str_from o 0 (by rw [HXe.out.2.2.2]; omega) 0 rfl W)
          refine wp_region_said 25 [43, 44, 45, 46, 47, 48, 49, 50, 51, 52, 53, 54, 55, 56, 57, 58, 59, 60, 61, 62, 63, 64, 65, 66, 67]
            [.is (.pointer (some ⟨g, 0, none⟩)), .is (.pointer (some ⟨g, 0, none⟩)), .is (.pointer (some ⟨g, 0, none⟩)), .is (.slice (some ao) D.on.length co), .is (.int .i64 (j : Int)), .is (.pointer (some ⟨g, 0, none⟩)), .is (.pointer (some ⟨g, 0, none⟩)), .is (.pointer (some ⟨g, 1, none⟩)), .is (.slice (some an) D.on.length cn), .is (.int .i64 (j : Int)), .is (.pointer (some (an.add j))), .is (.string n), .is (.int .i64 0), .is (.string X), .is (.pointer (some ⟨g, 0, none⟩)), .is (.pointer (some ⟨g, 0, none⟩)), .is (.pointer (some ⟨g, 0, none⟩)), .is (.slice (some ao) D.on.length co), .is (.int .i64 (j : Int)), .is (.pointer (some (ao.add j))), .is (.string o), .is (.int .i64 0), .is (.string Y), .is (.string (X ++ Y)), .is (.pointer (some (ao.add j)))]
            (fun W => RAt W g ao an co cn so sn (part D j (tearF D ps) D.left D.down) ∧ Fr (RFoot g ao an) (RFoot g ao an) w W) (by kernel_rfl) (by kernel_rfl) (by kernel_rfl) (by kernel_rfl) (by kernel_rfl) (fun W W' h hb => ⟨h.1.step hb, h.2.below hb⟩) hr.out ?stepsa ?lasta
          case stepsa =>
            simp only [List.take_succ_cons, List.take_zero]
            refine ⟨?_, ?_, ?_, ?_, ?_, ?_, ?_, ?_, ?_, ?_, ?_, ?_, ?_, ?_, ?_, ?_, ?_, ?_, ?_, ?_, ?_, ?_, ?_, ?_, ?_, trivial⟩
            all_goals
              intro vs W ρ hρ hc hf hg hI hH hd R' hR
              have z0 := hI.1.cel.cell (i := 0) rfl
              have z1 := hI.1.cel.cell (i := 1) rfl
              rw [Hlo.out] at z0
              rw [Hln.out] at z1
              obtain ⟨zx, zy⟩ := HX.out W hI.1
              have hto := HTo.out
              have hfrom := HFrom.out
              have hxy := HXY.out
              have HR := Lib.hid hR
              simp [depsOf, Region.binds, sayAt, Say.holds] at hd
              clear hR hI k0 k1
              go_simp
              first
                | exact HR.out _ _ (by simp [sayAt, Say.holds]) (Below.refl _ _) (by simp [sayAt, Say.isBlk])
                | trace_state
          case lasta =>
            intro vs W hI hb hg hd
            have e23 := hg 23 (by omega)
            have e24 := hg 24 (by omega)
            simp only [sayAt, Say.holds, List.getD_cons_succ, List.getD_cons_zero] at e23 e24
            simp only [List.take_succ_cons, List.take_zero, List.drop_succ_cons, List.drop_zero, putAll, Act.put, List.setIfInBounds_toArray, List.set_cons_succ, List.set_cons_zero, Nat.zero_add, Nat.reduceAdd]
            rw [e23, e24]
            have xo := (HX.out W hI.1).2
            have xf := hI.1.freeO j
            have HA := Lib.hid (And.intro (HN.out W hI.1) (hI.2.set (foot_o j) (.string (X ++ Y))))
            clear e23 e24 hg hd hb hI k0 k1 HN HX hr
            go_upto_region 15 with fail
            generalize W.setCell (ao.add j) (.string (X ++ Y)) = W2 at HA ⊢
            clear xo xf
            have ln2 : j < (⟨upd D.on (j + 1) (tearF D ps), upd D.new j (fun _ => nil0), D.left, D.down⟩ : Dev).new.length := by show j < (upd _ _ _).length; rw [upd_len]; omega
            have k1 := HA.out.1.cel.cell (i := 1) rfl
            have e2 : (⟨upd D.on (j + 1) (tearF D ps), upd D.new j (fun _ => nil0), D.left, D.down⟩ : Dev).new.length = D.on.length := (upd_len _ _ _).trans hlen
            rw [e2] at k1
            obtain ⟨y, xo⟩ : ∃ y, W2.cell? (an.add j) = some (.string y) := ⟨_, HA.out.1.readN ln2⟩
            have xf := HA.out.1.freeN j
            have HA2 := Lib.hid (show RAt (W2.setCell (an.add j) (.string nil0)) g ao an co cn so sn (part D (j + 1) (tearF D ps) D.left D.down) ∧ Fr (RFoot g ao an) (RFoot g ao an) w (W2.setCell (an.add j) (.string nil0)) from by
              refine ⟨?_, HA.out.2.set (foot_n j) _⟩
              have := HA.out.1.setN ln2 nil0
              have e : (upd D.new j (fun _ => nil0)).set j nil0 = upd D.new (j + 1) (fun _ => nil0) := upd_set hlt2 rfl
              simp only at this
              rw [e] at this
              exact this)
            unfold nil0 at HA2
            clear HA e2 ln2
            go_upto_region 3 with fail
            generalize W2.setCell (an.add j) (.string ⟨#[]⟩) = W3 at HA2 ⊢
            clear xo xf k1
            go_wp2_with fail
            go_roundw
            case rel => exact ⟨j + 1, by omega, by rw [HC.out]; rfl, by go_num, HA2.out⟩
            case measure => simp [intOf]; omega
        obtain ⟨ad, rfl, xp⟩ := HPs.out wr hr.out.2 q hk
        have hpe : p = ps[q] := by rw [hpv, List.getD_eq_getElem?_getD, List.getElem?_eq_getElem hk]; rfl
        rw [← hpe] at xp
        have pk : (q : Int) < (ps.length : Int) := by omega
        clear hpe hpv
        by_cases hp0 : p = 0
        · subst hp0
          have hmv : m = 0 := by rw [← hm]; rfl
          subst hmv
          clear hm hk
          go_upto_region 14 with fail
          have HTo : Hid (∀ W, (Instr.slice 9 (.string n) none (some (.int .i64 0)) none).run Tryz.prog W = .ok (.string X) W) := Lib.hid (fun W => by rw [HXe.out.1]; exact str_to n 0 (by rw [HXe.out.2.2.1]; omega) 0 rfl W)
          have HFrom : Hid (∀ W, (Instr.slice 9 (.string o) (some (.int .i64 0)) none none).run Tryz.prog W = .ok (.string Y) W) := Lib.hid (fun W => by rw [HXe.out.2.1]; exact str_from o 0 (by rw [HXe.out.2.2.2]; omega) 0 rfl W)
          refine wp_region_said 25 [43, 44, 45, 46, 47, 48, 49, 50, 51, 52, 53, 54, 55, 56, 57, 58, 59, 60, 61, 62, 63, 64, 65, 66, 67]
            [.is (.pointer (some ⟨g, 0, none⟩)), .is (.pointer (some ⟨g, 0, none⟩)), .is (.pointer (some ⟨g, 0, none⟩)), .is (.slice (some ao) D.on.length co), .is (.int .i64 (j : Int)), .is (.pointer (some ⟨g, 0, none⟩)), .is (.pointer (some ⟨g, 0, none⟩)), .is (.pointer (some ⟨g, 1, none⟩)), .is (.slice (some an) D.on.length cn), .is (.int .i64 (j : Int)), .is (.pointer (some (an.add j))), .is (.string n), .is (.int .i64 0), .is (.string X), .is (.pointer (some ⟨g, 0, none⟩)), .is (.pointer (some ⟨g, 0, none⟩)), .is (.pointer (some ⟨g, 0, none⟩)), .is (.slice (some ao) D.on.length co), .is (.int .i64 (j : Int)), .is (.pointer (some (ao.add j))), .is (.string o), .is (.int .i64 0), .is (.string Y), .is (.string (X ++ Y)), .is (.pointer (some (ao.add j)))]
            (fun W => RAt W g ao an co cn so sn (part D j (tearF D ps) D.left D.down) ∧ Fr (RFoot g ao an) (RFoot g ao an) w W) (by kernel_rfl) (by kernel_rfl) (by kernel_rfl) (by kernel_rfl) (by kernel_rfl) (fun W W' h hb => ⟨h.1.step hb, h.2.below hb⟩) hr.out ?stepsb ?lastb
          case stepsb =>
            simp only [List.take_succ_cons, List.take_zero]
            refine ⟨?_, ?_, ?_, ?_, ?_, ?_, ?_, ?_, ?_, ?_, ?_, ?_, ?_, ?_, ?_, ?_, ?_, ?_, ?_, ?_, ?_, ?_, ?_, ?_, ?_, trivial⟩
            all_goals
              intro vs W ρ hρ hc hf hg hI hH hd R' hR
              have z0 := hI.1.cel.cell (i := 0) rfl
              have z1 := hI.1.cel.cell (i := 1) rfl
              rw [Hlo.out] at z0
              rw [Hln.out] at z1
              obtain ⟨zx, zy⟩ := HX.out W hI.1
              have hto := HTo.out
              have hfrom := HFrom.out
              have hxy := HXY.out
              have HR := Lib.hid hR
              simp [depsOf, Region.binds, sayAt, Say.holds] at hd
              clear hR hI k0 k1
              go_simp
              first
                | exact HR.out _ _ (by simp [sayAt, Say.holds]) (Below.refl _ _) (by simp [sayAt, Say.isBlk])
                | trace_state
          case lastb =>
            intro vs W hI hb hg hd
            have e23 := hg 23 (by omega)
            have e24 := hg 24 (by omega)
            simp only [sayAt, Say.holds, List.getD_cons_succ, List.getD_cons_zero] at e23 e24
            simp only [List.take_succ_cons, List.take_zero, List.drop_succ_cons, List.drop_zero, putAll, Act.put, List.setIfInBounds_toArray, List.set_cons_succ, List.set_cons_zero, Nat.zero_add, Nat.reduceAdd]
            rw [e23, e24]
            have xo := (HX.out W hI.1).2
            have xf := hI.1.freeO j
            have HA := Lib.hid (And.intro (HN.out W hI.1) (hI.2.set (foot_o j) (.string (X ++ Y))))
            clear e23 e24 hg hd hb hI k0 k1 HN HX hr
            go_upto_region 15 with fail
            generalize W.setCell (ao.add j) (.string (X ++ Y)) = W2 at HA ⊢
            clear xo xf
            have ln2 : j < (⟨upd D.on (j + 1) (tearF D ps), upd D.new j (fun _ => nil0), D.left, D.down⟩ : Dev).new.length := by show j < (upd _ _ _).length; rw [upd_len]; omega
            have k1 := HA.out.1.cel.cell (i := 1) rfl
            have e2 : (⟨upd D.on (j + 1) (tearF D ps), upd D.new j (fun _ => nil0), D.left, D.down⟩ : Dev).new.length = D.on.length := (upd_len _ _ _).trans hlen
            rw [e2] at k1
            obtain ⟨y, xo⟩ : ∃ y, W2.cell? (an.add j) = some (.string y) := ⟨_, HA.out.1.readN ln2⟩
            have xf := HA.out.1.freeN j
            have HA2 := Lib.hid (show RAt (W2.setCell (an.add j) (.string nil0)) g ao an co cn so sn (part D (j + 1) (tearF D ps) D.left D.down) ∧ Fr (RFoot g ao an) (RFoot g ao an) w (W2.setCell (an.add j) (.string nil0)) from by
              refine ⟨?_, HA.out.2.set (foot_n j) _⟩
              have := HA.out.1.setN ln2 nil0
              have e : (upd D.new j (fun _ => nil0)).set j nil0 = upd D.new (j + 1) (fun _ => nil0) := upd_set hlt2 rfl
              simp only at this
              rw [e] at this
              exact this)
            unfold nil0 at HA2
            clear HA e2 ln2
            go_upto_region 3 with fail
            generalize W2.setCell (an.add j) (.string ⟨#[]⟩) = W3 at HA2 ⊢
            clear xo xf k1
            go_wp2_with fail
            go_roundw
            case rel => exact ⟨j + 1, by omega, by rw [HC.out]; rfl, by go_num, HA2.out⟩
            case measure => simp [intOf]; omega
        by_cases hp1 : p = 1
        · subst hp1
          have hmv : m = 64 := by rw [← hm]; rfl
          subst hmv
          clear hm hk hp0
          go_upto_region 14 with fail
          have HTo : Hid (∀ W, (Instr.slice 9 (.string n) none (some (.int .i64 64)) none).run Tryz.prog W = .ok (.string X) W) := Lib.hid (fun W => by rw [HXe.out.1]; exact str_to n 64 (by rw [HXe.out.2.2.1]; omega) 64 rfl W)
          have HFrom : Hid (∀ W, (Instr.slice 9 (.string o) (some (.int .i64 64)) none none).run Tryz.prog W = .ok (.string Y) W) := Lib.hid (fun W => by rw [HXe.out.2.1]; exact str_from o 64 (by rw [HXe.out.2.2.2]; omega) 64 rfl W)
          refine wp_region_said 25 [43, 44, 45, 46, 47, 48, 49, 50, 51, 52, 53, 54, 55, 56, 57, 58, 59, 60, 61, 62, 63, 64, 65, 66, 67]
            [.is (.pointer (some ⟨g, 0, none⟩)), .is (.pointer (some ⟨g, 0, none⟩)), .is (.pointer (some ⟨g, 0, none⟩)), .is (.slice (some ao) D.on.length co), .is (.int .i64 (j : Int)), .is (.pointer (some ⟨g, 0, none⟩)), .is (.pointer (some ⟨g, 0, none⟩)), .is (.pointer (some ⟨g, 1, none⟩)), .is (.slice (some an) D.on.length cn), .is (.int .i64 (j : Int)), .is (.pointer (some (an.add j))), .is (.string n), .is (.int .i64 64), .is (.string X), .is (.pointer (some ⟨g, 0, none⟩)), .is (.pointer (some ⟨g, 0, none⟩)), .is (.pointer (some ⟨g, 0, none⟩)), .is (.slice (some ao) D.on.length co), .is (.int .i64 (j : Int)), .is (.pointer (some (ao.add j))), .is (.string o), .is (.int .i64 64), .is (.string Y), .is (.string (X ++ Y)), .is (.pointer (some (ao.add j)))]
            (fun W => RAt W g ao an co cn so sn (part D j (tearF D ps) D.left D.down) ∧ Fr (RFoot g ao an) (RFoot g ao an) w W) (by kernel_rfl) (by kernel_rfl) (by kernel_rfl) (by kernel_rfl) (by kernel_rfl) (fun W W' h hb => ⟨h.1.step hb, h.2.below hb⟩) hr.out ?stepsc ?lastc
          case stepsc =>
            simp only [List.take_succ_cons, List.take_zero]
            refine ⟨?_, ?_, ?_, ?_, ?_, ?_, ?_, ?_, ?_, ?_, ?_, ?_, ?_, ?_, ?_, ?_, ?_, ?_, ?_, ?_, ?_, ?_, ?_, ?_, ?_, trivial⟩
            all_goals
              intro vs W ρ hρ hc hf hg hI hH hd R' hR
              have z0 := hI.1.cel.cell (i := 0) rfl
              have z1 := hI.1.cel.cell (i := 1) rfl
              rw [Hlo.out] at z0
              rw [Hln.out] at z1
              obtain ⟨zx, zy⟩ := HX.out W hI.1
              have hto := HTo.out
              have hfrom := HFrom.out
              have hxy := HXY.out
              have HR := Lib.hid hR
              simp [depsOf, Region.binds, sayAt, Say.holds] at hd
              clear hR hI k0 k1
              go_simp
              first
                | exact HR.out _ _ (by simp [sayAt, Say.holds]) (Below.refl _ _) (by simp [sayAt, Say.isBlk])
                | trace_state
          case lastc =>
            intro vs W hI hb hg hd
            have e23 := hg 23 (by omega)
            have e24 := hg 24 (by omega)
            simp only [sayAt, Say.holds, List.getD_cons_succ, List.getD_cons_zero] at e23 e24
            simp only [List.take_succ_cons, List.take_zero, List.drop_succ_cons, List.drop_zero, putAll, Act.put, List.setIfInBounds_toArray, List.set_cons_succ, List.set_cons_zero, Nat.zero_add, Nat.reduceAdd]
            rw [e23, e24]
            have xo := (HX.out W hI.1).2
            have xf := hI.1.freeO j
            have HA := Lib.hid (And.intro (HN.out W hI.1) (hI.2.set (foot_o j) (.string (X ++ Y))))
            clear e23 e24 hg hd hb hI k0 k1 HN HX hr
            go_upto_region 15 with fail
            generalize W.setCell (ao.add j) (.string (X ++ Y)) = W2 at HA ⊢
            clear xo xf
            have ln2 : j < (⟨upd D.on (j + 1) (tearF D ps), upd D.new j (fun _ => nil0), D.left, D.down⟩ : Dev).new.length := by show j < (upd _ _ _).length; rw [upd_len]; omega
            have k1 := HA.out.1.cel.cell (i := 1) rfl
            have e2 : (⟨upd D.on (j + 1) (tearF D ps), upd D.new j (fun _ => nil0), D.left, D.down⟩ : Dev).new.length = D.on.length := (upd_len _ _ _).trans hlen
            rw [e2] at k1
            obtain ⟨y, xo⟩ : ∃ y, W2.cell? (an.add j) = some (.string y) := ⟨_, HA.out.1.readN ln2⟩
            have xf := HA.out.1.freeN j
            have HA2 := Lib.hid (show RAt (W2.setCell (an.add j) (.string nil0)) g ao an co cn so sn (part D (j + 1) (tearF D ps) D.left D.down) ∧ Fr (RFoot g ao an) (RFoot g ao an) w (W2.setCell (an.add j) (.string nil0)) from by
              refine ⟨?_, HA.out.2.set (foot_n j) _⟩
              have := HA.out.1.setN ln2 nil0
              have e : (upd D.new j (fun _ => nil0)).set j nil0 = upd D.new (j + 1) (fun _ => nil0) := upd_set hlt2 rfl
              simp only at this
              rw [e] at this
              exact this)
            unfold nil0 at HA2
            clear HA e2 ln2
            go_upto_region 3 with fail
            generalize W2.setCell (an.add j) (.string ⟨#[]⟩) = W3 at HA2 ⊢
            clear xo xf k1
            go_wp2_with fail
            go_roundw
            case rel => exact ⟨j + 1, by omega, by rw [HC.out]; rfl, by go_num, HA2.out⟩
            case measure => simp [intOf]; omega
        obtain ⟨a1, a2, a3⟩ := among_eq p 64 (by omega)
        have e6 : IntKind.i64.wrap (p.tmod 64 + 64) = p.tmod 64 + 64 := by rw [IntKind.wrap_i64]; simp at a2 a3; omega
        have em : (amongV p 64 : Int) = (m : Int) := by
          rw [amongV_emod p 64 (by omega), ← hm]
          unfold cutN
          rw [if_neg hp0, if_neg hp1]
          exact (cut_mod p).1.symm
        rw [em] at a1
        have a4 : (p.tmod 64 + 64).tmod 64 = (m : Int) := by simpa using a1
        clear hm hk em a1 a2 a3
        go_upto_region 14 with fail
        have HTo : Hid (∀ W, (Instr.slice 9 (.string n) none (some (.int .i64 (m : Int))) none).run Tryz.prog W = .ok (.string X) W) := Lib.hid (fun W => by rw [HXe.out.1]; exact str_to n m (by rw [HXe.out.2.2.1]; omega) (m : Int) rfl W)
        have HFrom : Hid (∀ W, (Instr.slice 9 (.string o) (some (.int .i64 (m : Int))) none none).run Tryz.prog W = .ok (.string Y) W) := Lib.hid (fun W => by rw [HXe.out.2.1]; exact str_from o m (by rw [HXe.out.2.2.2]; omega) (m : Int) rfl W)
        refine wp_region_said 25 [43, 44, 45, 46, 47, 48, 49, 50, 51, 52, 53, 54, 55, 56, 57, 58, 59, 60, 61, 62, 63, 64, 65, 66, 67]
          [.is (.pointer (some ⟨g, 0, none⟩)), .is (.pointer (some ⟨g, 0, none⟩)), .is (.pointer (some ⟨g, 0, none⟩)), .is (.slice (some ao) D.on.length co), .is (.int .i64 (j : Int)), .is (.pointer (some ⟨g, 0, none⟩)), .is (.pointer (some ⟨g, 0, none⟩)), .is (.pointer (some ⟨g, 1, none⟩)), .is (.slice (some an) D.on.length cn), .is (.int .i64 (j : Int)), .is (.pointer (some (an.add j))), .is (.string n), .is (.int .i64 (m : Int)), .is (.string X), .is (.pointer (some ⟨g, 0, none⟩)), .is (.pointer (some ⟨g, 0, none⟩)), .is (.pointer (some ⟨g, 0, none⟩)), .is (.slice (some ao) D.on.length co), .is (.int .i64 (j : Int)), .is (.pointer (some (ao.add j))), .is (.string o), .is (.int .i64 (m : Int)), .is (.string Y), .is (.string (X ++ Y)), .is (.pointer (some (ao.add j)))]
          (fun W => RAt W g ao an co cn so sn (part D j (tearF D ps) D.left D.down) ∧ Fr (RFoot g ao an) (RFoot g ao an) w W) (by kernel_rfl) (by kernel_rfl) (by kernel_rfl) (by kernel_rfl) (by kernel_rfl) (fun W W' h hb => ⟨h.1.step hb, h.2.below hb⟩) hr.out ?stepsd ?lastd
        case stepsd =>
          simp only [List.take_succ_cons, List.take_zero]
          refine ⟨?_, ?_, ?_, ?_, ?_, ?_, ?_, ?_, ?_, ?_, ?_, ?_, ?_, ?_, ?_, ?_, ?_, ?_, ?_, ?_, ?_, ?_, ?_, ?_, ?_, trivial⟩
          all_goals
            intro vs W ρ hρ hc hf hg hI hH hd R' hR
            have z0 := hI.1.cel.cell (i := 0) rfl
            have z1 := hI.1.cel.cell (i := 1) rfl
            rw [Hlo.out] at z0
            rw [Hln.out] at z1
            obtain ⟨zx, zy⟩ := HX.out W hI.1
            have hto := HTo.out
            have hfrom := HFrom.out
            have hxy := HXY.out
            have HR := Lib.hid hR
            simp [depsOf, Region.binds, sayAt, Say.holds] at hd
            clear hR hI k0 k1
            go_simp
            first
              | exact HR.out _ _ (by simp [sayAt, Say.holds]) (Below.refl _ _) (by simp [sayAt, Say.isBlk])
              | trace_state
        case lastd =>
          intro vs W hI hb hg hd
          have e23 := hg 23 (by omega)
          have e24 := hg 24 (by omega)
          simp only [sayAt, Say.holds, List.getD_cons_succ, List.getD_cons_zero] at e23 e24
          simp only [List.take_succ_cons, List.take_zero, List.drop_succ_cons, List.drop_zero, putAll, Act.put, List.setIfInBounds_toArray, List.set_cons_succ, List.set_cons_zero, Nat.zero_add, Nat.reduceAdd]
          rw [e23, e24]
          have xo := (HX.out W hI.1).2
          have xf := hI.1.freeO j
          have HA := Lib.hid (And.intro (HN.out W hI.1) (hI.2.set (foot_o j) (.string (X ++ Y))))
          clear e23 e24 hg hd hb hI k0 k1 HN HX hr
          go_upto_region 15 with fail
          generalize W.setCell (ao.add j) (.string (X ++ Y)) = W2 at HA ⊢
          clear xo xf
          have ln2 : j < (⟨upd D.on (j + 1) (tearF D ps), upd D.new j (fun _ => nil0), D.left, D.down⟩ : Dev).new.length := by show j < (upd _ _ _).length; rw [upd_len]; omega
          have k1 := HA.out.1.cel.cell (i := 1) rfl
          have e2 : (⟨upd D.on (j + 1) (tearF D ps), upd D.new j (fun _ => nil0), D.left, D.down⟩ : Dev).new.length = D.on.length := (upd_len _ _ _).trans hlen
          rw [e2] at k1
          obtain ⟨y, xo⟩ : ∃ y, W2.cell? (an.add j) = some (.string y) := ⟨_, HA.out.1.readN ln2⟩
          have xf := HA.out.1.freeN j
          have HA2 := Lib.hid (show RAt (W2.setCell (an.add j) (.string nil0)) g ao an co cn so sn (part D (j + 1) (tearF D ps) D.left D.down) ∧ Fr (RFoot g ao an) (RFoot g ao an) w (W2.setCell (an.add j) (.string nil0)) from by
            refine ⟨?_, HA.out.2.set (foot_n j) _⟩
            have := HA.out.1.setN ln2 nil0
            have e : (upd D.new j (fun _ => nil0)).set j nil0 = upd D.new (j + 1) (fun _ => nil0) := upd_set hlt2 rfl
            simp only at this
            rw [e] at this
            exact this)
          unfold nil0 at HA2
          clear HA e2 ln2
          go_upto_region 3 with fail
          generalize W2.setCell (an.add j) (.string ⟨#[]⟩) = W3 at HA2 ⊢
          clear xo xf k1
          go_wp2_with fail
          go_roundw
          case rel => exact ⟨j + 1, by omega, by rw [HC.out]; rfl, by go_num, HA2.out⟩
          case measure => simp [intOf]; omega
    · obtain rfl : j = D.on.length := by omega
      have HN := Lib.hid (hr.out.1.setLeft 0)
      have HF := Lib.hid (hr.out.2.set (p := ⟨g, 2, none⟩) foot_g (.int .i64 0))
      have kq := fun i => hr.out.1.cel.free (i := i)
      have k2 := hr.out.1.cel.cell (i := 2) rfl
      clear hr lo ln
      go_upto_region 17 with fail
      have e0 : (Value.int .i64 ((0 : Nat) : Int)) = .int .i64 0 := rfl
      rw [e0] at HN
      generalize wr.setCell ⟨g, 2, none⟩ (.int .i64 0) = W2 at HN HF ⊢
      clear kq k2 k0 k1 e0
      have HN2 := Lib.hid (HN.out.setDown false)
      have HF2 := Lib.hid (HF.out.set (p := ⟨g, 3, none⟩) foot_g (.bool false))
      have kq := fun i => HN.out.cel.free (i := i)
      have k3 := HN.out.cel.cell (i := 3) rfl
      clear HN HF
      go_wp2_with fail
      refine bodyPost_end (results_none rfl _ _ _) rfl ?_
      exact ⟨rfl, HN2.out, HF2.out⟩

end

end Sc
end Go.Proofs.YtjehjbkcdpidbaaGreat

/- append onto an empty literal: a row of its own, no old block written; no condition but the range. -/
namespace Go.Proofs.YtjehjbkcdpidbaaGreat
namespace Bk
open Go.RowKit

theorem setRow_same {w : World} {g : Nat} {cs : Array Value} {t : TypeId} {m : Nat × Nat} (h : w.heap[g]? = some (.cells cs t m)) : Below w.heap.size w (w.setRow g cs) :=
  ⟨rfl, rfl, rfl, by simp, fun k hk => by
    by_cases e : k = g
    · subst e; rw [setRow_heap w k cs cs t m h, h]
    · exact setRow_other w g k _ e⟩

theorem run_append_empty {P : Program} (w : World) (base : Nat) (t ty e : TypeId) (i : TypeInfo) (z : Value) (bytes : Nat) (ht : P.underlying t = some (.slice e)) (hi : P.info? e = some i) (hz : i.zero = some z)
    (hsize : i.size = 1) (hby : i.bytes = bytes) (hzs : z.cells.size = 1) (g : Nat) (hg : w.heap[g]? = some (.cells #[] e (0, 0))) (hbg : base ≤ g)
    (A : Option Addr) (m c : Nat) (news : List Value) (hl : news.length = m) (hA : A = none → m = 0 ∧ c = 0) (hnews : ∀ ad, A = some ad → ∀ j u, news[j]? = some u → w.cell? (ad.add j) = some u) (h1 : ∀ u ∈ news, u.oneCell' = true)
    (h63 : m ≤ maxLen) (hbytes : m * bytes ≤ 140737488355328) :
    ∃ v' w', (Builtin.append_ #[t, t] ty #[.slice (some ⟨g, 0, none⟩) 0 0, .slice A m c]).run P w = .ok v' w' ∧ w'.ownsRow base e 1 v' m news ∧ Below w.heap.size w w' ∧ (∃ g' cap, v' = .slice (some ⟨g', 0, none⟩) m cap ∧ (m = 0 → cap = 0)) := by
  have hlt : g < w.heap.size := (Array.getElem?_eq_some_iff.1 hg).1
  have hown : w.ownsRow base e 1 (.slice (some ⟨g, 0, none⟩) 0 0) 0 [] := ⟨rfl, .inr ⟨g, 0, #[], rfl, hbg, hg, Nat.le_refl _, Nat.zero_le _, rfl, rfl⟩⟩
  cases A with
  | none =>
    obtain ⟨rfl, rfl⟩ := hA rfl
    obtain rfl : news = [] := List.eq_nil_of_length_eq_zero hl
    exact ⟨_, _, run_append_owned_none (P := P) w base t ty e i 1 ht hi _ _ _ hown, hown, Below.refl _ _, g, 0, rfl, fun _ => rfl⟩
  | some ad =>
    by_cases hm : m = 0
    · subst hm
      obtain rfl : news = [] := List.eq_nil_of_length_eq_zero hl
      have hr := run_append_room (P := P) w t ty e i ht hi g 0 0 #[] hg ad 0 c [] (by simp) (fun j u h => by simp at h) (fun u h => by simp at h) (by omega) (by simp)
      have he : (List.take (0 * i.size) (#[] : Array Value).toList ++ ([] : List Value) ++ List.drop (0 * i.size + ([] : List Value).length) (#[] : Array Value).toList).toArray = (#[] : Array Value) := by simp
      rw [he] at hr
      refine ⟨_, _, hr, ?_, ?_, g, 0, rfl, fun _ => rfl⟩
      · refine ⟨rfl, .inr ⟨g, 0, #[], rfl, hbg, ?_, Nat.le_refl _, Nat.zero_le _, rfl, rfl⟩⟩
        exact setRow_heap w g _ _ e _ hg
      · exact setRow_same hg
    · have hb2 : (0 + m) * bytes ≤ 140737488355328 := by rw [Nat.zero_add]; exact hbytes
      obtain ⟨v', w', hr, h2, h3, _, _⟩ := run_append_own_at (P := P) w base t ty e i z 1 bytes ht hi hz hsize hby hzs (by decide) _ 0 [] hown ad m c news (by rw [hl, Nat.mul_one]) (hnews ad rfl) h1 (by omega) hb2 (by omega)
      have hr2 := run_append_grow (P := P) w t ty e i z ht hi hz ⟨g, 0, none⟩ 0 0 [] (by simp) (fun j v h => by simp at h) ad m c news (by rw [hl, hsize, Nat.mul_one]) (hnews ad rfl) (by omega) (by unfold maxLen at h63; omega) (growslice_fits (by omega) (by rw [hby]; exact hb2))
      rw [hr] at hr2
      simp only [Result.ok.injEq] at hr2
      obtain ⟨e1, e2⟩ := hr2
      rw [Nat.zero_add, List.nil_append] at h2
      refine ⟨v', w', hr, h2, ?_, w.heap.size, _, by rw [e1, Nat.zero_add], fun h => absurd h hm⟩
      rw [e2]
      exact (Below.refl _ w).drew.alloc (by simp) _

/-- append of a row that may be nil onto an owned row -/
theorem run_append_opt {P : Program} (w : World) (base : Nat) (t ty e : TypeId) (i : TypeInfo) (z : Value) (bytes : Nat) (ht : P.underlying t = some (.slice e)) (hi : P.info? e = some i) (hz : i.zero = some z)
    (hsize : i.size = 1) (hby : i.bytes = bytes) (hzs : z.cells.size = 1) (v : Value) (n : Nat) (xs : List Value) (hown : w.ownsRow base e 1 v n xs)
    (A : Option Addr) (m c : Nat) (news : List Value) (hl : news.length = m) (hA : A = none → m = 0 ∧ c = 0) (hnews : ∀ ad, A = some ad → ∀ j u, news[j]? = some u → w.cell? (ad.add j) = some u) (h1 : ∀ u ∈ news, u.oneCell' = true)
    (h63 : n + m ≤ maxLen) (hbytes : (n + m) * bytes ≤ 140737488355328) (hbase : base ≤ w.heap.size) :
    ∃ v' w', (Builtin.append_ #[t, t] ty #[v, .slice A m c]).run P w = .ok v' w' ∧ w'.ownsRow base e 1 v' (n + m) (xs ++ news) ∧ w.grownBy w' v.ownBlock ∧ (v'.ownBlock = v.ownBlock ∨ v'.ownBlock = some w.heap.size) := by
  cases A with
  | none =>
    obtain ⟨rfl, rfl⟩ := hA rfl
    obtain rfl : news = [] := List.eq_nil_of_length_eq_zero hl
    exact ⟨v, w, run_append_owned_none (P := P) w base t ty e i 1 ht hi _ _ _ hown, by rw [List.append_nil]; exact hown, ⟨rfl, rfl, rfl, Nat.le_refl _, fun _ _ _ => rfl⟩, .inl rfl⟩
  | some ad =>
    obtain ⟨v', w', hr, h2, h3, _, h5⟩ := run_append_own_at (P := P) w base t ty e i z 1 bytes ht hi hz hsize hby hzs (by omega) v n xs hown ad m c news (by omega) (hnews ad rfl) h1 h63 hbytes hbase
    exact ⟨v', w', hr, h2, h3, h5⟩

theorem wpList_append_opt {P : Program} {w : World} {ops : Array Oper} {rest : List Oper} {o : Oper} {a : Act} {Q : Exit → Act → World → Prop} (hgd : o.guard = none) (s x : Operand) (t : TypeId)
    (ho : o.op = .call { callee := .builtin .append, args := #[s, x], argTypes := #[t, t] })
    (base : Nat) (e : TypeId) (i : TypeInfo) (z : Value) (bytes : Nat) (ht : P.underlying t = some (.slice e)) (hi : P.info? e = some i) (hz : i.zero = some z)
    (hsize : i.size = 1) (hby : i.bytes = bytes) (hzs : z.cells.size = 1) (v : Value) (n : Nat) (xs : List Value) (hs : a.eval s = v) (hown : w.ownsRow base e 1 v n xs)
    (A : Option Addr) (m c : Nat) (news : List Value) (hx : a.eval x = .slice A m c) (hl : news.length = m) (hA : A = none → m = 0 ∧ c = 0) (hnews : ∀ ad, A = some ad → ∀ j u, news[j]? = some u → w.cell? (ad.add j) = some u) (h1 : ∀ u ∈ news, u.oneCell' = true)
    (h63 : n + m ≤ maxLen) (hbytes : (n + m) * bytes ≤ 140737488355328) (hbase : base ≤ w.heap.size)
    (h : ∀ v' w', w'.ownsRow base e 1 v' (n + m) (xs ++ news) → w.grownBy w' v.ownBlock → (v'.ownBlock = v.ownBlock ∨ v'.ownBlock = some w.heap.size) → wpList P ops Q rest (a.put o.dst v') w') :
    wpList P ops Q (o :: rest) a w := by
  refine wpList_plain hgd fun K hK => ?_
  obtain ⟨v', w', hr, h2, h3, h5⟩ := run_append_opt (P := P) w base t o.type e i z bytes ht hi hz hsize hby hzs v n xs hown A m c news hl hA hnews h1 h63 hbytes hbase
  unfold Oper.wp execOp
  simp only [ho, resolve, invoke, builtin, Sem.run_bind, Sem.run_pure, Result.andThen_ok, List.map_toArray, List.map_cons, List.map_nil, hs, hx, hr]
  exact hK _ _ (h v' w' h2 h3 h5)

end Bk
end Go.Proofs.YtjehjbkcdpidbaaGreat

/- Onto a row of the call's own one cell is appended at a step of a drawn region: what stands, and what is there; no condition. -/
namespace Go.Proofs.YtjehjbkcdpidbaaGreat
namespace Bk
open Go.RowKit

/-- no old block is written, or the cell is laid behind the row, where there is room -/
def GrK (T : TypeId) (r : Option Nat) (pre : List Value) (u : Value) (W W' : World) : Prop :=
  Below W.heap.size W W' ∨ ∃ (g : Nat) (cur : Array Value), r = some g ∧ W.heap[g]? = some (.cells cur T (0, 0)) ∧ pre.length + 1 ≤ cur.size ∧ cur.toList.take pre.length = pre ∧ W' = W.setRow g (pre ++ [u] ++ cur.toList.drop (pre.length + 1)).toArray

section
variable {T : TypeId} {r : Option Nat} {pre : List Value} {u : Value} {w W W' : World}

theorem GrK.grown (h : GrK T r pre u W W') : W.grownBy W' r := by
  rcases h with h | ⟨g, cur, rfl, _, _, _, rfl⟩
  · exact ⟨h.os, h.tape, h.output, h.size, fun k hk _ => h.block k hk⟩
  · exact ⟨rfl, rfl, rfl, by simp, fun k _ hk => setRow_other W g k _ (fun e => hk (by rw [e]))⟩

theorem GrK.size (h : GrK T r pre u W W') : W.heap.size ≤ W'.heap.size := h.grown.size

theorem GrK.below {X : Nat} (h : Below X w W) (hX : X ≤ W.heap.size) (hr : ∀ g, r = some g → X ≤ g) (hk : GrK T r pre u W W') : Below X w W' := h.grown hk.grown hX hr

theorem GrK.cel {k : Nat} {t : TypeId} {xs : List Value} (h : Cel W k t xs) (hn : r ≠ some k) (hk : GrK T r pre u W W') : Cel W' k t xs := (hk.grown.block k h.lt (fun e => hn e.symm)).trans h

theorem GrK.blk {k : Nat} {o : Obj} (h : W.heap[k]? = some o) (hn : r ≠ some k) (hk : GrK T r pre u W W') : W'.heap[k]? = some o := (hk.grown.block k (Array.getElem?_eq_some_iff.1 h).1 (fun e => hn e.symm)).trans h

/-- the row, ahead of it -/
theorem GrK.first {H n : Nat} {v : Value} (h : W.ownsRow H T 1 v n pre) (hk : GrK T r pre u W W') : W'.ownsRow H T 1 v n pre := by
  rcases hk with hb | ⟨g, cur, rfl, hg, hz, ht, rfl⟩
  · exact st_keep h hb
  · refine ⟨h.1, ?_⟩
    rcases h.2 with h' | ⟨g2, cap2, cur2, hv, hH, hg2, h1, h2, h3, h4⟩
    · exact .inl h'
    · right
      by_cases e : g2 = g
      · subst e
        rw [hg] at hg2
        simp only [Option.some.injEq, Obj.cells.injEq, and_true] at hg2
        obtain rfl := hg2
        refine ⟨g2, cap2, _, hv, hH, setRow_heap W g2 _ _ T _ hg, h1, h2, ?_, ?_⟩
        · rw [← h3]
          simp only [List.size_toArray, List.length_append, List.length_drop, Array.length_toList, List.length_singleton]
          omega
        · rw [List.toList_toArray, List.append_assoc]
          have hl : pre.length = n * 1 := h.1
          rw [List.take_append_of_le_length (by omega), List.take_of_length_le (by omega)]
      · exact ⟨g2, cap2, cur2, hv, hH, (setRow_other W g g2 _ e).trans hg2, h1, h2, h3, h4⟩

/-- the row that has grown, wherever it lies -/
theorem GrK.more {H n : Nat} {v : Value} (h : W.ownsRow H T 1 v n (pre ++ [u])) (hk : GrK T r pre u W W') : W'.ownsRow H T 1 v n (pre ++ [u]) := by
  rcases hk with hb | ⟨g, cur, rfl, hg, hz, ht, rfl⟩
  · exact st_keep h hb
  · refine ⟨h.1, ?_⟩
    rcases h.2 with h' | ⟨g2, cap2, cur2, hv, hH, hg2, h1, h2, h3, h4⟩
    · exact .inl h'
    · right
      by_cases e : g2 = g
      · subst e
        rw [hg] at hg2
        simp only [Option.some.injEq, Obj.cells.injEq, and_true] at hg2
        obtain rfl := hg2
        refine ⟨g2, cap2, _, hv, hH, setRow_heap W g2 _ _ T _ hg, h1, h2, ?_, ?_⟩
        · rw [← h3]
          simp only [List.size_toArray, List.length_append, List.length_drop, Array.length_toList, List.length_singleton]
          omega
        · rw [List.toList_toArray]
          have hl : (pre ++ [u]).length = n * 1 := h.1
          rw [List.take_append_of_le_length (by omega), List.take_of_length_le (by omega)]
      · exact ⟨g2, cap2, cur2, hv, hH, (setRow_other W g g2 _ e).trans hg2, h1, h2, h3, h4⟩

theorem grown_none (h : W.grownBy W' none) : Below W.heap.size W W' := ⟨h.os, h.tape, h.output, h.size, fun k hk => h.block k hk (by simp)⟩

/-- one cell is appended -/
theorem run_grow1 {P : Program} {H bytes o : Nat} {t ty : TypeId} {i : TypeInfo} {z v : Value} (ht : P.underlying t = some (.slice T)) (hi : P.info? T = some i) (hz : i.zero = some z) (hsize : i.size = 1) (hby : i.bytes = bytes) (hzs : z.cells.size = 1)
    (hown : W.ownsRow H T 1 v pre.length pre) (hr : r = v.ownBlock) (ho : W.heap[o]? = some (.cells #[u] T (0, 0))) (h1 : u.oneCell' = true)
    (h63 : pre.length + 1 ≤ maxLen) (hbytes : (pre.length + 1) * bytes ≤ 140737488355328) (hbase : H ≤ W.heap.size) :
    ∃ v' W', (Builtin.append_ #[t, t] ty #[v, .slice (some ⟨o, 0, none⟩) 1 1]).run P W = .ok v' W' ∧ W'.ownsRow H T 1 v' (pre.length + 1) (pre ++ [u]) ∧ GrK T r pre u W W' ∧ (v'.ownBlock = r ∨ v'.ownBlock = some W.heap.size) := by
  subst hr
  obtain ⟨v', w', hrun, h2, h3, _, h5⟩ := run_append_own_at (P := P) W H t ty T i z 1 bytes ht hi hz hsize hby hzs (by decide) v pre.length pre hown ⟨o, 0, none⟩ 1 1 [u] rfl (str_one ho) (fun q hq => by simp at hq; subst hq; exact h1) h63 hbytes hbase
  refine ⟨v', w', hrun, h2, ?_, h5⟩
  rcases hown.2 with ⟨h', h''⟩ | ⟨g, cap, cur, hv, hbg, hg, hnc, hcm, hcs, htake⟩
  · subst h'
    exact .inl (grown_none h3)
  · subst hv
    by_cases hroom : pre.length + 1 ≤ cap
    · have hr2 := run_append_room (P := P) W t ty T i ht hi g pre.length cap cur hg ⟨o, 0, none⟩ 1 1 [u] (by rw [hsize]; rfl) (str_one ho) (fun q hq => by simp at hq; subst hq; exact h1) hroom (by rw [hsize]; simp; omega)
      rw [hrun] at hr2
      simp only [Result.ok.injEq] at hr2
      refine .inr ⟨g, cur, rfl, hg, by omega, by rw [Nat.mul_one] at htake; exact htake, ?_⟩
      rw [hr2.2, hsize, Nat.mul_one]
      rw [Nat.mul_one] at htake
      rw [htake]; rfl
    · have hr2 := run_append_grow (P := P) W t ty T i z ht hi hz ⟨g, 0, none⟩ pre.length cap pre (by rw [hsize, Nat.mul_one]) (hown.cells (g := g) rfl) ⟨o, 0, none⟩ 1 1 [u] (by rw [hsize]; rfl) (str_one ho) (by omega) (by unfold maxLen at h63; omega) (growslice_fits (by unfold maxLen at h63; omega) (by rw [hby]; exact hbytes))
      rw [hrun] at hr2
      simp only [Result.ok.injEq] at hr2
      left
      rw [hr2.2]
      exact (Below.refl _ W).drew.alloc (by simp) _

theorem satK_of {K : World → World → Prop} {L : List (Value → World → Prop)} (h : ∀ S ∈ L, ∀ v W W', S v W → K W W' → S v W') : ∀ i v W W', satK L i v W → K W W' → satK L i v W' := fun i v W W' hs hk => by
  unfold satK at hs ⊢
  rw [List.getD_eq_getElem?_getD] at hs ⊢
  cases e : L[i]? with
  | none => trivial
  | some S =>
    rw [e] at hs
    exact h S (List.mem_of_getElem? e) v W W' hs hk

end

end Bk
end Go.Proofs.YtjehjbkcdpidbaaGreat
