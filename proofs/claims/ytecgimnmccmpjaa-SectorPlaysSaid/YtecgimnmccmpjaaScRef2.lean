/- What the document's device answers to Flush; contract; no condition but the range. -/
import Derived.Test.YtecgimnmccmpjaaScRef1
namespace Go.Proofs.Ytecgimnmccmpjaa
namespace Sc
open Go.RowKit Bk

attribute [local go_sem ↓] Go.wp_at_zero Go.wp_at_succ
attribute [local go_sem] floatUpon pick

theorem text_no {n : ByteArray} (hn : n ≠ nil0) : ¬ n.toList = [] ∧ n.toList.isEmpty = false ∧ (n.toList == (⟨#[]⟩ : ByteArray).toList) = false := by
  have t0 := text_ne hn
  have t1 : ¬ n.toList = [] := fun h => hn (by
    rw [ByteArray.toList_eq] at h
    obtain ⟨a⟩ := n
    unfold nil0
    congr 1
    exact Array.toList_inj.1 h)
  exact ⟨t1, by rw [List.isEmpty_eq_false_iff]; exact t1, t0⟩

/-- a device of which the first j sectors are done -/
def part (D : Dev) (j : Nat) (f : Nat → ByteArray) (l : Nat) (b : Bool) : Dev := ⟨upd D.on j f, upd D.new j (fun _ => nil0), l, b⟩

theorem part_zero (D : Dev) (f : Nat → ByteArray) (l : Nat) (b : Bool) : part D 0 f l b = ⟨D.on, D.new, l, b⟩ := by unfold part; rw [upd_zero, upd_zero]

theorem upd_here {l : List ByteArray} {j : Nat} {f : Nat → ByteArray} (h : j < l.length) (h' : j < (upd l j f).length) : (upd l j f)[j] = l[j] := by
  rw [upd_at h' h, if_neg (Nat.lt_irrefl _)]

section
variable {w : World} {g : Nat} {ao an : Addr} {co cn : Nat} {so sn : List Value} {D : Dev}

set_option maxRecDepth 20000 in
set_option maxHeartbeats 4000000 in
theorem rflush_any (h : RAt w g ao an co cn so sn D) (hok : DevOk D) :
    Calls Try.prog 26 #[.pointer (some ⟨g, 0, none⟩)] w fun e w' => e = .returned (.int .i64 (flD D).2) ∧ RAt w' g ao an co cn so sn (flD D).1 ∧ Fr (RFoot g ao an) (RFoot g ao an) w w' := by
  have HBn := Lib.hid (rburns_any h hok)
  have k3 := h.cel.cell (i := 3) rfl
  have H := Lib.hid h
  by_cases hd : D.down = true
  · have E := Lib.hid (show flD D = (D, 90) from by unfold flD; rw [if_pos hd])
    rw [hd] at k3
    clear h hd hok
    go_enter Try.func26, Try.ntmps26
    go_wp2_with fail
    go_ret
    exact ⟨by rw [E.out]; rfl, by rw [E.out]; exact H.out, Fr.refl _ _⟩
  have hd' : D.down = false := by simpa using hd
  rw [hd'] at k3
  have ew : flD D = if (burn D).2 = true then ((burn D).1, 90) else (⟨upd D.on D.on.length (flushF D), upd D.new D.on.length (fun _ => nil0), (burn D).1.left, (burn D).1.down⟩, 0) := by
    unfold flD; rw [if_neg hd]
  obtain ⟨b1, b2, b3⟩ := burn_parts D
  have hlen := hok.len
  have hmx := hok.max
  generalize burn D = Q at HBn ew b1 b2
  obtain ⟨D1, bb⟩ := Q
  simp only at HBn ew b1 b2
  cases bb with
  | true =>
    have E := Lib.hid (show flD D = (D1, 90) from by rw [ew, if_pos rfl])
    clear h hok ew hd hd'
    go_enter Try.func26, Try.ntmps26
    go_wp2_with fail
    refine HBn.out.mono ?_
    rintro e w2 ⟨rfl, hb⟩
    have HB := Lib.hid hb
    clear hb
    go_wp2_with fail
    go_ret
    exact ⟨by rw [E.out]; rfl, by rw [E.out]; exact HB.out.1, HB.out.2⟩
  | false =>
    have E := Lib.hid (show flD D = (part D D.on.length (flushF D) D1.left D1.down, 0) from by rw [ew, if_neg (by simp)]; rfl)
    have HBs := Lib.hid (And.intro b1 b2)
    clear h hok ew hd hd' b1 b2 b3
    go_enter Try.func26, Try.ntmps26
    go_wp2_with fail
    refine HBn.out.mono ?_
    rintro e w2 ⟨rfl, hb⟩
    have HB := Lib.hid (show RAt w2 g ao an co cn so sn (part D 0 (flushF D) D1.left D1.down) ∧ Fr (RFoot g ao an) (RFoot g ao an) w w2 from by
      rw [part_zero, ← HBs.out.1, ← HBs.out.2]; exact hb)
    clear hb k3 HBn
    go_wp2_with fail
    go_loopw [3] (fun i wr => ∃ j : Nat, j ≤ D.on.length ∧ i = .int .i64 (j : Int) ∧ Hid (RAt wr g ao an co cn so sn (part D j (flushF D) D1.left D1.down) ∧ Fr (RFoot g ao an) (RFoot g ao an) w wr)) (fun i _ => D.on.length - (intOf i).toNat)
    case atStart => exact ⟨0, by omega, rfl, HB.out⟩
    case round =>
      obtain ⟨j, hj, rfl, hr⟩ := hrel
      clear HB
      have lo : (part D j (flushF D) D1.left D1.down).on.length = D.on.length := upd_len _ _ _
      have ln : (part D j (flushF D) D1.left D1.down).new.length = D.on.length := (upd_len _ _ _).trans hlen
      have k0 := hr.out.1.cel.cell (i := 0) rfl
      have k1 := hr.out.1.cel.cell (i := 1) rfl
      rw [lo] at k0
      rw [ln] at k1
      by_cases hlt : j < D.on.length
      · have pj : (j : Int) < (D.on.length : Int) := by omega
        have hlt2 : j < D.new.length := by omega
        have x1 := hr.out.1.readN (i := j) (by rw [ln]; exact hlt)
        have e1 : (part D j (flushF D) D1.left D1.down).new[j]'(by rw [ln]; exact hlt) = D.new[j] := upd_here hlt2 _
        rw [e1] at x1
        have hf : flushF D j = if D.new[j] = nil0 then D.on[j] else D.new[j] := by unfold flushF; rw [getD_at hlt, getD_at hlt2]
        obtain ⟨n, hn'⟩ : ∃ n, n = D.new[j] := ⟨_, rfl⟩
        rw [← hn'] at x1 hf
        by_cases hn : n = nil0
        · rw [if_pos hn] at hf
          have HN := Lib.hid (show RAt wr g ao an co cn so sn (part D (j + 1) (flushF D) D1.left D1.down) ∧ Fr (RFoot g ao an) (RFoot g ao an) w wr from by
            have : part D (j + 1) (flushF D) D1.left D1.down = part D j (flushF D) D1.left D1.down := by
              unfold part
              rw [upd_same hlt hf, upd_same hlt2 (by rw [← hn', hn])]
            rw [this]; exact hr.out)
          subst hn
          have t0 := text_eq nil0
          unfold nil0 at t0 x1
          clear hr hf hn' e1 lo ln
          go_wp2_with fail
          go_roundw
          case rel => exact ⟨j + 1, by omega, by go_num, HN.out⟩
          case measure => simp [intOf]; omega
        · rw [if_neg hn] at hf
          obtain ⟨t1, t2, t0⟩ := text_no hn
          have HN := Lib.hid (fun W (hW : RAt W g ao an co cn so sn (part D j (flushF D) D1.left D1.down)) => show RAt (W.setCell (ao.add j) (.string n)) g ao an co cn so sn ⟨upd D.on (j + 1) (flushF D), upd D.new j (fun _ => nil0), D1.left, D1.down⟩ from by
            have := hW.setO (i := j) (by rw [lo]; exact hlt) n
            have e : (part D j (flushF D) D1.left D1.down).on.set j n = upd D.on (j + 1) (flushF D) := upd_set hlt hf.symm
            rw [e] at this
            exact this)
          have HX := Lib.hid (fun W (hW : RAt W g ao an co cn so sn (part D j (flushF D) D1.left D1.down)) => show W.cell? (an.add j) = some (.string n) from by
            have := hW.readN (i := j) (by rw [ln]; exact hlt)
            rw [e1, ← hn'] at this
            exact this)
          have Hln := Lib.hid ln
          have Hlo := Lib.hid lo
          clear hf hn hn' e1 lo ln
          go_upto_region 7 with fail
          refine wp_region_said 13 [29, 30, 31, 32, 33, 34, 35, 36, 37, 38, 39, 40, 41]
            [.is (.pointer (some ⟨g, 0, none⟩)), .is (.pointer (some ⟨g, 0, none⟩)), .is (.pointer (some ⟨g, 0, none⟩)), .is (.slice (some ao) D.on.length co), .is (.int .i64 (j : Int)), .is (.pointer (some ⟨g, 0, none⟩)), .is (.pointer (some ⟨g, 0, none⟩)), .is (.pointer (some ⟨g, 1, none⟩)), .is (.slice (some an) D.on.length cn), .is (.int .i64 (j : Int)), .is (.pointer (some (an.add j))), .is (.string n), .is (.pointer (some (ao.add j)))]
            (fun W => RAt W g ao an co cn so sn (part D j (flushF D) D1.left D1.down) ∧ Fr (RFoot g ao an) (RFoot g ao an) w W) (by kernel_rfl) (by kernel_rfl) (by kernel_rfl) (by kernel_rfl) (by kernel_rfl) (fun W W' h hb => ⟨h.1.step hb, h.2.below hb⟩) hr.out ?steps7 ?last7
          case steps7 =>
            simp only [List.take_succ_cons, List.take_zero]
            refine ⟨?_, ?_, ?_, ?_, ?_, ?_, ?_, ?_, ?_, ?_, ?_, ?_, ?_, trivial⟩
            all_goals
              intro vs W ρ hρ hc hf hg hI hH hd R' hR
              have z0 := hI.1.cel.cell (i := 0) rfl
              have z1 := hI.1.cel.cell (i := 1) rfl
              rw [Hlo.out] at z0
              rw [Hln.out] at z1
              have zx := HX.out W hI.1
              have HR := Lib.hid hR
              simp [depsOf, Region.binds, sayAt, Say.holds] at hd
              clear hR hI k0 k1 x1
              go_simp
              first
                | exact HR.out _ _ (by simp [sayAt, Say.holds]) (Below.refl _ _) (by simp [sayAt, Say.isBlk])
                | trace_state
          case last7 =>
            intro vs W hI hb hg hd
            have e11 := hg 11 (by omega)
            have e12 := hg 12 (by omega)
            simp only [sayAt, Say.holds, List.getD_cons_succ, List.getD_cons_zero] at e11 e12
            simp only [List.take_succ_cons, List.take_zero, List.drop_succ_cons, List.drop_zero, putAll, Act.put, List.setIfInBounds_toArray, List.set_cons_succ, List.set_cons_zero, Nat.zero_add, Nat.reduceAdd]
            rw [e11, e12]
            have xo := hI.1.readO (i := j) (by rw [Hlo.out]; exact hlt)
            have xf := hI.1.freeO j
            have HA := Lib.hid (And.intro (HN.out W hI.1) (hI.2.set (foot_o j) (.string n)))
            clear e11 e12 hg hd hb hI k0 k1 x1 HN HX hr
            go_upto_region 8 with fail
            generalize W.setCell (ao.add j) (.string n) = W2 at HA ⊢
            clear xo xf
            have ln2 : j < (⟨upd D.on (j + 1) (flushF D), upd D.new j (fun _ => nil0), D1.left, D1.down⟩ : Dev).new.length := by show j < (upd _ _ _).length; rw [upd_len]; omega
            have k1 := HA.out.1.cel.cell (i := 1) rfl
            have e2 : (⟨upd D.on (j + 1) (flushF D), upd D.new j (fun _ => nil0), D1.left, D1.down⟩ : Dev).new.length = D.on.length := (upd_len _ _ _).trans hlen
            rw [e2] at k1
            obtain ⟨y, xo⟩ : ∃ y, W2.cell? (an.add j) = some (.string y) := ⟨_, HA.out.1.readN ln2⟩
            have xf := HA.out.1.freeN j
            have HA2 := Lib.hid (show RAt (W2.setCell (an.add j) (.string nil0)) g ao an co cn so sn (part D (j + 1) (flushF D) D1.left D1.down) ∧ Fr (RFoot g ao an) (RFoot g ao an) w (W2.setCell (an.add j) (.string nil0)) from by
              refine ⟨?_, HA.out.2.set (foot_n j) _⟩
              have := HA.out.1.setN ln2 nil0
              have e : (upd D.new j (fun _ => nil0)).set j nil0 = upd D.new (j + 1) (fun _ => nil0) := upd_set hlt2 rfl
              simp only at this
              rw [e] at this
              exact this)
            unfold nil0 at HA2
            clear HA e2 ln2
            go_upto_region 5 with fail
            generalize W2.setCell (an.add j) (.string ⟨#[]⟩) = W3 at HA2 ⊢
            clear xo xf k1
            go_wp2_with fail
            go_roundw
            case rel => exact ⟨j + 1, by omega, by go_num, HA2.out⟩
            case measure => simp [intOf]; omega
      · obtain rfl : j = D.on.length := by omega
        have HN := hr
        clear hr lo ln
        go_wp2_with fail
        go_ret
        exact ⟨by rw [E.out]; rfl, by rw [E.out]; exact HN.out.1, HN.out.2⟩

end

end Sc
end Go.Proofs.Ytecgimnmccmpjaa
