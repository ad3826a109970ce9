/- What the document's device answers to Read, burns, Fuse, Write and Dirty; contracts; no condition but the range. -/
import Derived.Test.YtecgimnmccmpjaaScNone
import Derived.Test.YtecgimnmccmpjaaFloatK
namespace Go.Proofs.Ytecgimnmccmpjaa
namespace Sc
open Go.RowKit Bk

attribute [local go_sem ↓] Go.wp_at_zero Go.wp_at_succ
attribute [local go_sem] floatUpon pick

section
variable {w : World} {g : Nat} {ao an : Addr} {co cn : Nat} {so sn : List Value} {D : Dev}

set_option maxRecDepth 20000 in
set_option maxHeartbeats 2000000 in
theorem rread_any (h : RAt w g ao an co cn so sn D) (hok : DevOk D) (i : Int) :
    Calls Try.prog 25 #[.pointer (some ⟨g, 0, none⟩), .int .i64 i] w fun e w' => e = .returned (.tuple #[.string (rdV D i).1, .int .i64 (rdV D i).2]) ∧ w' = w := by
  have k0 := h.cel.cell (i := 0) rfl
  have k1 := h.cel.cell (i := 1) rfl
  have k3 := h.cel.cell (i := 3) rfl
  have pl : (D.on.length : Int) ≤ 2048 := by have := hok.max; omega
  have hln := hok.len
  by_cases hd : D.down = true
  · rw [hd] at k3
    have E := Lib.hid (show rdV D i = (nil0, 90) from by unfold rdV; rw [if_pos hd])
    clear hd h hok hln
    go_enter Try.func25, Try.ntmps25
    go_wp2_with fail
    go_ret2
    exact ⟨by rw [E.out]; rfl, rfl⟩
  have hd' : D.down = false := by simpa using hd
  rw [hd'] at k3
  by_cases h0 : i < 0
  · have E := Lib.hid (show rdV D i = (nil0, 1) from by unfold rdV; rw [if_neg hd, if_pos (.inl h0)])
    clear hd h hok hln hd'
    go_enter Try.func25, Try.ntmps25
    go_wp2_with fail
    go_ret2
    exact ⟨by rw [E.out]; rfl, rfl⟩
  by_cases h1 : (D.on.length : Int) ≤ i
  · have E := Lib.hid (show rdV D i = (nil0, 1) from by unfold rdV; rw [if_neg hd, if_pos (.inr h1)])
    clear hd h hok hln hd'
    go_enter Try.func25, Try.ntmps25
    go_wp2_with fail
    go_ret2
    exact ⟨by rw [E.out]; rfl, rfl⟩
  obtain ⟨j, rfl⟩ : ∃ j : Nat, i = (j : Int) := ⟨i.toNat, by omega⟩
  have hj : j < D.on.length := by omega
  have hj2 : j < D.new.length := by omega
  have pj : (j : Int) < (D.on.length : Int) := by omega
  have pj2 : (j : Int) < (D.new.length : Int) := by omega
  have x0 := h.readO hj
  have x1 := h.readN hj2
  have hr : rdV D (j : Int) = (if D.new.getD j nil0 = nil0 then D.on.getD j nil0 else D.new.getD j nil0, 0) := by
    unfold rdV
    rw [if_neg hd, if_neg (by omega), Int.toNat_natCast]
  rw [getD_at hj, getD_at hj2] at hr
  generalize D.on[j] = o at x0 hr
  generalize D.new[j] = n at x1 hr
  clear hd hd' h hok h0 h1
  by_cases hn : n = nil0
  · subst hn
    have E := Lib.hid (show rdV D (j : Int) = (o, 0) from by rw [hr, if_pos rfl])
    have t0 := text_eq nil0
    unfold nil0 at t0 x1
    clear hr
    go_enter Try.func25, Try.ntmps25
    go_wp2_with fail
    go_ret2
    exact ⟨by rw [E.out]; rfl, rfl⟩
  · have E := Lib.hid (show rdV D (j : Int) = (n, 0) from by rw [hr, if_neg hn])
    have t0 := text_ne hn
    have t1 : ¬ n.toList = [] := fun h => hn (by
      rw [ByteArray.toList_eq] at h
      obtain ⟨a⟩ := n
      unfold nil0
      congr 1
      exact Array.toList_inj.1 h)
    have t2 : n.toList.isEmpty = false := by rw [List.isEmpty_eq_false_iff]; exact t1
    unfold nil0 at t0
    clear hr hn
    go_enter Try.func25, Try.ntmps25
    go_wp2_with fail
    go_ret2
    exact ⟨by rw [E.out]; rfl, rfl⟩

set_option maxRecDepth 20000 in
set_option maxHeartbeats 2000000 in
theorem rburns_any (h : RAt w g ao an co cn so sn D) (hok : DevOk D) :
    Calls Try.prog 43 #[.pointer (some ⟨g, 0, none⟩)] w fun e w' => e = .returned (.bool (burn D).2) ∧ RAt w' g ao an co cn so sn (burn D).1 ∧ Fr (RFoot g ao an) (RFoot g ao an) w w' := by
  have k2 := h.cel.cell (i := 2) rfl
  have hlf := hok.lft
  by_cases h0 : D.left = 0
  · rw [h0] at k2
    have E := Lib.hid (show burn D = (D, false) from by unfold burn; rw [if_pos h0])
    have H := Lib.hid h
    clear h h0 hok hlf
    go_enter Try.func43, Try.ntmps43
    go_wp2_with fail
    go_ret
    exact ⟨by rw [E.out]; rfl, by rw [E.out]; exact H.out, Fr.refl _ _⟩
  · obtain ⟨m, hm⟩ : ∃ m, D.left = m + 1 := ⟨D.left - 1, by omega⟩
    have E := Lib.hid (show burn D = (⟨D.on, D.new, m, D.left == 1⟩, D.left == 1) from by unfold burn; rw [if_neg h0, hm, Nat.add_sub_cancel])
    rw [hm] at E
    have e1 : (m + 1 == 1) = ((m : Int) == 0) := by rw [Bool.eq_iff_iff]; simp
    rw [e1] at E
    have kq := fun i => h.cel.free (i := i)
    have hA := h.setLeft m
    have hF := (Fr.refl (RFoot g ao an) w).set (p := ⟨g, 2, none⟩) foot_g (.int .i64 (m : Int))
    rw [hm] at k2
    have k2' : w.cell? ⟨g, 2, none⟩ = some (.int .i64 ((m : Int) + 1)) := by rw [k2]; rfl
    have pm : (m : Int) < 1048576 := by omega
    have w1 : IntKind.i64.wrap ((m : Int) + 1 - 1) = (m : Int) := by rw [Int.add_sub_cancel]; exact i64_wrap (by omega) (by omega)
    have w2 : (m : Int) + 1 - 1 = (m : Int) := by omega
    have q0 : ((m : Int) + 1 == 0) = false := by simp; omega
    have HA := Lib.hid hA
    have HF := Lib.hid hF
    clear h hok hA hF hm h0 k2 hlf e1
    go_enter Try.func43, Try.ntmps43
    go_upto_region 4 with fail
    try simp only [w2, w1]
    generalize w.setCell ⟨g, 2, none⟩ (.int .i64 (m : Int)) = W1 at HA HF ⊢
    clear kq k2' w1 w2 q0
    have k2 := HA.out.cel.cell (i := 2) rfl
    have k3 := HA.out.cel.cell (i := 3) rfl
    have kq := fun i => HA.out.cel.free (i := i)
    have HA2 := Lib.hid (HA.out.setDown ((m : Int) == 0))
    have HF2 := Lib.hid (HF.out.set (p := ⟨g, 3, none⟩) foot_g (.bool ((m : Int) == 0)))
    obtain ⟨b, hb⟩ : ∃ b, ((m : Int) == 0) = b := ⟨_, rfl⟩
    rw [hb] at E HA2 HF2
    clear HA HF
    go_upto_region 5 with fail
    generalize W1.setCell ⟨g, 3, none⟩ (.bool b) = W2 at HA2 HF2 ⊢
    clear kq k2 k3 hb
    have k3 := HA2.out.cel.cell (i := 3) rfl
    go_wp2_with fail
    go_ret
    exact ⟨by rw [E.out]; rfl, by rw [E.out]; exact HA2.out, HF2.out⟩

set_option maxRecDepth 20000 in
set_option maxHeartbeats 2000000 in
theorem rfuse_any (h : RAt w g ao an co cn so sn D) (n : Int) :
    Calls Try.prog 27 #[.pointer (some ⟨g, 0, none⟩), .int .i64 n] w fun e w' => e = .returned (.int .i64 (fuD D n).2) ∧ RAt w' g ao an co cn so sn (fuD D n).1 ∧ Fr (RFoot g ao an) (RFoot g ao an) w w' := by
  have k2 := h.cel.cell (i := 2) rfl
  have k3 := h.cel.cell (i := 3) rfl
  by_cases hd : D.down = true
  · have E := Lib.hid (show fuD D n = (D, 90) from by unfold fuD; rw [if_pos hd])
    rw [hd] at k3
    have H := Lib.hid h
    clear h hd
    go_enter Try.func27, Try.ntmps27
    go_wp2_with fail
    go_ret
    exact ⟨by rw [E.out]; rfl, by rw [E.out]; exact H.out, Fr.refl _ _⟩
  have hd' : D.down = false := by simpa using hd
  rw [hd'] at k3
  by_cases h0 : n < 0
  · have E := Lib.hid (show fuD D n = (D, 1) from by unfold fuD; rw [if_neg hd, if_pos (.inl h0)])
    have H := Lib.hid h
    clear h hd hd'
    go_enter Try.func27, Try.ntmps27
    go_wp2_with fail
    go_ret
    exact ⟨by rw [E.out]; rfl, by rw [E.out]; exact H.out, Fr.refl _ _⟩
  by_cases h1 : 1048576 < n
  · have E := Lib.hid (show fuD D n = (D, 1) from by unfold fuD; rw [if_neg hd, if_pos (.inr h1)])
    have H := Lib.hid h
    clear h hd hd'
    go_enter Try.func27, Try.ntmps27
    go_wp2_with fail
    go_ret
    exact ⟨by rw [E.out]; rfl, by rw [E.out]; exact H.out, Fr.refl _ _⟩
  obtain ⟨m, rfl⟩ : ∃ m : Nat, n = (m : Int) := ⟨n.toNat, by omega⟩
  have E := Lib.hid (show fuD D (m : Int) = (⟨D.on, D.new, m, D.down⟩, 0) from by unfold fuD; rw [if_neg hd, if_neg (by omega), Int.toNat_natCast])
  have kq := fun i => h.cel.free (i := i)
  have H := Lib.hid (And.intro (h.setLeft m) ((Fr.refl (RFoot g ao an) w).set (p := ⟨g, 2, none⟩) foot_g (.int .i64 (m : Int))))
  clear h hd hd'
  go_enter Try.func27, Try.ntmps27
  go_wp2_with fail
  go_ret
  exact ⟨by rw [E.out]; rfl, by rw [E.out]; exact H.out.1, H.out.2⟩

set_option maxRecDepth 20000 in
set_option maxHeartbeats 2000000 in
theorem rwrite_any (h : RAt w g ao an co cn so sn D) (hok : DevOk D) (i : Int) (t : ByteArray) :
    Calls Try.prog 24 #[.pointer (some ⟨g, 0, none⟩), .int .i64 i, .string t] w fun e w' => e = .returned (.int .i64 (wrD D i t).2) ∧ RAt w' g ao an co cn so sn (wrD D i t).1 ∧ Fr (RFoot g ao an) (RFoot g ao an) w w' := by
  have HR := Lib.hid (rread_any h hok i)
  have HBn := Lib.hid (rburns_any h hok)
  have H := Lib.hid h
  by_cases hr : (rdV D i).2 = 0
  case neg =>
    have E := Lib.hid (show wrD D i t = (D, (rdV D i).2) from by unfold wrD; rw [if_pos hr])
    have q0 : ((rdV D i).2 != 0) = true := by simpa using hr
    generalize (rdV D i).2 = z at HR E q0
    generalize (rdV D i).1 = y at HR
    clear h hok hr
    go_enter Try.func24, Try.ntmps24
    go_wp2_with fail
    refine HR.out.mono ?_
    rintro e w1 ⟨rfl, rfl⟩
    go_wp2_with fail
    go_ret
    exact ⟨by rw [E.out]; rfl, by rw [E.out]; exact H.out, Fr.refl _ _⟩
  have hi : D.down = false ∧ 0 ≤ i ∧ i < (D.on.length : Int) := by
    unfold rdV at hr
    split at hr
    · cases hr
    split at hr
    · cases hr
    next h1 h2 => exact ⟨by simpa using h1, by omega, by omega⟩
  obtain ⟨hd, hi0, hi1⟩ := hi
  by_cases hz : t.size = 64
  case neg =>
    have E := Lib.hid (show wrD D i t = (D, 3) from by unfold wrD; rw [if_neg (by simpa using hr), if_pos hz])
    have pz : ((t.size : Int) != 64) = true := by simp; omega
    rw [hr] at HR
    generalize (rdV D i).1 = y at HR
    clear h hok hr hz
    go_enter Try.func24, Try.ntmps24
    go_wp2_with fail
    refine HR.out.mono ?_
    rintro e w1 ⟨rfl, rfl⟩
    go_wp2_with fail
    go_ret
    exact ⟨by rw [E.out]; rfl, by rw [E.out]; exact H.out, Fr.refl _ _⟩
  have pz : (t.size : Int) = 64 := by omega
  have ew : wrD D i t = if (burn D).2 = true then ((burn D).1, 90) else (⟨D.on, D.new.set i.toNat t, (burn D).1.left, (burn D).1.down⟩, 0) := by
    unfold wrD; rw [if_neg (by simpa using hr), if_neg (by simpa using hz)]
  rw [hr] at HR
  generalize (rdV D i).1 = y at HR
  obtain ⟨b1, b2, b3⟩ := burn_parts D
  obtain ⟨j, rfl⟩ : ∃ j : Nat, i = (j : Int) := ⟨i.toNat, by omega⟩
  rw [Int.toNat_natCast] at ew
  have hlen := hok.len
  generalize burn D = Q at HBn ew b1 b2
  obtain ⟨D1, bb⟩ := Q
  simp only at HBn ew b1 b2
  cases bb with
  | true =>
    have E := Lib.hid (show wrD D (j : Int) t = (D1, 90) from by rw [ew, if_pos rfl])
    clear h hok hr hz ew
    go_enter Try.func24, Try.ntmps24
    go_wp2_with fail
    refine HR.out.mono ?_
    rintro e w1 ⟨rfl, rfl⟩
    go_wp2_with fail
    refine HBn.out.mono ?_
    rintro e w2 ⟨rfl, hb⟩
    have HB := Lib.hid hb
    clear hb
    go_wp2_with fail
    go_ret
    exact ⟨by rw [E.out]; rfl, by rw [E.out]; exact HB.out.1, HB.out.2⟩
  | false =>
    have E := Lib.hid (show wrD D (j : Int) t = (⟨D.on, D.new.set j t, D1.left, D1.down⟩, 0) from by rw [ew, if_neg (by simp)])
    have hj : j < D1.new.length := by rw [b2, hlen]; omega
    have pj : (j : Int) < (D1.new.length : Int) := by omega
    have HBs := Lib.hid (And.intro b1 b2)
    clear h hok hr hz ew b1 b2 b3 hlen
    go_enter Try.func24, Try.ntmps24
    go_wp2_with fail
    refine HR.out.mono ?_
    rintro e w1 ⟨rfl, rfl⟩
    go_wp2_with fail
    refine HBn.out.mono ?_
    rintro e w2 ⟨rfl, hb⟩
    have k1 := hb.1.cel.cell (i := 1) rfl
    have x1 := hb.1.readN hj
    have xf := hb.1.freeN j
    have HB := Lib.hid (And.intro (hb.1.setN hj t) (hb.2.set (foot_n j) (.string t)))
    clear hb
    go_wp2_with fail
    go_ret
    refine ⟨by rw [E.out]; rfl, ?_, HB.out.2⟩
    rw [E.out]
    have := HB.out.1
    rw [HBs.out.1, HBs.out.2] at this
    exact this

set_option maxRecDepth 20000 in
set_option maxHeartbeats 2000000 in
theorem rdirty_any (h : RAt w g ao an co cn so sn D) (hok : DevOk D) :
    Calls Try.prog 13 #[.pointer (some ⟨g, 0, none⟩)] w fun e w' => e = .returned (.int .i64 (dirtyN D : Int)) ∧ w' = w := by
  have k1 := h.cel.cell (i := 1) rfl
  have hmx : D.new.length ≤ 2048 := by rw [hok.len]; exact hok.max
  have H := Lib.hid h
  clear h hok
  go_enter Try.func13, Try.ntmps13
  go_wp2_with fail
  go_loopw [3, 4] (fun n i wr => ∃ j : Nat, j ≤ D.new.length ∧ n = .int .i64 (cnt D.new j : Int) ∧ i = .int .i64 (j : Int) ∧ wr = w) (fun _ i _ => D.new.length - (intOf i).toNat)
  case atStart => exact ⟨0, by omega, rfl, rfl, rfl⟩
  case round =>
    obtain ⟨j, hj, rfl, rfl, rfl⟩ := hrel
    by_cases hlt : j < D.new.length
    · have pj : (j : Int) < (D.new.length : Int) := by omega
      have x1 := H.out.readN hlt
      have hc := cnt_succ hlt
      have hcl := cnt_le D.new j
      have pc : (cnt D.new j : Int) ≤ 2048 := by omega
      have w1 : IntKind.i64.wrap ((cnt D.new j : Int) + 1) = (cnt D.new j : Int) + 1 := i64_wrap (by omega) (by omega)
      generalize D.new[j] = n at x1 hc
      generalize cnt D.new j = c at hc pc w1 ⊢
      clear hcl
      by_cases hn : n = nil0
      · rw [if_pos hn] at hc
        subst hn
        have t0 := text_eq nil0
        unfold nil0 at t0 x1
        have HC := Lib.hid hc
        clear hc
        go_wp2_with fail
        go_roundw
        case rel => exact ⟨j + 1, by omega, by rw [HC.out]; rfl, by go_num, trivial⟩
        case measure => simp [intOf]; omega
      · rw [if_neg hn] at hc
        have t0 := text_ne hn
        have t1 : ¬ n.toList = [] := fun h => hn (by
          rw [ByteArray.toList_eq] at h
          obtain ⟨a⟩ := n
          unfold nil0
          congr 1
          exact Array.toList_inj.1 h)
        have t2 : n.toList.isEmpty = false := by rw [List.isEmpty_eq_false_iff]; exact t1
        unfold nil0 at t0
        have HC := Lib.hid hc
        clear hc hn
        go_wp2_with fail
        go_roundw
        case rel => exact ⟨j + 1, by omega, by rw [HC.out]; rfl, by go_num, trivial⟩
        case measure => simp [intOf]; omega
    · obtain rfl : j = D.new.length := by omega
      go_wp2_with fail
      go_ret
      exact ⟨rfl, rfl⟩

end

end Sc
end Go.Proofs.Ytecgimnmccmpjaa
