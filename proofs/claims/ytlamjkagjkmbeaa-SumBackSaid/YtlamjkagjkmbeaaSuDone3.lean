/- What the landed package's Frame and Next do; no condition but the range. -/
import Derived.Test.YtlamjkagjkmbeaaSuDone2
import Derived.Test.YtlamjkagjkmbeaaBkClone
import Derived.Test.YtlamjkagjkmbeaaSuMath2
import Derived.Test.YtlamjkagjkmbeaaSuLaw
namespace Go.Proofs.Ytlamjkagjkmbeaa
namespace Su
open Go.RowKit Bk

attribute [local go_sem ↓] Go.wp_at_zero Go.wp_at_succ
attribute [local go_sem] floatUpon pick

theorem le_num : ∀ (L : List UInt8), le L.length (num L) = L
  | [] => rfl
  | b :: L => by
    have hb : b.toNat < 256 := b.toNat_lt
    show UInt8.ofNat ((b.toNat + 256 * num L) % 256) :: le L.length ((b.toNat + 256 * num L) / 256) = b :: L
    rw [show (b.toNat + 256 * num L) % 256 = b.toNat by omega, show (b.toNat + 256 * num L) / 256 = num L by omega, le_num L, UInt8.ofNat_toNat]

/-- a frame that fits is one just if its last four bytes are the sum of those ahead of them -/
theorem frame_iff (R : List UInt8) (n : Nat) (hn : num (R.take 2) = n) (h : n + 6 ≤ R.length) :
    R.take (n + 6) = frameL ((R.drop 2).take n) ↔ num ((R.drop (2 + n)).take 4) = crc (R.take (2 + n)) := by
  have h2 : le 2 n = R.take 2 := by
    have := le_num (R.take 2)
    rw [List.length_take, Nat.min_eq_left (by omega), hn] at this
    exact this
  have h3 : ((R.drop 2).take n).length = n := by rw [List.length_take, List.length_drop]; omega
  have h4 : R.take 2 ++ (R.drop 2).take n = R.take (2 + n) := by rw [List.take_add]
  have h5 : R.take (n + 6) = R.take (2 + n) ++ (R.drop (2 + n)).take 4 := by rw [show n + 6 = (2 + n) + 4 by omega, List.take_add]
  have h6 : ((R.drop (2 + n)).take 4).length = 4 := by rw [List.length_take, List.length_drop]; omega
  have h7 := le_num ((R.drop (2 + n)).take 4)
  rw [h6] at h7
  unfold frameL
  rw [h3, h2, h4, h5]
  constructor
  · intro e
    have e2 := List.append_cancel_left e
    rw [e2, num_le 4 _ (crc_lt _)]
  · intro e
    rw [← h7, e]

set_option maxRecDepth 20000 in
set_option maxHeartbeats 1000000 in
theorem next_any (s : ByteArray) (i : Int) (w : World) (hs : s.size ≤ 1000000000000000) (hi : -9223372036854775808 ≤ i ∧ i ≤ 9223372036854775807) :
    Calls Try.prog 17 #[.string s, .int .i64 i] w fun e w' => e = .returned (nextV s i) ∧ Below w.heap.size w w' := by
  have hB : (s.size : Int) ≤ 1000000000000000 := by omega
  by_cases hbad : i < 0 ∨ (s.size : Int) < i
  · have E := Lib.hid (nextV_bad hbad)
    rcases hbad with h | h
    · go_enter Try.func17, Try.ntmps17
      go_wp2_with fail
      go_ret3
      exact ⟨by rw [E.out]; rfl, Below.refl _ _⟩
    · have h0 : 0 ≤ i := by omega
      go_enter Try.func17, Try.ntmps17
      go_wp2_with fail
      go_ret3
      exact ⟨by rw [E.out]; rfl, Below.refl _ _⟩
  · obtain ⟨a, rfl⟩ : ∃ a : Nat, i = (a : Int) := ⟨i.toNat, by omega⟩
    have ha : a ≤ s.size := by omega
    have E := Lib.hid (nextV_at ha)
    have hfrom := fun W => str_from s a ha (a : Int) rfl W
    obtain ⟨R, hR⟩ : ∃ R, R = s.data.toList.drop a := ⟨_, rfl⟩
    have hRl : R.length = s.size - a := by rw [hR, List.length_drop, list_size]
    rw [← hR] at hfrom E
    have z : (⟨R.toArray⟩ : ByteArray).size = R.length := cat_size R
    have hSl : (⟨R.toArray⟩ : ByteArray).data.toList = R := rfl
    clear hR hbad
    generalize (⟨R.toArray⟩ : ByteArray) = S at hfrom z hSl
    have pa : (a : Int) ≤ (s.size : Int) := by omega
    by_cases h2 : R.length < 2
    · have E2 := Lib.hid (show restR R = .error 50 by unfold restR; rw [if_pos h2])
      have q : (S.size : Int) < 2 := by omega
      clear z hSl h2
      go_enter Try.func17, Try.ntmps17
      go_wp2_with fail
      go_ret3
      exact ⟨by rw [E.out, E2.out]; rfl, Below.refl _ _⟩
    · obtain ⟨n, hn⟩ : ∃ n, n = num (R.take 2) := ⟨_, rfl⟩
      have hn256 : n < 65536 := by
        have := num_lt (R.take 2)
        rw [List.length_take, Nat.min_eq_left (by omega), ← hn] at this
        exact this
      have h2f := fun W => str_to S 2 (by omega) 2 rfl W
      rw [hSl] at h2f
      have hN1 := fun W => number_any ⟨(R.take 2).toArray⟩ W (by rw [cat_size, List.length_take]; omega)
      have hN1' : ∀ W, Calls Try.prog 27 #[.string ⟨(R.take 2).toArray⟩] W fun e w' => e = .returned (.int .i64 ((n : Nat) : Int)) ∧ w' = W := by
        rw [hn]; exact hN1
      have HN1 := Lib.hid hN1'
      have q2 : (2 : Int) ≤ (S.size : Int) := by omega
      clear hN1 hN1' hn256
      generalize (⟨(R.take 2).toArray⟩ : ByteArray) = S2 at h2f HN1
      by_cases hlong : 4096 < n
      · have E2 := Lib.hid (show restR R = .error 2 by unfold restR; rw [if_neg h2, ← hn, if_pos hlong])
        have pl : (4096 : Int) < (n : Int) := by omega
        clear h2 z hRl hSl hn
        go_enter Try.func17, Try.ntmps17
        go_wp2_with fail
        refine (HN1.out _).mono ?_
        rintro e w' ⟨rfl, rfl⟩
        go_wp2_with fail
        go_ret3
        exact ⟨by rw [E.out, E2.out]; rfl, Below.refl _ _⟩
      · have pl : (n : Int) ≤ 4096 := by omega
        by_cases hshort : R.length < n + 6
        · have E2 := Lib.hid (show restR R = .error 50 by unfold restR; rw [if_neg h2, ← hn, if_neg hlong, if_pos hshort])
          have q3 : (S.size : Int) < (n : Int) + 6 := by omega
          clear h2 z hRl hSl hn hshort
          go_enter Try.func17, Try.ntmps17
          go_wp2_with fail
          refine (HN1.out _).mono ?_
          rintro e w' ⟨rfl, rfl⟩
          go_wp2_with fail
          go_ret3
          exact ⟨by rw [E.out, E2.out]; rfl, Below.refl _ _⟩
        · have q3 : (n : Int) + 6 ≤ (S.size : Int) := by omega
          have hiff := frame_iff R n hn.symm (by omega)
          have hmid := fun W => str_mid S 2 (2 + n) (by omega) (by omega) 2 (2 + (n : Int)) rfl (by omega) W
          have hend := fun W => str_mid S (2 + n) (2 + n + 4) (by omega) (by omega) (2 + (n : Int)) (2 + (n : Int) + 4) (by omega) (by omega) W
          have hto := fun W => str_to S (2 + n) (by omega) (2 + (n : Int)) (by omega) W
          rw [hSl, show 2 + n - 2 = n by omega] at hmid
          rw [hSl, show 2 + n + 4 - (2 + n) = 4 by omega] at hend
          rw [hSl] at hto
          obtain ⟨t, ht⟩ : ∃ t, t = (R.drop 2).take n := ⟨_, rfl⟩
          rw [← ht] at hmid
          have htl : t.length = n := by rw [ht, List.length_take, List.length_drop]; omega
          have hN4 := fun W => number_any ⟨((R.drop (2 + n)).take 4).toArray⟩ W (by rw [cat_size, List.length_take]; omega)
          obtain ⟨X, hX⟩ : ∃ X, X = num ((R.drop (2 + n)).take 4) := ⟨_, rfl⟩
          obtain ⟨C, hC⟩ : ∃ C, C = crc (R.take (2 + n)) := ⟨_, rfl⟩
          have hN4' : ∀ W, Calls Try.prog 27 #[.string ⟨((R.drop (2 + n)).take 4).toArray⟩] W fun e w' => e = .returned (.int .i64 ((X : Nat) : Int)) ∧ w' = W := by
            rw [hX]; exact hN4
          have HN4 := Lib.hid hN4'
          have hO : ∀ (p : Nat) (W : World), W.heap[p]? = some (.cells #[.string ⟨(R.take (2 + n)).toArray⟩] 9 (0, 0)) → Calls Try.prog 13 #[.slice (some ⟨p, 0, none⟩) 1 1] W fun e w' => e = .returned (.int .i64 ((C : Nat) : Int)) ∧ w' = W := fun p W hp => by
            have hcat : catL [⟨(R.take (2 + n)).toArray⟩] = R.take (2 + n) := by simp [catL]
            have h := of_any (some ⟨p, 0, none⟩) 1 [⟨(R.take (2 + n)).toArray⟩] W (StrsAt.blk hp) (by simp) (by rw [hcat, List.length_take]; omega)
            rw [hcat, ← hC] at h
            exact h
          have HO := Lib.hid hO
          rw [← hX, ← hC, ← ht] at hiff
          have htz : (⟨t.toArray⟩ : ByteArray).size ≤ 281474976710656 := by rw [cat_size, htl]; omega
          have HCl := Lib.hid (fun W => clone_any ⟨t.toArray⟩ W htz)
          clear hN4 hN4' hO htz
          generalize (⟨(R.take (2 + n)).toArray⟩ : ByteArray) = S3 at hto HO
          generalize (⟨((R.drop (2 + n)).take 4).toArray⟩ : ByteArray) = S4 at hend HN4
          have E2 : Hid (restR R = if X = C then .ok t else .error 51) := Lib.hid (by
            unfold restR; rw [if_neg h2, ← hn, if_neg hlong, if_neg hshort, ← ht]
            by_cases hx : X = C
            · rw [if_pos hx, if_pos (hiff.2 hx)]
            · rw [if_neg hx, if_neg (fun h => hx (hiff.1 h))])
          have HT := Lib.hid htl
          clear h2 z hRl hSl hn hshort hX hC hiff htl ht
          go_enter Try.func17, Try.ntmps17
          go_wp2_with fail
          refine (HN1.out _).mono ?_
          rintro e w' ⟨rfl, rfl⟩
          have hadd2 : IntKind.i64.wrap (2 + (n : Int)) = 2 + (n : Int) := i64_wrap (by omega) (by omega)
          have hadd6 : IntKind.i64.wrap (2 + (n : Int) + 4) = 2 + (n : Int) + 4 := i64_wrap (by omega) (by omega)
          go_wp2_with fail
          refine wp_region_said 12 [36, 37, 38, 39, 40, 41, 42, 43, 44, 45, 46, 47]
            [.is (.string S), .is (.int .i64 (2 + (n : Int))), .is (.int .i64 (2 + (n : Int))), .is (.int .i64 (2 + (n : Int) + 4)), .is (.string S4), .is (.int .i64 (X : Int)), .is (.string S), .is (.int .i64 (2 + (n : Int))), .is (.string S3), .arr 9 #[.string S3] 1 1, .is (.int .i64 (C : Int)), .is (.bool ((X : Int) != (C : Int)))]
            (fun _ => True) (by kernel_rfl) (by kernel_rfl) (by kernel_rfl) (by kernel_rfl) (by kernel_rfl) (fun _ _ _ _ => trivial) trivial ?steps ?last
          case steps =>
            simp only [List.take_succ_cons, List.take_zero]
            refine ⟨?_, ?_, ?_, ?_, ?_, ?_, ?_, ?_, ?_, ?_, ?_, ?_, trivial⟩
            all_goals
              intro vs W ρ hρ hc hf hg hI hH hd R' hR
              have HR := Lib.hid hR
              simp [depsOf, Region.binds, sayAt, Say.holds] at hd
              clear hR
            case refine_10 =>
              go_simp
              exact HR.out _ _ ⟨W.heap.size, hH, by simp, rfl, heap_alloc_new W _⟩ ((Below.refl _ _).alloc (Nat.le_refl _) _) (fun h => by cases h)
            case refine_11 =>
              obtain ⟨⟨p, hp1, hp2, hp3, hp4⟩, h5⟩ := hd
              go_simp
              refine (HO.out p _ hp4).mono ?_
              rintro e w' ⟨rfl, rfl⟩
              exact ⟨_, rfl, HR.out _ _ (by simp [sayAt, Say.holds]) (Below.refl _ _) (by simp [sayAt, Say.isBlk])⟩
            case refine_6 =>
              go_simp
              refine (HN4.out _).mono ?_
              rintro e w' ⟨rfl, rfl⟩
              exact ⟨_, rfl, HR.out _ _ (by simp [sayAt, Say.holds]) (Below.refl _ _) (by simp [sayAt, Say.isBlk])⟩
            all_goals
              go_simp
              first
                | exact HR.out _ _ (by simp [sayAt, Say.holds]) (Below.refl _ _) (by simp [sayAt, Say.isBlk])
                | trace_state
          case last =>
            intro vs W hI hb hg hd
            have g := hg 11 (by omega)
            simp only [sayAt, Say.holds, List.getD_cons_succ, List.getD_cons_zero] at g
            simp only [List.take_succ_cons, List.take_zero, List.drop_succ_cons, List.drop_zero, putAll, Act.put, List.setIfInBounds_toArray, List.set_cons_succ, List.set_cons_zero, Nat.zero_add, Nat.reduceAdd]
            rw [g]
            have HB := Lib.hid hb
            clear g hg hd hb hI
            by_cases hx : X = C
            · have hne : ((X : Int) != (C : Int)) = false := by simp [hx]
              have E3 := E2.out
              rw [if_pos hx] at E3
              have E4 := Lib.hid E3
              clear E2 E3 hx
              have hs1 : IntKind.i64.wrap ((a : Int) + (2 + (n : Int))) = (a : Int) + (2 + (n : Int)) := i64_wrap (by omega) (by omega)
              have hs2 : IntKind.i64.wrap ((a : Int) + (2 + (n : Int)) + 4) = (a : Int) + (2 + (n : Int)) + 4 := i64_wrap (by omega) (by omega)
              generalize hT : (⟨t.toArray⟩ : ByteArray) = T at hmid HCl
              have HTT := Lib.hid hT
              clear hT
              go_wp2_with fail
              refine (HCl.out _).mono ?_
              rintro e w1 ⟨rfl, hb1⟩
              have HB1 := Lib.hid (HB.out.trans (hb1.mono HB.out.size))
              clear hb1 HB
              go_wp2_with fail
              go_ret3
              exact ⟨by rw [E.out, E4.out]; show _ = Ending.returned (Value.tuple #[.string ⟨t.toArray⟩, .int .i64 ((a + t.length + 6 : Nat) : Int), .int .i64 0]); rw [HTT.out, HT.out, show ((a + n + 6 : Nat) : Int) = (a : Int) + (2 + (n : Int)) + 4 by omega]; rfl, HB1.out⟩
            · have hne : ((X : Int) != (C : Int)) = true := by simp; omega
              have E3 := E2.out
              rw [if_neg hx] at E3
              have E4 := Lib.hid E3
              clear E2 E3 hx
              go_wp2_with fail
              go_ret3
              exact ⟨by rw [E.out, E4.out]; rfl, HB.out⟩

set_option maxRecDepth 20000 in
set_option maxHeartbeats 1000000 in
theorem frame_any (s : ByteArray) (w : World) (hs : s.size ≤ 140737488351232) :
    Calls Try.prog 11 #[.string s] w fun e w' => e = .returned (frameV s) ∧ Below w.heap.size w w' := by
  by_cases h : 4096 < s.size
  · have E := Lib.hid (show frameV s = .tuple #[.string ⟨#[]⟩, .int .i64 2] by unfold frameV; rw [if_pos h])
    have h' : (4096 : Int) < (s.size : Int) := by omega
    clear h
    go_enter Try.func11, Try.ntmps11
    go_wp2_with fail
    go_ret2
    exact ⟨by rw [E.out]; rfl, Below.refl _ _⟩
  · have E := Lib.hid (show frameV s = .tuple #[.string (frameB s), .int .i64 0] by unfold frameV; rw [if_neg h])
    have h' : (s.size : Int) ≤ 4096 := by omega
    have H1 := Lib.hid (fun W => low_any s.size 2 W (by omega) (by omega) (by omega))
    obtain ⟨L1, hL1⟩ : ∃ L1, L1 = le 2 s.size ++ s.data.toList := ⟨_, rfl⟩
    have hz : L1.length = s.size + 2 := by rw [hL1, List.length_append, le_length, list_size]; omega
    have hF : frameB s = ⟨(L1 ++ le 4 (crc L1)).toArray⟩ := by unfold frameB frameL; rw [list_size, ← hL1]
    have H2 := Lib.hid (fun W => low_any (crc L1) 4 W (by have := crc_lt L1; omega) (by omega) (by omega))
    have hO : ∀ (p : Nat) (W : World), W.heap[p]? = some (.cells #[.string ⟨(le 2 s.size).toArray⟩, .string s] 9 (0, 0)) → Calls Try.prog 13 #[.slice (some ⟨p, 0, none⟩) 2 2] W fun e w' => e = .returned (.int .i64 ((crc L1 : Nat) : Int)) ∧ w' = W := fun p W hp => by
      have hcat : catL [⟨(le 2 s.size).toArray⟩, s] = L1 := by rw [hL1]; simp [catL]
      have h := of_any (some ⟨p, 0, none⟩) 2 [⟨(le 2 s.size).toArray⟩, s] W (StrsAt.blk hp) (by simp) (by rw [hcat, hz]; omega)
      rw [hcat] at h
      exact h
    have HO := Lib.hid hO
    have e1 : (⟨(le 2 s.size).toArray⟩ : ByteArray) ++ s = ⟨L1.toArray⟩ := by rw [hL1, ← ByteArray.mk_append_mk]
    have z1 : (⟨(le 2 s.size).toArray⟩ : ByteArray).size = 2 := by rw [cat_size, le_length]
    have hadd := fun W => run_string_add_sum (P := Try.prog) W ⟨(le 2 s.size).toArray⟩ s (by rw [z1]; omega)
    rw [e1] at hadd
    have e2 : (⟨L1.toArray⟩ : ByteArray) ++ ⟨(le 4 (crc L1)).toArray⟩ = frameB s := by rw [hF, ← ByteArray.mk_append_mk]
    have z2 : (⟨(le 4 (crc L1)).toArray⟩ : ByteArray).size = 4 := by rw [cat_size, le_length]
    have z3 : (⟨L1.toArray⟩ : ByteArray).size = s.size + 2 := by rw [cat_size, hz]
    have hadd2 := fun W => run_string_add_sum (P := Try.prog) W ⟨L1.toArray⟩ ⟨(le 4 (crc L1)).toArray⟩ (by rw [z2, z3]; omega)
    rw [e2] at hadd2
    have hC := crc_lt L1
    clear hO e1 z1 e2 z2 z3 h hF hz hL1
    generalize (⟨(le 2 s.size).toArray⟩ : ByteArray) = B1 at H1 HO hadd
    generalize (⟨(le 4 (crc L1)).toArray⟩ : ByteArray) = B2 at H2 hadd2
    generalize (⟨L1.toArray⟩ : ByteArray) = S1 at hadd hadd2
    generalize crc L1 = C at H2 HO hC
    go_enter Try.func11, Try.ntmps11
    go_wp2_with fail
    refine (H1.out _).mono ?_
    rintro e w1 ⟨rfl, hb⟩
    have W1 := Lib.hid hb
    clear hb
    go_wp2_with fail
    refine (HO.out _ _ (heap_alloc_new _ _)).mono ?_
    rintro e w2 ⟨rfl, rfl⟩
    have W2 := Lib.hid (W1.out.alloc (o := .cells #[.string B1, .string s] 9) W1.out.size)
    clear W1
    go_wp2_with fail
    refine (H2.out _).mono ?_
    rintro e w3 ⟨rfl, hb⟩
    have W3 := Lib.hid (W2.out.trans (hb.mono W2.out.size))
    clear hb W2
    go_wp2_with fail
    go_ret2
    exact ⟨by rw [E.out]; rfl, W3.out⟩

end Su
end Go.Proofs.Ytlamjkagjkmbeaa
