/- What the document's own Next and All answer; contracts. -/
import Derived.Test.YtlamjkagjkmbeaaSuRef2
namespace Go.Proofs.Ytlamjkagjkmbeaa
namespace Su
open Go.RowKit Bk

attribute [local go_sem ↓] Go.wp_at_zero Go.wp_at_succ
attribute [local go_sem] floatUpon pick

/-- what stands at the head of some bytes: a frame's text, or the error -/
def restR (r : List UInt8) : Except Nat (List UInt8) :=
  if r.length < 2 then .error 50
  else if 4096 < num (r.take 2) then .error 2
  else if r.length < num (r.take 2) + 6 then .error 50
  else if r.take (num (r.take 2) + 6) = frameL ((r.drop 2).take (num (r.take 2))) then .ok ((r.drop 2).take (num (r.take 2)))
  else .error 51

def errV (e : Nat) : Value := .tuple #[.string ⟨#[]⟩, .int .i64 0, .int .i64 (e : Int)]

def outV (a : Nat) : Except Nat (List UInt8) → Value
  | .error e => errV e
  | .ok t => .tuple #[.string ⟨t.toArray⟩, .int .i64 ((a + t.length + 6 : Nat) : Int), .int .i64 0]

/-- what Next answers -/
def nextV (s : ByteArray) (i : Int) : Value := if i < 0 ∨ (s.size : Int) < i then errV 1 else outV i.toNat (restR (s.data.toList.drop i.toNat))

theorem nextV_bad {s : ByteArray} {i : Int} (h : i < 0 ∨ (s.size : Int) < i) : nextV s i = errV 1 := if_pos h

theorem nextV_at {s : ByteArray} {a : Nat} (h : a ≤ s.size) : nextV s (a : Int) = outV a (restR (s.data.toList.drop a)) := by
  unfold nextV
  rw [if_neg (by omega), Int.toNat_natCast]

set_option maxRecDepth 20000 in
set_option maxHeartbeats 1000000 in
theorem rnext_any (s : ByteArray) (i : Int) (w : World) (hs : s.size ≤ 1000000000000000) (hi : -9223372036854775808 ≤ i ∧ i ≤ 9223372036854775807) :
    Calls Try.prog 18 #[.string s, .int .i64 i] w fun e w' => e = .returned (nextV s i) ∧ Below w.heap.size w w' := by
  have hB : (s.size : Int) ≤ 1000000000000000 := by omega
  by_cases hbad : i < 0 ∨ (s.size : Int) < i
  · have E := Lib.hid (nextV_bad hbad)
    rcases hbad with h | h
    · go_enter Try.func18, Try.ntmps18
      go_wp2_with fail
      go_ret3
      exact ⟨by rw [E.out]; rfl, Below.refl _ _⟩
    · have h0 : 0 ≤ i := by omega
      go_enter Try.func18, Try.ntmps18
      go_wp2_with fail
      go_ret3
      exact ⟨by rw [E.out]; rfl, Below.refl _ _⟩
  · obtain ⟨a, rfl⟩ : ∃ a : Nat, i = (a : Int) := ⟨i.toNat, by omega⟩
    have ha : a ≤ s.size := by omega
    have E := Lib.hid (nextV_at ha)
    have hfrom := fun W => str_from s a ha (a : Int) rfl W
    obtain ⟨R, hR⟩ : ∃ R, R = s.data.toList.drop a := ⟨_, rfl⟩
    have hRl : R.length = s.size - a := by rw [hR, List.length_drop, list_size]
    rw [← hR] at hfrom E
    have z : (⟨R.toArray⟩ : ByteArray).size = s.size - a := by rw [cat_size, hRl]
    have hSl : (⟨R.toArray⟩ : ByteArray).data.toList = R := rfl
    clear hR hbad
    generalize (⟨R.toArray⟩ : ByteArray) = S at hfrom z hSl
    have pa : (a : Int) ≤ (s.size : Int) := by omega
    by_cases h2 : R.length < 2
    · have E2 := Lib.hid (show restR R = .error 50 by unfold restR; rw [if_pos h2])
      have q : (S.size : Int) < 2 := by omega
      clear z hSl h2
      go_enter Try.func18, Try.ntmps18
      go_wp2_with fail
      go_ret3
      exact ⟨by rw [E.out, E2.out]; rfl, Below.refl _ _⟩
    · obtain ⟨b0, b1, r2, rfl⟩ : ∃ b0 b1 r2, R = b0 :: b1 :: r2 := by
        match R, h2 with
        | [], h => exact absurd (by show 0 < 2; omega) h
        | [_], h => exact absurd (by show 1 < 2; omega) h
        | b0 :: b1 :: r2, _ => exact ⟨b0, b1, r2, rfl⟩
      have hn : num (List.take 2 (b0 :: b1 :: r2)) = b0.toNat + 256 * b1.toNat := by
        simp only [List.take_succ_cons, List.take_zero, num]; omega
      have i0 := fun W => str_at S 0 b0 (by rw [hSl]; rfl) 0 rfl W
      have i1 := fun W => str_at S 1 b1 (by rw [hSl]; rfl) 1 rfl W
      have hb0 : b0.toNat < 256 := b0.toNat_lt
      have hb1 : b1.toNat < 256 := b1.toNat_lt
      obtain ⟨n, hnn⟩ : ∃ n, n = b0.toNat + 256 * b1.toNat := ⟨_, rfl⟩
      have hsum : (b0.toNat : Int) + 256 * (b1.toNat : Int) = (n : Int) := by omega
      rw [← hnn] at hn
      generalize b0.toNat = x0 at i0 hb0 hsum hnn
      generalize b1.toNat = x1 at i1 hb1 hsum hnn
      have q2 : (2 : Int) ≤ (S.size : Int) := by rw [List.length_cons, List.length_cons] at hRl h2; omega
      have hmul : IntKind.i64.wrap (256 * (x1 : Int)) = 256 * (x1 : Int) := i64_wrap (by omega) (by omega)
      by_cases hlong : 4096 < n
      · have E2 := Lib.hid (show restR (b0 :: b1 :: r2) = .error 2 by unfold restR; rw [if_neg h2, hn, if_pos hlong])
        have pl : (4096 : Int) < (n : Int) := by omega
        clear h2 z hRl hSl hnn
        go_enter Try.func18, Try.ntmps18
        go_wp2_with fail
        go_quiet (fail)
        go_wp2_with fail
        go_ret3
        exact ⟨by rw [E.out, E2.out]; rfl, below_drewN (Below.refl _ _) nq⟩
      · have pl : (n : Int) ≤ 4096 := by omega
        have hadd6 : IntKind.i64.wrap ((n : Int) + 6) = (n : Int) + 6 := i64_wrap (by omega) (by omega)
        have hadd2 : IntKind.i64.wrap (2 + (n : Int)) = 2 + (n : Int) := i64_wrap (by omega) (by omega)
        by_cases hshort : (b0 :: b1 :: r2).length < n + 6
        · have E2 := Lib.hid (show restR (b0 :: b1 :: r2) = .error 50 by unfold restR; rw [if_neg h2, hn, if_neg hlong, if_pos hshort])
          have q3 : (S.size : Int) < (n : Int) + 6 := by omega
          clear h2 z hRl hSl hnn hshort
          go_enter Try.func18, Try.ntmps18
          go_wp2_with fail
          go_quiet (fail)
          go_wp2_with fail
          go_ret3
          exact ⟨by rw [E.out, E2.out]; rfl, below_drewN (Below.refl _ _) nq⟩
        · have q3 : (n : Int) + 6 ≤ (S.size : Int) := by omega
          have hmid := fun W => str_mid S 2 (2 + n) (by omega) (by omega) 2 (2 + (n : Int)) rfl (by omega) W
          have hto := fun W => str_to S (n + 6) (by omega) ((n : Int) + 6) (by omega) W
          rw [hSl, show 2 + n - 2 = n by omega] at hmid
          rw [hSl] at hto
          obtain ⟨t, ht⟩ : ∃ t, t = List.take n (List.drop 2 (b0 :: b1 :: r2)) := ⟨_, rfl⟩
          rw [← ht] at hmid
          have htl : t.length = n := by rw [ht, List.length_take, List.length_drop]; omega
          have hone := fun W => rone_any ⟨t.toArray⟩ W (by rw [cat_size]; omega)
          have HO := Lib.hid hone
          have hF : frameB ⟨t.toArray⟩ = ⟨(frameL t).toArray⟩ := rfl
          rw [hF] at HO
          by_cases hsame : List.take (n + 6) (b0 :: b1 :: r2) = frameL t
          · have E2 := Lib.hid (show restR (b0 :: b1 :: r2) = .ok t by unfold restR; rw [if_neg h2, hn, if_neg hlong, if_neg hshort, ← ht, if_pos hsame])
            have E3 := Lib.hid htl
            rw [hsame] at hto
            have hq := text_eq ⟨(frameL t).toArray⟩
            have hs1 : IntKind.i64.wrap ((a : Int) + (n : Int)) = (a : Int) + (n : Int) := i64_wrap (by omega) (by omega)
            have hs2 : IntKind.i64.wrap ((a : Int) + (n : Int) + 6) = (a : Int) + (n : Int) + 6 := i64_wrap (by omega) (by omega)
            clear h2 z hRl hSl hnn hshort htl hsame hone hF ht
            generalize (⟨(frameL t).toArray⟩ : ByteArray) = F at hto hq HO
            generalize hT : (⟨t.toArray⟩ : ByteArray) = T at hmid HO
            have HT := Lib.hid hT
            clear hT
            go_enter Try.func18, Try.ntmps18
            go_wp2_with fail
            go_quiet (fail)
            go_wp2_with fail
            refine wp_region_said 7 [43, 44, 45, 46, 47, 48, 49]
              [.is (.string S), .is (.int .i64 (n : Int)), .is (.int .i64 ((n : Int) + 6)), .is (.string F), .is (.string T), .is (.string F), .is (.bool false)]
              (fun _ => True) (by kernel_rfl) (by kernel_rfl) (by kernel_rfl) (by kernel_rfl) (by kernel_rfl) (fun _ _ _ _ => trivial) trivial ?steps ?last
            case steps =>
              simp only [List.take_succ_cons, List.take_zero]
              refine ⟨?_, ?_, ?_, ?_, ?_, ?_, ?_, trivial⟩
              all_goals
                intro vs W ρ hρ hc hf hg hI hH hd R' hR
                have HR := Lib.hid hR
                simp [depsOf, Region.binds, sayAt, Say.holds] at hd
                clear hR
                go_simp
                first
                  | exact HR.out _ _ (by simp [sayAt, Say.holds]) (Below.refl _ _) (by simp [sayAt, Say.isBlk])
                  | (refine (HO.out _).mono ?_; rintro e w' ⟨rfl, hb⟩; exact ⟨_, rfl, HR.out _ _ (by simp [sayAt, Say.holds]) hb (by simp [sayAt, Say.isBlk])⟩)
                  | trace_state
            case last =>
              intro vs W hI hb hg hd
              have g6 := hg 6 (by omega)
              simp only [sayAt, Say.holds, List.getD_cons_succ, List.getD_cons_zero] at g6
              simp only [List.take_succ_cons, List.take_zero, List.drop_succ_cons, List.drop_zero, putAll, Act.put, List.setIfInBounds_toArray, List.set_cons_succ, List.set_cons_zero, Nat.zero_add, Nat.reduceAdd]
              rw [g6]
              have HB := Lib.hid ((below_drewN (Below.refl w.heap.size w) nq).trans hb)
              clear g6 hg hd hb hI
              go_wp2_with fail
              go_ret3
              exact ⟨by rw [E.out, E2.out]; show _ = Ending.returned (Value.tuple #[.string ⟨t.toArray⟩, .int .i64 ((a + t.length + 6 : Nat) : Int), .int .i64 0]); rw [HT.out, E3.out]; simp, HB.out⟩
          · have E2 := Lib.hid (show restR (b0 :: b1 :: r2) = .error 51 by unfold restR; rw [if_neg h2, hn, if_neg hlong, if_neg hshort, ← ht, if_neg hsame])
            have hq : ((⟨(List.take (n + 6) (b0 :: b1 :: r2)).toArray⟩ : ByteArray).toList == (⟨(frameL t).toArray⟩ : ByteArray).toList) = false := text_ne (fun h => hsame (by
              have := congrArg (fun x : ByteArray => x.data.toList) h
              simpa using this))
            clear h2 z hRl hSl hnn hshort htl hsame hone hF ht
            generalize (⟨(frameL t).toArray⟩ : ByteArray) = F at hq HO
            generalize (⟨(List.take (n + 6) (b0 :: b1 :: r2)).toArray⟩ : ByteArray) = F0 at hto hq
            generalize (⟨t.toArray⟩ : ByteArray) = T at hmid HO
            go_enter Try.func18, Try.ntmps18
            go_wp2_with fail
            go_quiet (fail)
            go_wp2_with fail
            refine wp_region_said 7 [43, 44, 45, 46, 47, 48, 49]
              [.is (.string S), .is (.int .i64 (n : Int)), .is (.int .i64 ((n : Int) + 6)), .is (.string F0), .is (.string T), .is (.string F), .is (.bool true)]
              (fun _ => True) (by kernel_rfl) (by kernel_rfl) (by kernel_rfl) (by kernel_rfl) (by kernel_rfl) (fun _ _ _ _ => trivial) trivial ?steps ?last
            case steps =>
              simp only [List.take_succ_cons, List.take_zero]
              refine ⟨?_, ?_, ?_, ?_, ?_, ?_, ?_, trivial⟩
              all_goals
                intro vs W ρ hρ hc hf hg hI hH hd R' hR
                have HR := Lib.hid hR
                simp [depsOf, Region.binds, sayAt, Say.holds] at hd
                clear hR
                go_simp
                first
                  | exact HR.out _ _ (by simp [sayAt, Say.holds]) (Below.refl _ _) (by simp [sayAt, Say.isBlk])
                  | (refine (HO.out _).mono ?_; rintro e w' ⟨rfl, hb⟩; exact ⟨_, rfl, HR.out _ _ (by simp [sayAt, Say.holds]) hb (by simp [sayAt, Say.isBlk])⟩)
                  | trace_state
            case last =>
              intro vs W hI hb hg hd
              have g6 := hg 6 (by omega)
              simp only [sayAt, Say.holds, List.getD_cons_succ, List.getD_cons_zero] at g6
              simp only [List.take_succ_cons, List.take_zero, List.drop_succ_cons, List.drop_zero, putAll, Act.put, List.setIfInBounds_toArray, List.set_cons_succ, List.set_cons_zero, Nat.zero_add, Nat.reduceAdd]
              rw [g6]
              have HB := Lib.hid ((below_drewN (Below.refl w.heap.size w) nq).trans hb)
              clear g6 hg hd hb hI
              go_wp2_with fail
              go_ret3
              exact ⟨by rw [E.out, E2.out]; rfl, HB.out⟩

end Su
end Go.Proofs.Ytlamjkagjkmbeaa
