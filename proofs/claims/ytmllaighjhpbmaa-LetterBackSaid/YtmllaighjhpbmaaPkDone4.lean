/- What the landed package reads: readUpTo, unfold, readSigned, readText; contracts; no condition but the range. -/
import Derived.Test.YtmllaighjhpbmaaPkDone3
namespace Go.Proofs.Ytmllaighjhpbmaa
namespace Pk
open Go.RowKit Bk

attribute [local go_sem ↓] Go.wp_at_zero Go.wp_at_succ
attribute [local go_sem] floatUpon pick

/-- what a reading of one thing says: it is x, and goes on at p; or it fails at p with c -/
def Sd {α : Type} (s : ByteArray) (r : Except Er (α × List UInt8)) (z x : α) (p c : Nat) : Prop :=
  (c = 0 ∧ p ≤ s.size ∧ r = .ok (x, s.data.toList.drop p)) ∨ (c ≠ 0 ∧ c ≤ 50 ∧ p ≤ s.size ∧ x = z ∧ ∃ e : Er, r = .error e ∧ p = e.place s.size ∧ c = e.code)

theorem Sd.in {α : Type} {s : ByteArray} {r : Except Er (α × List UInt8)} {z x : α} {p c : Nat} (h : Sd s r z x p c) : p ≤ s.size ∧ c ≤ 50 := by
  rcases h with ⟨h1, h2, _⟩ | ⟨_, h1, h2, _⟩ <;> exact ⟨by omega, by omega⟩

set_option maxRecDepth 20000 in
set_option maxHeartbeats 1000000 in
theorem upTo_any (s : ByteArray) (a most : Nat) (w : World) (ha : a ≤ s.size) (hs : s.size ≤ 1000000000000000) (hmost : most ≤ 4096) :
    Calls Try.prog 65 #[.int .i64 (most : Int), .string s, .int .i64 (a : Int)] w fun e w' => e = .returned (cntV s a most) ∧ w' = w := by
  have hB : (s.size : Int) ≤ 1000000000000000 := by omega
  have pa : (a : Int) ≤ (s.size : Int) := by omega
  have pm : (most : Int) ≤ 4096 := by omega
  have HR := Lib.hid (fun W => readInt_any s a W ha hs)
  cases hr : readR (s.data.toList.drop a) with
  | ok n u =>
    have h1 : readV s a = .tuple #[.int .i64 (n : Int), .int .i64 ((a + u : Nat) : Int), .int .i64 0] := by unfold readV; rw [hr]
    obtain ⟨_, hu, hn9⟩ := readR_ok hr
    have hn9' : n < 9223372036854775808 := hn9
    rw [h1] at HR
    by_cases hlt : most < n
    · have E := Lib.hid (show cntV s a most = .tuple #[.int .i64 0, .int .i64 (a : Int), .int .i64 2] by unfold cntV; rw [hr]; simp only; rw [if_pos hlt])
      have pl : (most : Int) < (n : Int) := by omega
      clear hr h1 hn9 hn9' hu
      generalize a + u = z at HR
      go_enter Try.func65, Try.ntmps65
      go_wp2_with fail
      refine (HR.out _).mono ?_
      rintro e w' ⟨rfl, rfl⟩
      go_wp2_with fail
      go_ret3
      exact ⟨by rw [E.out]; rfl, rfl⟩
    · have E := Lib.hid (show cntV s a most = .tuple #[.int .i64 (n : Int), .int .i64 ((a + u : Nat) : Int), .int .i64 0] by unfold cntV; rw [hr]; simp only; rw [if_neg hlt])
      have pl : (n : Int) ≤ (most : Int) := by omega
      clear hr h1 hn9 hn9' hu
      generalize a + u = z at HR E
      go_enter Try.func65, Try.ntmps65
      go_wp2_with fail
      refine (HR.out _).mono ?_
      rintro e w' ⟨rfl, rfl⟩
      go_wp2_with fail
      go_ret3
      exact ⟨by rw [E.out]; rfl, rfl⟩
  | fin =>
    have h1 : readV s a = .tuple #[.int .i64 0, .int .i64 (s.size : Int), .int .i64 50] := by unfold readV; rw [hr]
    have E := Lib.hid (show cntV s a most = .tuple #[.int .i64 0, .int .i64 (s.size : Int), .int .i64 50] by unfold cntV; rw [hr])
    rw [h1] at HR
    have pl : (0 : Int) ≤ (most : Int) := by omega
    clear hr h1
    go_enter Try.func65, Try.ntmps65
    go_wp2_with fail
    refine (HR.out _).mono ?_
    rintro e w' ⟨rfl, rfl⟩
    go_wp2_with fail
    go_ret3
    exact ⟨by rw [E.out]; rfl, rfl⟩
  | form =>
    have h1 : readV s a = .tuple #[.int .i64 0, .int .i64 (a : Int), .int .i64 3] := by unfold readV; rw [hr]
    have E := Lib.hid (show cntV s a most = .tuple #[.int .i64 0, .int .i64 (a : Int), .int .i64 3] by unfold cntV; rw [hr])
    rw [h1] at HR
    have pl : (0 : Int) ≤ (most : Int) := by omega
    clear hr h1
    go_enter Try.func65, Try.ntmps65
    go_wp2_with fail
    refine (HR.out _).mono ?_
    rintro e w' ⟨rfl, rfl⟩
    go_wp2_with fail
    go_ret3
    exact ⟨by rw [E.out]; rfl, rfl⟩

set_option maxRecDepth 20000 in
set_option maxHeartbeats 1000000 in
theorem unfold_any (n : Nat) (w : World) (hn : n < 9223372036854775808) :
    Calls Try.prog 67 #[.int .u64 (n : Int)] w fun e w' => e = .returned (.int .i64 (unzig n)) ∧ w' = w := by
  have hy : n / 2 ≤ 4611686018427387903 := by omega
  have hdiv : (n : Int).tdiv 2 = ((n / 2 : Nat) : Int) := by rw [Int.tdiv_eq_ediv_of_nonneg (by omega)]; omega
  have hmod : (n : Int).tmod 2 = ((n % 2 : Nat) : Int) := by rw [Int.tmod_eq_emod_of_nonneg (by omega)]; omega
  by_cases hodd : n % 2 = 1
  · have E := Lib.hid (show unzig n = -((n / 2 : Nat) : Int) - 1 by unfold unzig; rw [if_pos hodd])
    have hb : ((n : Int) % 2 == 1) = true := by rw [show (n : Int) % 2 = 1 by omega]; rfl
    rw [hodd] at hmod
    generalize n / 2 = y at hdiv hy E
    have hyi : (y : Int) ≤ 4611686018427387903 := by omega
    have hcv : IntKind.i64.wrap (y : Int) = (y : Int) := i64_wrap (by omega) (by omega)
    clear hodd
    go_enter Try.func67, Try.ntmps67
    go_wp2_with fail
    go_ret
    exact ⟨by rw [E.out]; rfl, rfl⟩
  · have E := Lib.hid (show unzig n = ((n / 2 : Nat) : Int) by unfold unzig; rw [if_neg hodd])
    have hb : ((n : Int) % 2 == 1) = false := by rw [show (n : Int) % 2 = 0 by omega]; rfl
    have hm0 : n % 2 = 0 := by omega
    rw [hm0] at hmod
    generalize n / 2 = y at hdiv hy E
    have hyi : (y : Int) ≤ 4611686018427387903 := by omega
    have hcv : IntKind.i64.wrap (y : Int) = (y : Int) := i64_wrap (by omega) (by omega)
    clear hodd hm0
    go_enter Try.func67, Try.ntmps67
    go_wp2_with fail
    go_ret
    exact ⟨by rw [E.out]; rfl, rfl⟩

/-- a signed number is read -/
def sgnF (L : List UInt8) : Except Er (Int × List UInt8) :=
  match numF L with
  | .error e => .error e
  | .ok (n, r) => .ok (unzig n, r)

theorem readF_said (s : ByteArray) (a : Nat) (ha : a ≤ s.size) : ∃ n p c : Nat, readVF s a = .tuple #[.int .u64 (n : Int), .int .i64 (p : Int), .int .i64 (c : Int)] ∧ Said s (numF (s.data.toList.drop a)) n p c := by
  cases hr : readR (s.data.toList.drop a) with
  | ok n u =>
    have h9 : n < 9223372036854775808 := (readR_ok hr).2.2
    refine ⟨n, a + u, 0, by unfold readVF; rw [hr]; rfl, .inl ⟨rfl, readR_in ha hr, h9, ?_⟩⟩
    unfold numF; rw [hr]; simp only [List.drop_drop]
  | fin => exact ⟨0, s.size, 50, by unfold readVF; rw [hr]; rfl, .inr ⟨by omega, by omega, by omega, rfl, .fin, by unfold numF; rw [hr], rfl, rfl⟩⟩
  | form => exact ⟨0, a, 3, by unfold readVF; rw [hr]; rfl, .inr ⟨by omega, by omega, by omega, rfl, .bad (s.data.toList.drop a).length 3, by unfold numF; rw [hr], by simp only [Er.place, List.length_drop, list_size]; omega, rfl⟩⟩

theorem sgn_said {s : ByteArray} {a n p c : Nat} (h : Said s (numF (s.data.toList.drop a)) n p c) : Sd s (sgnF (s.data.toList.drop a)) 0 (unzig n) p c := by
  rcases h with ⟨h1, h2, _, h4⟩ | ⟨h1, h2, h3, h4, e, h5, h6, h7⟩
  · exact .inl ⟨h1, h2, by unfold sgnF; rw [h4]⟩
  · exact .inr ⟨h1, h2, h3, by rw [h4]; rfl, e, by unfold sgnF; rw [h5], h6, h7⟩

set_option maxRecDepth 20000 in
set_option maxHeartbeats 1000000 in
theorem readSigned_any (s : ByteArray) (a : Nat) (ha : a ≤ s.size) (hs : s.size ≤ 1000000000000000) : ∃ (z : Int) (p c : Nat), Sd s (sgnF (s.data.toList.drop a)) 0 z p c ∧ ∀ w,
    Calls Try.prog 53 #[.string s, .int .i64 (a : Int)] w fun e w' => e = .returned (.tuple #[.int .i64 z, .int .i64 (p : Int), .int .i64 (c : Int)]) ∧ w' = w := by
  obtain ⟨n, p, c, hv, hsd⟩ := readF_said s a ha
  refine ⟨unzig n, p, c, sgn_said hsd, fun w => ?_⟩
  have hn9 : n < 9223372036854775808 := by rcases hsd with ⟨_, _, h, _⟩ | ⟨_, _, _, h, _⟩ <;> omega
  have HU := Lib.hid (fun W => unfold_any n W hn9)
  have hR := fun W => readFolded_any s a W ha hs
  rw [hv] at hR
  have HR := Lib.hid hR
  clear hR hsd hv hn9
  go_enter Try.func53, Try.ntmps53
  go_wp2_with fail
  refine (HR.out _).mono ?_
  rintro e w' ⟨rfl, rfl⟩
  go_wp2_with fail
  refine (HU.out _).mono ?_
  rintro e w2 ⟨rfl, rfl⟩
  go_wp2_with fail
  go_ret3
  exact ⟨rfl, rfl⟩

set_option maxRecDepth 20000 in
set_option maxHeartbeats 1000000 in
theorem readText_any (s : ByteArray) (a : Nat) (ha : a ≤ s.size) (hs : s.size ≤ 1000000000000000) : ∃ (t : ByteArray) (p c : Nat), t.size ≤ 4096 ∧ Sd s (textF (s.data.toList.drop a)) ⟨#[]⟩ t p c ∧ ∀ w,
    Calls Try.prog 55 #[.string s, .int .i64 (a : Int)] w fun e w' => e = .returned (.tuple #[.string t, .int .i64 (p : Int), .int .i64 (c : Int)]) ∧ Below w.heap.size w w' := by
  have hB : (s.size : Int) ≤ 1000000000000000 := by omega
  obtain ⟨n, p, c, hv, hsd, hn⟩ := cnt_said s a 4096 ha
  have hC : ∀ W, Calls Try.prog 65 #[.int .i64 4096, .string s, .int .i64 (a : Int)] W fun e w' => e = .returned (.tuple #[.int .i64 (n : Int), .int .i64 (p : Int), .int .i64 (c : Int)]) ∧ w' = W := fun W => by
    have h := upTo_any s a 4096 W ha hs (by omega)
    rw [hv] at h
    exact h
  have HC := Lib.hid hC
  clear hC hv
  rcases hsd with ⟨rfl, hp, _, hok⟩ | ⟨hc, hc5, hp, rfl, e, herr, hpe, hce⟩
  · have pp : (p : Int) ≤ (s.size : Int) := by omega
    have pn : (n : Int) ≤ 4096 := by omega
    have hlen : (s.data.toList.drop p).length = s.size - p := by rw [List.length_drop, list_size]
    by_cases hcut : s.size - p < n
    · have pcut : (s.size : Int) - (p : Int) < (n : Int) := by omega
      refine ⟨⟨#[]⟩, s.size, 50, by show (0 : Nat) ≤ 4096; omega, .inr ⟨by omega, by omega, by omega, rfl, .fin, textF_cut hok (by rw [hlen]; exact hcut), rfl, rfl⟩, fun w => ?_⟩
      clear hok hlen hcut
      go_enter Try.func55, Try.ntmps55
      go_wp2_with fail
      refine (HC.out _).mono ?_
      rintro e w' ⟨rfl, rfl⟩
      go_wp2_with fail
      go_ret3
      exact ⟨rfl, Below.refl _ _⟩
    · have pcut : (n : Int) ≤ (s.size : Int) - (p : Int) := by omega
      have pin : (p : Int) + (n : Int) ≤ (s.size : Int) := by omega
      have hall := textF_all hok (by rw [hlen]; exact hcut)
      have hsz : (⟨((s.data.toList.drop p).take n).toArray⟩ : ByteArray).size ≤ 4096 := by rw [text_size, List.length_take]; omega
      refine ⟨⟨((s.data.toList.drop p).take n).toArray⟩, p + n, 0, hsz, .inl ⟨rfl, by omega, by rw [hall, List.drop_drop]⟩, fun w => ?_⟩
      have hsl : ∀ W, (Instr.slice 9 (.string s) (some (.int .i64 (p : Int))) (some (.int .i64 ((p : Int) + (n : Int)))) none).run Try.prog W = .ok (.string ⟨((s.data.toList.drop p).take n).toArray⟩) W := fun W => by
        have := str_mid s p (p + n) (by omega) (by omega) (p : Int) ((p : Int) + (n : Int)) rfl (by omega) W
        rw [show p + n - p = n by omega] at this
        exact this
      generalize (⟨((s.data.toList.drop p).take n).toArray⟩ : ByteArray) = t at hsz hsl ⊢
      have HT := Lib.hid (fun W => clone_any t W (by omega))
      have HP := Lib.hid (show ((p + n : Nat) : Int) = (p : Int) + (n : Int) by omega)
      clear hok hlen hcut hall hsz
      go_enter Try.func55, Try.ntmps55
      go_wp2_with fail
      refine (HC.out _).mono ?_
      rintro e w' ⟨rfl, rfl⟩
      go_wp2_with fail
      refine (HT.out _).mono ?_
      rintro e w2 ⟨rfl, hb⟩
      have HB := Lib.hid hb
      clear hb
      go_wp2_with fail
      go_ret3
      exact ⟨by rw [HP.out]; rfl, HB.out⟩
  · refine ⟨⟨#[]⟩, p, c, by show (0 : Nat) ≤ 4096; omega, .inr ⟨hc, hc5, hp, rfl, e, textF_err herr, hpe, hce⟩, fun w => ?_⟩
    have pne : ((c : Int) != 0) = true := by simp; omega
    clear herr hpe hce
    go_enter Try.func55, Try.ntmps55
    go_wp2_with fail
    refine (HC.out _).mono ?_
    rintro e w' ⟨rfl, rfl⟩
    go_wp2_with fail
    go_ret3
    exact ⟨rfl, Below.refl _ _⟩

end Pk
end Go.Proofs.Ytmllaighjhpbmaa
