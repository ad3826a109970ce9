/- Parts of the proof, joined: PkDone4, PkDone5, PkDone, RcEncL, RcTo, LtClone; their conditions stand with each. -/
import Derived.Lib.SliceRun
import Derived.Test.YtjehjbkcdpidbaaGreatB14
import Derived.Test.YtjehjbkcdpidbaaGreatB15
import Derived.Test.YtjehjbkcdpidbaaGreatB16
import Derived.Test.YtjehjbkcdpidbaaGreatB19

/- What the landed package reads: readUpTo, unfold, readSigned, readText; contracts; no condition but the range. -/
namespace Go.Proofs.YtjehjbkcdpidbaaGreat
namespace Pk
open Go.RowKit Bk

attribute [local go_sem ↓] Go.wp_at_zero Go.wp_at_succ
attribute [local go_sem] floatUpon pick

/-- what a reading of one thing says: it is x, and goes on at p; or it fails at p with c -/
def Sd {α : Type} (s : ByteArray) (r : Except Er (α × List UInt8)) (z x : α) (p c : Nat) : Prop :=
  (c = 0 ∧ p ≤ s.size ∧ r = .ok (x, s.data.toList.drop p)) ∨ (c ≠ 0 ∧ c ≤ 50 ∧ p ≤ s.size ∧ x = z ∧ ∃ e : Er, r = .error e ∧ p = e.place s.size ∧ c = e.code)

theorem Sd.in {α : Type} {s : ByteArray} {r : Except Er (α × List UInt8)} {z x : α} {p c : Nat} (h : Sd s r z x p c) : p ≤ s.size ∧ c ≤ 50 := by
  rcases h with ⟨h1, h2, _⟩ | ⟨_, h1, h2, _⟩ <;> exact ⟨by omega, by omega⟩

set_option maxRecDepth 20000 in
set_option maxHeartbeats 1000000 in
theorem upTo_any (s : ByteArray) (a most : Nat) (w : World) (ha : a ≤ s.size) (hs : s.size ≤ 1000000000000000) (hmost : most ≤ 4096) :
    Calls Tryz.prog 125 #[.int .i64 (most : Int), .string s, .int .i64 (a : Int)] w fun e w' => e = .returned (cntV s a most) ∧ w' = w := by
  have hB : (s.size : Int) ≤ 1000000000000000 := by omega
  have pa : (a : Int) ≤ (s.size : Int) := by omega
  have pm : (most : Int) ≤ 4096 := by omega
  have HR := Lib.hid (fun W => readInt_any s a W ha hs)
  cases hr : readR (s.data.toList.drop a) with
  | ok n u =>
    have h1 : readV s a = .tuple #[.int .i64 (n : Int), .int .i64 ((a + u : Nat) : Int), .int .i64 0] := by unfold readV; rw [hr]
    obtain ⟨_, hu, hn9⟩ := readR_ok hr
    have hn9' : n < 9223372036854775808 := hn9
    rw [h1] at HR
    by_cases hlt : most < n
    · have E := Lib.hid (show cntV s a most = .tuple #[.int .i64 0, .int .i64 (a : Int), .int .i64 2] by unfold cntV; rw [hr]; simp only; rw [if_pos hlt])
      have pl : (most : Int) < (n : Int) := by omega
      clear hr h1 hn9 hn9' hu
      generalize a + u = z at HR
      go_enter Tryz.func125, Tryz.ntmps125
      go_wp2_with fail
      refine (HR.out _).mono ?_
      rintro e w' ⟨rfl, rfl⟩
      go_wp2_with fail
      go_ret3
      exact ⟨by rw [E.out]; rfl, rfl⟩
    · have E := Lib.hid (show cntV s a most = .tuple #[.int .i64 (n : Int), .int .i64 ((a + u : Nat) : Int), .int .i64 0] by unfold cntV; rw [hr]; simp only; rw [if_neg hlt])
      have pl : (n : Int) ≤ (most : Int) := by omega
      clear hr h1 hn9 hn9' hu
      generalize a + u = z at HR E
      go_enter Tryz.func125, Tryz.ntmps125
      go_wp2_with fail
      refine (HR.out _).mono ?_
      rintro e w' ⟨rfl, rfl⟩
      go_wp2_with fail
      go_ret3
      exact ⟨by rw [E.out]; rfl, rfl⟩
  | fin =>
    have h1 : readV s a = .tuple #[.int .i64 0, .int .i64 (s.size : Int), .int .i64 50] := by unfold readV; rw [hr]
    have E := Lib.hid (show cntV s a most = .tuple #[.int .i64 0, .int .i64 (s.size : Int), .int .i64 50] by unfold cntV; rw [hr])
    rw [h1] at HR
    have pl : (0 : Int) ≤ (most : Int) := by omega
    clear hr h1
    go_enter Tryz.func125, Tryz.ntmps125
    go_wp2_with fail
    refine (HR.out _).mono ?_
    rintro e w' ⟨rfl, rfl⟩
    go_wp2_with fail
    go_ret3
    exact ⟨by rw [E.out]; rfl, rfl⟩
  | form =>
    have h1 : readV s a = .tuple #[.int .i64 0, .int .i64 (a : Int), .int .i64 3] := by unfold readV; rw [hr]
    have E := Lib.hid (show cntV s a most = .tuple #[.int .i64 0, .int .i64 (a : Int), .int .i64 3] by unfold cntV; rw [hr])
    rw [h1] at HR
    have pl : (0 : Int) ≤ (most : Int) := by omega
    clear hr h1
    go_enter Tryz.func125, Tryz.ntmps125
    go_wp2_with fail
    refine (HR.out _).mono ?_
    rintro e w' ⟨rfl, rfl⟩
    go_wp2_with fail
    go_ret3
    exact ⟨by rw [E.out]; rfl, rfl⟩

set_option maxRecDepth 20000 in
set_option maxHeartbeats 1000000 in
theorem unfold_any (n : Nat) (w : World) (hn : n < 9223372036854775808) :
    Calls Tryz.prog 127 #[.int .u64 (n : Int)] w fun e w' => e = .returned (.int .i64 (unzig n)) ∧ w' = w := by
  have hy : n / 2 ≤ 4611686018427387903 := by omega
  have hdiv : (n : Int).tdiv 2 = ((n / 2 : Nat) : Int) := by rw [Int.tdiv_eq_ediv_of_nonneg (by omega)]; omega
  have hmod : (n : Int).tmod 2 = ((n % 2 : Nat) : Int) := by rw [Int.tmod_eq_emod_of_nonneg (by omega)]; omega
  by_cases hodd : n % 2 = 1
  · have E := Lib.hid (show unzig n = -((n / 2 : Nat) : Int) - 1 by unfold unzig; rw [if_pos hodd])
    have hb : ((n : Int) % 2 == 1) = true := by rw [show (n : Int) % 2 = 1 by omega]; rfl
    rw [hodd] at hmod
    generalize n / 2 = y at hdiv hy E
    have hyi : (y : Int) ≤ 4611686018427387903 := by omega
    have hcv : IntKind.i64.wrap (y : Int) = (y : Int) := i64_wrap (by omega) (by omega)
    clear hodd
    go_enter Tryz.func127, Tryz.ntmps127
    go_wp2_with fail
    go_ret
    exact ⟨by rw [E.out]; rfl, rfl⟩
  · have E := Lib.hid (show unzig n = ((n / 2 : Nat) : Int) by unfold unzig; rw [if_neg hodd])
    have hb : ((n : Int) % 2 == 1) = false := by rw [show (n : Int) % 2 = 0 by omega]; rfl
    have hm0 : n % 2 = 0 := by omega
    rw [hm0] at hmod
    generalize n / 2 = y at hdiv hy E
    have hyi : (y : Int) ≤ 4611686018427387903 := by omega
    have hcv : IntKind.i64.wrap (y : Int) = (y : Int) := i64_wrap (by omega) (by omega)
    clear hodd hm0
    go_enter Tryz.func127, Tryz.ntmps127
    go_wp2_with fail
    go_ret
    exact ⟨by rw [E.out]; rfl, rfl⟩

/-- a signed number is read -/
def sgnF (L : List UInt8) : Except Er (Int × List UInt8) :=
  match numF L with
  | .error e => .error e
  | .ok (n, r) => .ok (unzig n, r)

theorem readF_said (s : ByteArray) (a : Nat) (ha : a ≤ s.size) : ∃ n p c : Nat, readVF s a = .tuple #[.int .u64 (n : Int), .int .i64 (p : Int), .int .i64 (c : Int)] ∧ Said s (numF (s.data.toList.drop a)) n p c := by
  cases hr : readR (s.data.toList.drop a) with
  | ok n u =>
    have h9 : n < 9223372036854775808 := (readR_ok hr).2.2
    refine ⟨n, a + u, 0, by unfold readVF; rw [hr]; rfl, .inl ⟨rfl, readR_in ha hr, h9, ?_⟩⟩
    unfold numF; rw [hr]; simp only [List.drop_drop]
  | fin => exact ⟨0, s.size, 50, by unfold readVF; rw [hr]; rfl, .inr ⟨by omega, by omega, by omega, rfl, .fin, by unfold numF; rw [hr], rfl, rfl⟩⟩
  | form => exact ⟨0, a, 3, by unfold readVF; rw [hr]; rfl, .inr ⟨by omega, by omega, by omega, rfl, .bad (s.data.toList.drop a).length 3, by unfold numF; rw [hr], by simp only [Er.place, List.length_drop, list_size]; omega, rfl⟩⟩

theorem sgn_said {s : ByteArray} {a n p c : Nat} (h : Said s (numF (s.data.toList.drop a)) n p c) : Sd s (sgnF (s.data.toList.drop a)) 0 (unzig n) p c := by
  rcases h with ⟨h1, h2, _, h4⟩ | ⟨h1, h2, h3, h4, e, h5, h6, h7⟩
  · exact .inl ⟨h1, h2, by unfold sgnF; rw [h4]⟩
  · exact .inr ⟨h1, h2, h3, by rw [h4]; rfl, e, by unfold sgnF; rw [h5], h6, h7⟩

set_option maxRecDepth 20000 in
set_option maxHeartbeats 1000000 in
theorem readSigned_any (s : ByteArray) (a : Nat) (ha : a ≤ s.size) (hs : s.size ≤ 1000000000000000) : ∃ (z : Int) (p c : Nat), Sd s (sgnF (s.data.toList.drop a)) 0 z p c ∧ ∀ w,
    Calls Tryz.prog 96 #[.string s, .int .i64 (a : Int)] w fun e w' => e = .returned (.tuple #[.int .i64 z, .int .i64 (p : Int), .int .i64 (c : Int)]) ∧ w' = w := by
  obtain ⟨n, p, c, hv, hsd⟩ := readF_said s a ha
  refine ⟨unzig n, p, c, sgn_said hsd, fun w => ?_⟩
  have hn9 : n < 9223372036854775808 := by rcases hsd with ⟨_, _, h, _⟩ | ⟨_, _, _, h, _⟩ <;> omega
  have HU := Lib.hid (fun W => unfold_any n W hn9)
  have hR := fun W => readFolded_any s a W ha hs
  rw [hv] at hR
  have HR := Lib.hid hR
  clear hR hsd hv hn9
  go_enter Tryz.func96, Tryz.ntmps96
  go_wp2_with fail
  refine (HR.out _).mono ?_
  rintro e w' ⟨rfl, rfl⟩
  go_wp2_with fail
  refine (HU.out _).mono ?_
  rintro e w2 ⟨rfl, rfl⟩
  go_wp2_with fail
  go_ret3
  exact ⟨rfl, rfl⟩

set_option maxRecDepth 20000 in
set_option maxHeartbeats 1000000 in
theorem readText_any (s : ByteArray) (a : Nat) (ha : a ≤ s.size) (hs : s.size ≤ 1000000000000000) : ∃ (t : ByteArray) (p c : Nat), t.size ≤ 4096 ∧ Sd s (textF (s.data.toList.drop a)) ⟨#[]⟩ t p c ∧ ∀ w,
    Calls Tryz.prog 98 #[.string s, .int .i64 (a : Int)] w fun e w' => e = .returned (.tuple #[.string t, .int .i64 (p : Int), .int .i64 (c : Int)]) ∧ Below w.heap.size w w' := by
  have hB : (s.size : Int) ≤ 1000000000000000 := by omega
  obtain ⟨n, p, c, hv, hsd, hn⟩ := cnt_said s a 4096 ha
  have hC : ∀ W, Calls Tryz.prog 125 #[.int .i64 4096, .string s, .int .i64 (a : Int)] W fun e w' => e = .returned (.tuple #[.int .i64 (n : Int), .int .i64 (p : Int), .int .i64 (c : Int)]) ∧ w' = W := fun W => by
    have h := upTo_any s a 4096 W ha hs (by omega)
    rw [hv] at h
    exact h
  have HC := Lib.hid hC
  clear hC hv
  rcases hsd with ⟨rfl, hp, _, hok⟩ | ⟨hc, hc5, hp, rfl, e, herr, hpe, hce⟩
  · have pp : (p : Int) ≤ (s.size : Int) := by omega
    have pn : (n : Int) ≤ 4096 := by omega
    have hlen : (s.data.toList.drop p).length = s.size - p := by rw [List.length_drop, list_size]
    by_cases hcut : s.size - p < n
    · have pcut : (s.size : Int) - (p : Int) < (n : Int) := by omega
      refine ⟨⟨#[]⟩, s.size, 50, by show (0 : Nat) ≤ 4096; omega, .inr ⟨by omega, by omega, by omega, rfl, .fin, textF_cut hok (by rw [hlen]; exact hcut), rfl, rfl⟩, fun w => ?_⟩
      clear hok hlen hcut
      go_enter Tryz.func98, Tryz.ntmps98
      go_wp2_with fail
      refine (HC.out _).mono ?_
      rintro e w' ⟨rfl, rfl⟩
      go_wp2_with fail
      go_ret3
      exact ⟨rfl, Below.refl _ _⟩
    · have pcut : (n : Int) ≤ (s.size : Int) - (p : Int) := by omega
      have pin : (p : Int) + (n : Int) ≤ (s.size : Int) := by omega
      have hall := textF_all hok (by rw [hlen]; exact hcut)
      have hsz : (⟨((s.data.toList.drop p).take n).toArray⟩ : ByteArray).size ≤ 4096 := by rw [text_size, List.length_take]; omega
      refine ⟨⟨((s.data.toList.drop p).take n).toArray⟩, p + n, 0, hsz, .inl ⟨rfl, by omega, by rw [hall, List.drop_drop]⟩, fun w => ?_⟩
      have hsl : ∀ W, (Instr.slice 9 (.string s) (some (.int .i64 (p : Int))) (some (.int .i64 ((p : Int) + (n : Int)))) none).run Tryz.prog W = .ok (.string ⟨((s.data.toList.drop p).take n).toArray⟩) W := fun W => by
        have := str_mid s p (p + n) (by omega) (by omega) (p : Int) ((p : Int) + (n : Int)) rfl (by omega) W
        rw [show p + n - p = n by omega] at this
        exact this
      generalize (⟨((s.data.toList.drop p).take n).toArray⟩ : ByteArray) = t at hsz hsl ⊢
      have HT := Lib.hid (fun W => clone_any t W (by omega))
      have HP := Lib.hid (show ((p + n : Nat) : Int) = (p : Int) + (n : Int) by omega)
      clear hok hlen hcut hall hsz
      go_enter Tryz.func98, Tryz.ntmps98
      go_wp2_with fail
      refine (HC.out _).mono ?_
      rintro e w' ⟨rfl, rfl⟩
      go_wp2_with fail
      refine (HT.out _).mono ?_
      rintro e w2 ⟨rfl, hb⟩
      have HB := Lib.hid hb
      clear hb
      go_wp2_with fail
      go_ret3
      exact ⟨by rw [HP.out]; rfl, HB.out⟩
  · refine ⟨⟨#[]⟩, p, c, by show (0 : Nat) ≤ 4096; omega, .inr ⟨hc, hc5, hp, rfl, e, textF_err herr, hpe, hce⟩, fun w => ?_⟩
    have pne : ((c : Int) != 0) = true := by simp; omega
    clear herr hpe hce
    go_enter Tryz.func98, Tryz.ntmps98
    go_wp2_with fail
    refine (HC.out _).mono ?_
    rintro e w' ⟨rfl, rfl⟩
    go_wp2_with fail
    go_ret3
    exact ⟨rfl, Below.refl _ _⟩

end Pk
end Go.Proofs.YtjehjbkcdpidbaaGreat

/- What the landed package reads of lists: readList of numbers and of texts; contracts; no condition but the range. -/
namespace Go.Proofs.YtjehjbkcdpidbaaGreat
namespace Pk
open Go.RowKit Bk

attribute [local go_sem ↓] Go.wp_at_zero Go.wp_at_succ
attribute [local go_sem] floatUpon pick

theorem goN_more2 {O : List Int} {k : Nat} {z : Int} {L r : List UInt8} (h : sgnF L = .ok (z, r)) : goN O (k + 1) L = goN (O ++ [z]) k r := by
  unfold sgnF at h
  cases h1 : numF L with
  | error e => rw [h1] at h; cases h
  | ok x =>
    obtain ⟨n, r1⟩ := x
    rw [h1] at h
    simp only [Except.ok.injEq, Prod.mk.injEq] at h
    obtain ⟨rfl, rfl⟩ := h
    exact goN_more h1

theorem goN_err2 {O : List Int} {k : Nat} {L : List UInt8} {e : Er} (h : sgnF L = .error e) : goN O (k + 1) L = .error e := by
  unfold sgnF at h
  cases h1 : numF L with
  | error e2 => rw [h1] at h; cases h; exact goN_err h1
  | ok x => obtain ⟨n, r1⟩ := x; rw [h1] at h; cases h

/-- a count, and so many signed numbers -/
def intsF (L : List UInt8) : Except Er (List Int × List UInt8) :=
  match cnt 1024 L with
  | .error e => .error e
  | .ok (k, r) => numsF k r

/-- a count, and so many texts -/
def txtsF (L : List UInt8) : Except Er (List ByteArray × List UInt8) :=
  match cnt 1024 L with
  | .error e => .error e
  | .ok (k, r) => textsF k r

theorem intsF_err {L : List UInt8} {e : Er} (h : cnt 1024 L = .error e) : intsF L = .error e := by unfold intsF; rw [h]
theorem intsF_ok {L r : List UInt8} {k : Nat} (h : cnt 1024 L = .ok (k, r)) : intsF L = goN [] (k - 0) r := by unfold intsF; rw [h, Nat.sub_zero, goN_start]
theorem txtsF_err {L : List UInt8} {e : Er} (h : cnt 1024 L = .error e) : txtsF L = .error e := by unfold txtsF; rw [h]
theorem txtsF_ok {L r : List UInt8} {k : Nat} (h : cnt 1024 L = .ok (k, r)) : txtsF L = goT [] (k - 0) r := by unfold txtsF; rw [h, Nat.sub_zero, goT_start]

theorem decL_lists (L : List UInt8) : decL L = match intsF L with
    | .error e => .error e
    | .ok (ns, r) => match txtsF r with
      | .error e => .error e
      | .ok (ts, r4) => if r4 = [] then .ok (ns, ts) else .error (.bad r4.length 3) := by
  unfold decL intsF
  cases cnt 1024 L with
  | error e => rfl
  | ok x =>
    obtain ⟨k, r1⟩ := x
    simp only
    cases numsF k r1 with
    | error e => rfl
    | ok y =>
      obtain ⟨ns, r2⟩ := y
      simp only
      unfold txtsF
      cases cnt 1024 r2 with
      | error e => rfl
      | ok z => rfl

/-- what a reading of a list of numbers answers -/
def IntsAns (s : ByteArray) (a : Nat) (w : World) : Ending → World → Prop := fun e w' =>
  ∃ (v : Value) (ns : List Int) (p c : Nat), e = .returned (.tuple #[v, .int .i64 (p : Int), .int .i64 (c : Int)]) ∧ w'.ownsRow w.heap.size 3 1 v ns.length (intV ns) ∧ Sd s (intsF (s.data.toList.drop a)) [] ns p c ∧ Below w.heap.size w w'

def TxtsAns (s : ByteArray) (a : Nat) (w : World) : Ending → World → Prop := fun e w' =>
  ∃ (v : Value) (ts : List ByteArray) (p c : Nat), e = .returned (.tuple #[v, .int .i64 (p : Int), .int .i64 (c : Int)]) ∧ w'.ownsRow w.heap.size 9 1 v ts.length (strV ts) ∧ Sd s (txtsF (s.data.toList.drop a)) [] ts p c ∧ Below w.heap.size w w'

set_option maxRecDepth 20000 in
set_option maxHeartbeats 2000000 in
theorem readInts_any (s : ByteArray) (a : Nat) (w : World) (ha : a ≤ s.size) (hs : s.size ≤ 1000000000000000) :
    Calls Tryz.prog 95 #[.string s, .int .i64 (a : Int), .func (.func 96) #[] #[]] w (IntsAns s a w) := by
  obtain ⟨i1, hi', hz0', hz1', hz2'⟩ := info_parts Tryz.infoInt
  have hB : (s.size : Int) ≤ 1000000000000000 := by omega
  obtain ⟨many, a0, c0, hv0, hs0, hmany⟩ := cnt_said s a 1024 ha
  have hC : ∀ W, Calls Tryz.prog 125 #[.int .i64 1024, .string s, .int .i64 (a : Int)] W fun e w' => e = .returned (.tuple #[.int .i64 (many : Int), .int .i64 (a0 : Int), .int .i64 (c0 : Int)]) ∧ w' = W := fun W => by
    have h := upTo_any s a 1024 W ha hs (by omega)
    rw [hv0] at h
    exact h
  have HC := Lib.hid hC
  have pmany : (many : Int) ≤ 1024 := by omega
  have HMk : Hid (∀ (v : Value) (ns : List Int) (p c : Nat) (w' : World), w'.ownsRow w.heap.size 3 1 v ns.length (intV ns) → Sd s (intsF (s.data.toList.drop a)) [] ns p c → Below w.heap.size w w' → IntsAns s a w (.returned (.tuple #[v, .int .i64 (p : Int), .int .i64 (c : Int)])) w') := Lib.hid (fun v ns p c w' h1 h2 h3 => ⟨v, ns, p, c, rfl, h1, h2, h3⟩)
  have hItem := fun b (hb : b ≤ s.size) => readSigned_any s b hb hs
  have HItem := Lib.hid hItem
  clear hC hv0 hItem hs
  rcases hs0 with ⟨rfl, hp0, _, hok⟩ | ⟨hc, hc5, hp, _, er, herr, hpe, hce⟩
  · have HF := Lib.hid (intsF_ok hok)
    clear hok
    go_enter Tryz.func95, Tryz.ntmps95
    go_wp2_with fail
    refine (HC.out _).mono ?_
    rintro e w' ⟨rfl, rfl⟩
    clear HC
    go_wp2_with fail
    obtain ⟨wo, rfl⟩ : ∃ wo : World, wo = w' := ⟨_, rfl⟩
    go_loopw [6, 7, 23] (fun v x i wr => ∃ (j p : Nat) (O : List Int) (u : Value), u = v ∧ j ≤ many ∧ p ≤ s.size ∧ O.length = j ∧ i = .int .i64 (j : Int) ∧ x = .int .i64 (p : Int) ∧ Hid (intsF (s.data.toList.drop a) = goN O (many - j) (s.data.toList.drop p)) ∧ Hid (wr.ownsRow wo.heap.size 3 1 v j (intV O)) ∧ Hid (Below wo.heap.size wo wr)) (fun _ _ i _ => many - (intOf i).toNat)
    case atStart => exact ⟨0, a0, [], _, rfl, by omega, hp0, rfl, rfl, rfl, HF.out, World.ownsRow_nil _ _ _ _, Below.refl _ _⟩
    case round =>
      obtain ⟨j, p, O, u, rfl, hj, hp, hOl, rfl, rfl, hst, hown, hbel⟩ := hrel
      clear HF
      have pp : (p : Int) ≤ (s.size : Int) := by omega
      by_cases hlt : j < many
      · have pj : (j : Int) < (many : Int) := by omega
        have hst2 := hst.out
        rw [show many - j = (many - (j + 1)) + 1 by omega] at hst2
        obtain ⟨z, q, c, hsd, hcall⟩ := HItem.out p hp
        have HR := Lib.hid hcall
        have hin := hsd.in
        clear hcall hst
        by_cases hc0 : c = 0
        · subst hc0
          have hok : sgnF (s.data.toList.drop p) = .ok (z, s.data.toList.drop q) := by
            rcases hsd with ⟨_, _, h⟩ | ⟨h, _⟩
            · exact h
            · exact absurd rfl h
          have HS := Lib.hid (hst2.trans (goN_more2 hok))
          have HSn := Lib.hid (intV_snoc O z)
          have hq := hin.1
          clear hsd hok hst2 hin
          go_wp2_with fail
          refine (HR.out _).mono ?_
          rintro e w2 ⟨rfl, rfl⟩
          go_wp2_with (at_builtin; refine wpList_append_own_at _ rfl _ _ 38 rfl wo.heap.size 3 i1 (.int .i64 0) 1 8 Tryz.underlying38 hi' hz0' hz1' hz2' rfl (by decide) _ _ _ rfl (hown.out.alloc _) ⟨w2.heap.size, 0, none⟩ 1 1 [.int .i64 z] rfl rfl ?c1 ?c2 ?c3 ?c4 ?c5 ?_)
          case c1 => exact cell_one_new _ _ _
          case c2 => intro u hu; simp at hu; subst hu; rfl
          case c3 => unfold maxLen; omega
          case c4 => omega
          case c5 => have := hbel.out.size; simp; omega
          intro v' w5 hown' hgrow _ hat
          have HB5 := Lib.hid (below_append hown.out hbel.out (Nat.le_refl _) hgrow)
          rw [← HSn.out] at hown'
          have HO5 := Lib.hid hown'
          clear hown' hgrow hat hown hbel
          go_wp2_with fail
          go_roundw
          case rel => exact ⟨j + 1, q, O ++ [z], _, rfl, by omega, hq, by rw [List.length_append, List.length_singleton, hOl], by go_num, rfl, HS.out, HO5.out, HB5.out⟩
          case measure => simp [intOf]; omega
        · have HS : Hid (Sd s (intsF (s.data.toList.drop a)) [] [] q c) := by
            rcases hsd with ⟨h, _⟩ | ⟨h1, h2, h3, _, er, h4, h5, h6⟩
            · exact absurd h hc0
            · exact .inr ⟨h1, h2, h3, rfl, er, hst2.trans (goN_err2 h4), h5, h6⟩
          have pne : ((c : Int) != 0) = true := by simp; omega
          clear hsd hst2 hin hc0
          go_wp2_with fail
          refine (HR.out _).mono ?_
          rintro e w2 ⟨rfl, rfl⟩
          go_wp2_with fail
          go_ret3
          exact HMk.out _ [] q c _ (World.ownsRow_nil _ _ _ _) HS.out hbel.out
      · obtain rfl : j = many := by omega
        have hst2 := hst.out
        rw [Nat.sub_self, goN_done] at hst2
        have HS : Hid (Sd s (intsF (s.data.toList.drop a)) [] O p 0) := .inl ⟨rfl, hp, hst2⟩
        have HO : Hid (wr.ownsRow wo.heap.size 3 1 u O.length (intV O)) := by rw [hOl]; exact hown.out
        clear hst hst2 hown
        go_wp2_with fail
        go_ret3
        exact HMk.out _ O p 0 _ HO.out HS.out hbel.out
  · have HS : Hid (Sd s (intsF (s.data.toList.drop a)) [] [] a0 c0) := .inr ⟨hc, hc5, hp, rfl, er, intsF_err herr, hpe, hce⟩
    have pne : ((c0 : Int) != 0) = true := by simp; omega
    clear herr hpe hce hc
    go_enter Tryz.func95, Tryz.ntmps95
    go_wp2_with fail
    refine (HC.out _).mono ?_
    rintro e w' ⟨rfl, rfl⟩
    go_wp2_with fail
    go_ret3
    exact HMk.out _ [] a0 c0 _ (World.ownsRow_nil _ _ _ _) HS.out (Below.refl _ _)

set_option maxRecDepth 20000 in
set_option maxHeartbeats 2000000 in
theorem readTexts_any (s : ByteArray) (a : Nat) (w : World) (ha : a ≤ s.size) (hs : s.size ≤ 1000000000000000) :
    Calls Tryz.prog 97 #[.string s, .int .i64 (a : Int), .func (.func 98) #[] #[]] w (TxtsAns s a w) := by
  obtain ⟨i1, hi', hz0', hz1', hz2'⟩ := info_parts Tryz.infoStr
  have hB : (s.size : Int) ≤ 1000000000000000 := by omega
  obtain ⟨many, a0, c0, hv0, hs0, hmany⟩ := cnt_said s a 1024 ha
  have hC : ∀ W, Calls Tryz.prog 125 #[.int .i64 1024, .string s, .int .i64 (a : Int)] W fun e w' => e = .returned (.tuple #[.int .i64 (many : Int), .int .i64 (a0 : Int), .int .i64 (c0 : Int)]) ∧ w' = W := fun W => by
    have h := upTo_any s a 1024 W ha hs (by omega)
    rw [hv0] at h
    exact h
  have HC := Lib.hid hC
  have pmany : (many : Int) ≤ 1024 := by omega
  have HMk : Hid (∀ (v : Value) (ns : List ByteArray) (p c : Nat) (w' : World), w'.ownsRow w.heap.size 9 1 v ns.length (strV ns) → Sd s (txtsF (s.data.toList.drop a)) [] ns p c → Below w.heap.size w w' → TxtsAns s a w (.returned (.tuple #[v, .int .i64 (p : Int), .int .i64 (c : Int)])) w') := Lib.hid (fun v ns p c w' h1 h2 h3 => ⟨v, ns, p, c, rfl, h1, h2, h3⟩)
  have hItem := fun b (hb : b ≤ s.size) => readText_any s b hb hs
  have HItem := Lib.hid hItem
  clear hC hv0 hItem hs
  rcases hs0 with ⟨rfl, hp0, _, hok⟩ | ⟨hc, hc5, hp, _, er, herr, hpe, hce⟩
  · have HF := Lib.hid (txtsF_ok hok)
    clear hok
    go_enter Tryz.func97, Tryz.ntmps97
    go_wp2_with fail
    refine (HC.out _).mono ?_
    rintro e w' ⟨rfl, rfl⟩
    clear HC
    go_wp2_with fail
    obtain ⟨wo, rfl⟩ : ∃ wo : World, wo = w' := ⟨_, rfl⟩
    go_loopw [6, 7, 23] (fun v x i wr => ∃ (j p : Nat) (O : List ByteArray) (u : Value), u = v ∧ j ≤ many ∧ p ≤ s.size ∧ O.length = j ∧ i = .int .i64 (j : Int) ∧ x = .int .i64 (p : Int) ∧ Hid (txtsF (s.data.toList.drop a) = goT O (many - j) (s.data.toList.drop p)) ∧ Hid (wr.ownsRow wo.heap.size 9 1 v j (strV O)) ∧ Hid (Below wo.heap.size wo wr)) (fun _ _ i _ => many - (intOf i).toNat)
    case atStart => exact ⟨0, a0, [], _, rfl, by omega, hp0, rfl, rfl, rfl, HF.out, World.ownsRow_nil _ _ _ _, Below.refl _ _⟩
    case round =>
      obtain ⟨j, p, O, u, rfl, hj, hp, hOl, rfl, rfl, hst, hown, hbel⟩ := hrel
      clear HF
      have pp : (p : Int) ≤ (s.size : Int) := by omega
      by_cases hlt : j < many
      · have pj : (j : Int) < (many : Int) := by omega
        have hst2 := hst.out
        rw [show many - j = (many - (j + 1)) + 1 by omega] at hst2
        obtain ⟨z, q, c, _hz, hsd, hcall⟩ := HItem.out p hp
        have HR := Lib.hid hcall
        have hin := hsd.in
        clear hcall hst
        by_cases hc0 : c = 0
        · subst hc0
          have hok : textF (s.data.toList.drop p) = .ok (z, s.data.toList.drop q) := by
            rcases hsd with ⟨_, _, h⟩ | ⟨h, _⟩
            · exact h
            · exact absurd rfl h
          have HS := Lib.hid (hst2.trans (goT_more hok))
          have HSn := Lib.hid (strV_snoc2 O z)
          have hq := hin.1
          clear hsd hok hst2 hin
          go_wp2_with fail
          refine (HR.out _).mono ?_
          rintro e w2 ⟨rfl, hb⟩
          have HO2 := Lib.hid (st_keep hown.out hb)
          have HL2 := Lib.hid (hbel.out.trans (hb.mono hbel.out.size))
          clear hb
          go_wp2_with (at_builtin; refine wpList_append_own_at _ rfl _ _ 37 rfl wo.heap.size 9 i1 (.string ⟨#[]⟩) 1 16 Tryz.underlying37 hi' hz0' hz1' hz2' rfl (by decide) _ _ _ rfl (HO2.out.alloc _) ⟨w2.heap.size, 0, none⟩ 1 1 [.string z] rfl rfl ?c1 ?c2 ?c3 ?c4 ?c5 ?_)
          case c1 => exact cell_one_new _ _ _
          case c2 => intro u hu; simp at hu; subst hu; rfl
          case c3 => unfold maxLen; omega
          case c4 => omega
          case c5 => have := HL2.out.size; simp; omega
          intro v' w5 hown' hgrow _ hat
          have HB5 := Lib.hid (below_append HO2.out HL2.out (Nat.le_refl _) hgrow)
          rw [← HSn.out] at hown'
          have HO5 := Lib.hid hown'
          clear hown' hgrow hat hown hbel
          go_wp2_with fail
          go_roundw
          case rel => exact ⟨j + 1, q, O ++ [z], _, rfl, by omega, hq, by rw [List.length_append, List.length_singleton, hOl], by go_num, rfl, HS.out, HO5.out, HB5.out⟩
          case measure => simp [intOf]; omega
        · have HS : Hid (Sd s (txtsF (s.data.toList.drop a)) [] [] q c) := by
            rcases hsd with ⟨h, _⟩ | ⟨h1, h2, h3, _, er, h4, h5, h6⟩
            · exact absurd h hc0
            · exact .inr ⟨h1, h2, h3, rfl, er, hst2.trans (goT_err h4), h5, h6⟩
          have pne : ((c : Int) != 0) = true := by simp; omega
          clear hsd hst2 hin hc0
          go_wp2_with fail
          refine (HR.out _).mono ?_
          rintro e w2 ⟨rfl, hb⟩
          have HL2 := Lib.hid (hbel.out.trans (hb.mono hbel.out.size))
          clear hb
          go_wp2_with fail
          go_ret3
          exact HMk.out _ [] q c _ (World.ownsRow_nil _ _ _ _) HS.out HL2.out
      · obtain rfl : j = many := by omega
        have hst2 := hst.out
        rw [Nat.sub_self, goT_done] at hst2
        have HS : Hid (Sd s (txtsF (s.data.toList.drop a)) [] O p 0) := .inl ⟨rfl, hp, hst2⟩
        have HO : Hid (wr.ownsRow wo.heap.size 9 1 u O.length (strV O)) := by rw [hOl]; exact hown.out
        clear hst hst2 hown
        go_wp2_with fail
        go_ret3
        exact HMk.out _ O p 0 _ HO.out HS.out hbel.out
  · have HS : Hid (Sd s (txtsF (s.data.toList.drop a)) [] [] a0 c0) := .inr ⟨hc, hc5, hp, rfl, er, txtsF_err herr, hpe, hce⟩
    have pne : ((c0 : Int) != 0) = true := by simp; omega
    clear herr hpe hce hc
    go_enter Tryz.func97, Tryz.ntmps97
    go_wp2_with fail
    refine (HC.out _).mono ?_
    rintro e w' ⟨rfl, rfl⟩
    go_wp2_with fail
    go_ret3
    exact HMk.out _ [] a0 c0 _ (World.ownsRow_nil _ _ _ _) HS.out (Below.refl _ _)

end Pk
end Go.Proofs.YtjehjbkcdpidbaaGreat

/- What the landed package's Decode answers: contract; no condition but the range. -/
namespace Go.Proofs.YtjehjbkcdpidbaaGreat
namespace Pk
open Go.RowKit Bk

attribute [local go_sem ↓] Go.wp_at_zero Go.wp_at_succ
attribute [local go_sem] floatUpon pick

set_option maxRecDepth 20000 in
set_option maxHeartbeats 2000000 in
theorem decodeAll : DecodeAll := by
  intro s w hs
  have hB : (s.size : Int) ≤ 1000000000000000 := by omega
  have HMk : Hid (∀ (A B : Option Addr) (c d : Nat) (x y : Nat) (ns : List Int) (ts : List ByteArray) (w' : World), decR s = (ns, ts, x, y) → IntsAt w' A ns → StrsAt w' B ts → Below w.heap.size w w' → ns.length ≤ c → ts.length ≤ d → c ≤ maxLen → d ≤ maxLen → DecAns2 s w (.returned (.tuple #[packV A B c d ns ts, .int .i64 (x : Int), .int .i64 (y : Int)])) w') := Lib.hid (fun A B c d x y ns ts w' h1 h2 h3 h4 h5 h6 h7 h8 => by
    refine ⟨A, B, c, d, ?_, ?_, ?_, h4, ?_, ?_, h7, h8⟩ <;> rw [h1]
    · exact h2
    · exact h3
    · exact h5
    · exact h6)
  unfold packV at HMk
  have HI := Lib.hid (fun W => readInts_any s 0 W (by omega) hs)
  have HT := Lib.hid (fun a (ha : a ≤ s.size) W => readTexts_any s a W ha hs)
  unfold IntsAns at HI
  unfold TxtsAns at HT
  clear hs
  go_enter Tryz.func55, Tryz.ntmps55
  go_upto_region 1 with fail
  have hR0 : Cel (w.alloc (.cells #[.slice none 0 0, .slice none 0 0] 88)) w.heap.size 88 [.slice none 0 0, .slice none 0 0] := (blk1 w _).2
  have hBW : Below w.heap.size w (w.alloc (.cells #[.slice none 0 0, .slice none 0 0] 88)) := (Below.refl _ w).alloc (Nat.le_refl _) _
  generalize w.alloc (.cells #[.slice none 0 0, .slice none 0 0] 88) = W1 at hR0 hBW ⊢
  have HR0 := Lib.hid hR0
  have HBW := Lib.hid hBW
  clear hR0 hBW
  go_wp2_with fail
  refine (HI.out _).mono ?_
  rintro e w2 ⟨v1, ns, p, c, rfl, hown1, hsd, hb⟩
  rw [List.drop_zero] at hsd
  have HR2 := Lib.hid (HR0.out.below hb)
  have HB2 := Lib.hid (HBW.out.trans (hb.mono HBW.out.size))
  have hlt1 : w.heap.size < W1.heap.size := HR0.out.lt
  have HS12 := Lib.hid hb.size
  clear HI hb
  rcases hsd with ⟨rfl, hp, hok⟩ | ⟨hc, hc5, hp, rfl, er, herr, hpe, hce⟩
  · have HO1 := Lib.hid hown1
    have HOk := Lib.hid hok
    have HTp := Lib.hid (HT.out p hp)
    clear hown1 hok HT hp HR0 HBW
    go_wp2_with fail
    refine (HTp.out _).mono ?_
    rintro e w3 ⟨v2, ts, q, c, rfl, hown2, hsd, hb⟩
    have HR3 := Lib.hid (HR2.out.below hb)
    have HO3 := Lib.hid (st_keep HO1.out hb)
    have HB3 := Lib.hid (HB2.out.trans (hb.mono HB2.out.size))
    have hw12 : W1.heap.size ≤ w2.heap.size := HS12.out
    have HO2 := Lib.hid (owns_lower hown2 hw12)
    clear hown2 hb HO1 HR2 HB2 HTp hw12 HS12
    rcases hsd with ⟨rfl, hq, hok2⟩ | ⟨hc, hc5, hq, rfl, er, herr, hpe, hce⟩
    · by_cases hlt : q < s.size
      · have HD := Lib.hid (show decR s = ([], [], q, 3) by
          unfold decR
          rw [decL_lists, HOk.out]; simp only; rw [hok2]; simp only
          rw [if_neg (fun e => by have := List.drop_eq_nil_iff.1 e; rw [list_size] at this; omega)]
          simp only [Er.place, Er.code, List.length_drop, list_size]
          rw [show s.size - (s.size - q) = q by omega])
        have pq : (q : Int) < (s.size : Int) := by omega
        have q0 := HR3.out.cell (i := 0) rfl
        have q1 := HR3.out.cell (i := 1) rfl
        have q2 := HR3.out.free (i := 0)
        have q3 := HR3.out.free (i := 1)
        clear hok2 hlt
        go_wp2_with fail
        have HF := Lib.hid ((HR3.out.set (i := 0) (v := .slice none 0 0)).set (i := 1) (v := .slice none 0 0))
        have z0 := HF.out.cell (i := 0) rfl
        have z1 := HF.out.cell (i := 1) rfl
        exact bodyPost_ret (v := .tuple #[.agg #[.slice none 0 0, .slice none 0 0], .int .i64 (q : Int), .int .i64 (3 : Int)]) (by simp [results, Tryz.results55, go_sem, z0, z1]) rfl
          (HMk.out none none 0 0 q 3 [] [] _ HD.out noInts noStrs ((HB3.out.setCell (Nat.le_refl _) _).setCell (Nat.le_refl _) _) (Nat.zero_le _) (Nat.zero_le _) (Nat.zero_le _) (Nat.zero_le _))
      · have HD := Lib.hid (show decR s = (ns, ts, 0, 0) by
          unfold decR
          rw [decL_lists, HOk.out]; simp only; rw [hok2]; simp only
          rw [if_pos (List.drop_eq_nil_of_le (by rw [list_size]; omega))])
        have pq : (s.size : Int) ≤ (q : Int) := by omega
        have q0 := HR3.out.cell (i := 0) rfl
        have q1 := HR3.out.cell (i := 1) rfl
        have q2 := HR3.out.free (i := 0)
        have q3 := HR3.out.free (i := 1)
        obtain ⟨A1, cA, rfl, l1, l2⟩ := own_form HO3.out
        obtain ⟨B1, cB, rfl, l3, l4⟩ := own_form HO2.out
        have HL := Lib.hid (And.intro l1 (And.intro l2 (And.intro l3 l4)))
        clear hok2 hlt l1 l2 l3 l4
        go_wp2_with fail
        have HF := Lib.hid ((HR3.out.set (i := 0) (v := .slice A1 ns.length cA)).set (i := 1) (v := .slice B1 ts.length cB))
        have z0 := HF.out.cell (i := 0) rfl
        have z1 := HF.out.cell (i := 1) rfl
        have rr0 := ownsRow_setCell_below (ownsRow_setCell_below HO3.out (a := ⟨w.heap.size, 0, none⟩) hlt1 (.slice A1 ns.length cA)) (a := ⟨w.heap.size, 1, none⟩) hlt1 (.slice B1 ts.length cB)
        have rr1 := ownsRow_setCell_below (ownsRow_setCell_below HO2.out (a := ⟨w.heap.size, 0, none⟩) hlt1 (.slice A1 ns.length cA)) (a := ⟨w.heap.size, 1, none⟩) hlt1 (.slice B1 ts.length cB)
        exact bodyPost_ret (v := .tuple #[.agg #[.slice A1 ns.length cA, .slice B1 ts.length cB], .int .i64 ((0 : Nat) : Int), .int .i64 ((0 : Nat) : Int)]) (by simp [results, Tryz.results55, go_sem, z0, z1]) rfl
          (HMk.out A1 B1 cA cB 0 0 ns ts _ HD.out (ints_own_at rr0 rfl) (strs_own_at rr1 rfl) ((HB3.out.setCell (Nat.le_refl _) _).setCell (Nat.le_refl _) _) HL.out.1 HL.out.2.2.1 HL.out.2.1 HL.out.2.2.2)
    · have HD := Lib.hid (show decR s = ([], [], q, c) by
        unfold decR
        rw [decL_lists, HOk.out]; simp only; rw [herr, hpe, hce])
      have pne : ((c : Int) != 0) = true := by simp; omega
      have q0 := HR3.out.cell (i := 0) rfl
      have q1 := HR3.out.cell (i := 1) rfl
      have q2 := HR3.out.free (i := 0)
      have q3 := HR3.out.free (i := 1)
      clear herr hpe hce hc
      go_wp2_with fail
      have HF := Lib.hid ((HR3.out.set (i := 0) (v := .slice none 0 0)).set (i := 1) (v := .slice none 0 0))
      have z0 := HF.out.cell (i := 0) rfl
      have z1 := HF.out.cell (i := 1) rfl
      exact bodyPost_ret (v := .tuple #[.agg #[.slice none 0 0, .slice none 0 0], .int .i64 (q : Int), .int .i64 (c : Int)]) (by simp [results, Tryz.results55, go_sem, z0, z1]) rfl
        (HMk.out none none 0 0 q c [] [] _ HD.out noInts noStrs ((HB3.out.setCell (Nat.le_refl _) _).setCell (Nat.le_refl _) _) (Nat.zero_le _) (Nat.zero_le _) (Nat.zero_le _) (Nat.zero_le _))
  · have HD := Lib.hid (show decR s = ([], [], p, c) by
      unfold decR; rw [decL_lists, herr, hpe, hce])
    have pne : ((c : Int) != 0) = true := by simp; omega
    have q0 := HR2.out.cell (i := 0) rfl
    have q1 := HR2.out.cell (i := 1) rfl
    have q2 := HR2.out.free (i := 0)
    have q3 := HR2.out.free (i := 1)
    clear herr hpe hce hc hown1 HT HR0 HBW
    go_wp2_with fail
    have HF := Lib.hid ((HR2.out.set (i := 0) (v := .slice none 0 0)).set (i := 1) (v := .slice none 0 0))
    have z0 := HF.out.cell (i := 0) rfl
    have z1 := HF.out.cell (i := 1) rfl
    exact bodyPost_ret (v := .tuple #[.agg #[.slice none 0 0, .slice none 0 0], .int .i64 (p : Int), .int .i64 (c : Int)]) (by simp [results, Tryz.results55, go_sem, z0, z1]) rfl
      (HMk.out none none 0 0 p c [] [] _ HD.out noInts noStrs ((HB2.out.setCell (Nat.le_refl _) _).setCell (Nat.le_refl _) _) (Nat.zero_le _) (Nat.zero_le _) (Nat.zero_le _) (Nat.zero_le _))

end Pk
end Go.Proofs.YtjehjbkcdpidbaaGreat

/- What the landed package's Encode answers: all that is asked; no condition but the range. -/
namespace Go.Proofs.YtjehjbkcdpidbaaGreat
namespace Rc
open Go.RowKit Bk Lt

attribute [local go_sem ↓] Go.wp_at_zero Go.wp_at_succ
attribute [local go_sem] floatUpon pick

theorem RecOk.arg {r : Rec} (h : RecOk r) {c d : Nat} (h1 : (numsOf r).length ≤ c) (h2 : (textsOf r).length ≤ d) (h3 : c ≤ maxLen) (h4 : d ≤ maxLen) : Pk.ArgOk c d (numsOf r) (textsOf r) := by
  obtain ⟨m1, m2, m3, m4⟩ := h.pack
  exact ⟨by omega, by omega, fun n hn => by have := m3 n hn; unfold Pk.numOk at this; omega, fun t ht => by have := m4 t ht; omega, h1, h2, h3, h4⟩

set_option maxRecDepth 20000 in
set_option maxHeartbeats 2000000 in
theorem lencodeAll : EncodeAll := by
  intro A B c d r w h
  have HC := Lib.hid (fun W (hbl : Below w.heap.size w W) => rcheck_any A B c d r W (h.ks.below hbl) (h.ws.below hbl) h.rng.toRecRng)
  have henv := RcEnv.start (c := c) (d := d) h.ks h.ws
  by_cases hm : RecOk r
  · have E := Lib.hid (encV_ok hm)
    have HB := Lib.hid (fun W (hbl : Below w.heap.size w W) => toPack_any A B c d r W (h.ks.below hbl) (h.ws.below hbl) (fun e => (h.kn e).2) hm)
    have HP := Lib.hid (fun A1 B1 c1 d1 W (h1 : IntsAt W A1 (numsOf r)) (h2 : StrsAt W B1 (textsOf r)) (h3 : (numsOf r).length ≤ c1) (h4 : (textsOf r).length ≤ d1) (h5 : c1 ≤ maxLen) (h6 : d1 ≤ maxLen) => Pk.encodeAll A1 B1 c1 d1 (numsOf r) (textsOf r) W h1 h2 (hm.arg h3 h4 h5 h6))
    rw [Pk.encV_ok hm.pack] at HP
    rw [ckN_of hm] at HC
    have HE := Lib.hid henv
    unfold recV at HC HB ⊢
    unfold Pk.packV at HB HP
    clear h hm henv
    go_enter Tryz.func13, Tryz.ntmps13
    go_wp2_with fail
    refine (HC.out _ ((Below.refl _ w).alloc (Nat.le_refl _) _)).mono ?_
    rintro e w1 ⟨rfl, hb⟩
    have henv := HE.out.step hb
    have HB1 := Lib.hid henv.bel
    have k0 := henv.cel.cell (i := 0) rfl
    have k1 := henv.cel.cell (i := 1) rfl
    have k2 := henv.cel.cell (i := 2) rfl
    have k3 := henv.cel.cell (i := 3) rfl
    have k4 := henv.cel.cell (i := 4) rfl
    have k5 := henv.cel.cell (i := 5) rfl
    have k6 := henv.cel.cell (i := 6) rfl
    have k7 := henv.cel.cell (i := 7) rfl
    have k8 := henv.cel.cell (i := 8) rfl
    clear hb HC HE henv
    go_wp2_with fail
    refine (HB.out _ HB1.out).mono ?_
    rintro e w2 ⟨A1, B1, c1, d1, rfl, g1, g2, g3, g4, g5, g6, hb⟩
    have HB2 := Lib.hid (HB1.out.trans (hb.mono HB1.out.size))
    have HP2 := Lib.hid (HP.out A1 B1 c1 d1 w2 g1 g2 g3 g4 g5 g6)
    clear hb g1 g2 g3 g4 g5 g6 HP HB
    go_wp2_with fail
    refine HP2.out.mono ?_
    rintro e w3 ⟨rfl, hb⟩
    have HB3 := Lib.hid (HB2.out.trans (hb.mono HB2.out.size))
    clear hb
    go_wp2_with fail
    go_ret2
    exact ⟨by rw [E.out]; rfl, HB3.out⟩
  · have E := Lib.hid (encV_bad hm)
    rw [ckN_not hm] at HC
    unfold recV at HC ⊢
    clear h hm henv
    go_enter Tryz.func13, Tryz.ntmps13
    go_wp2_with fail
    refine (HC.out _ ((Below.refl _ w).alloc (Nat.le_refl _) _)).mono ?_
    rintro e w1 ⟨rfl, hb⟩
    have HB1 := Lib.hid (below_new hb)
    clear hb HC
    go_wp2_with fail
    go_ret2
    exact ⟨by rw [E.out]; rfl, HB1.out⟩

end Rc
end Go.Proofs.YtjehjbkcdpidbaaGreat

/- What the landed package's toWrites answers: the writes of numbers and texts; contract; no condition but the range. -/
namespace Go.Proofs.YtjehjbkcdpidbaaGreat
namespace Rc
open Go.RowKit Bk Lt

attribute [local go_sem ↓] Go.wp_at_zero Go.wp_at_succ
attribute [local go_sem] floatUpon pick

/-- what toWrites answers -/
def TwAns (fs : List Int) (ts : List ByteArray) (w : World) : Ending → World → Prop := fun e w' =>
  ((∀ f ∈ fs, f = 0 ∨ f = 1) ∧ ∃ v, e = .returned (.tuple #[v, .bool true]) ∧ w'.ownsRow w.heap.size 139 3 v fs.length (wrV (pairL fs ts)) ∧ Below w.heap.size w w') ∨
  (¬ (∀ f ∈ fs, f = 0 ∨ f = 1) ∧ e = .returned (.tuple #[.slice none 0 0, .bool false]) ∧ Below w.heap.size w w')

set_option maxRecDepth 20000 in
set_option maxHeartbeats 4000000 in
theorem toWrites_any (A B : Option Addr) (c d : Nat) (fs : List Int) (ts : List ByteArray) (w : World) (ha : IntsAt w A fs) (hb : StrsAt w B ts) (hl : ts.length = 2 * fs.length) (h1 : fs.length ≤ 100000) :
    Calls Tryz.prog 100 #[.slice A fs.length c, .slice B ts.length d] w (TwAns fs ts w) := by
  obtain ⟨i0, hi, hz0, hz1, hz2⟩ := info_parts Tryz.infoWrite
  have hpl := pairL_len fs ts hl
  have pfl : (fs.length : Int) ≤ 100000 := by omega
  have HMk : Hid (∀ v w', (∀ f ∈ fs, f = 0 ∨ f = 1) → w'.ownsRow w.heap.size 139 3 v fs.length (wrV (pairL fs ts)) → Below w.heap.size w w' → TwAns fs ts w (.returned (.tuple #[v, .bool true])) w') := Lib.hid (fun v w' h a b => .inl ⟨h, v, rfl, a, b⟩)
  have HMn : Hid (∀ w', ¬ (∀ f ∈ fs, f = 0 ∨ f = 1) → Below w.heap.size w w' → TwAns fs ts w (.returned (.tuple #[.slice none 0 0, .bool false])) w') := Lib.hid (fun w' h b => .inr ⟨h, rfl, b⟩)
  have HL := Lib.hid hl
  have HPl := Lib.hid hpl
  have HA := Lib.hid ha
  have HB := Lib.hid hb
  clear hl hpl ha hb
  go_enter Tryz.func100, Tryz.ntmps100
  go_wp2_with fail
  go_loopw [6, 13] (fun x i wr => ∃ (j : Nat) (u : Value), u = x ∧ j ≤ fs.length ∧ i = .int .i64 (j : Int) ∧ Hid (∀ f ∈ fs.take j, f = 0 ∨ f = 1) ∧ Hid (wr.ownsRow w.heap.size 139 3 u j (wrV ((pairL fs ts).take j))) ∧ Hid (Below w.heap.size w wr)) (fun _ i _ => fs.length - (intOf i).toNat)
  case atStart => exact ⟨0, _, rfl, by omega, rfl, fun f h => absurd h (by simp), World.ownsRow_nil _ _ _ _, Below.refl _ _⟩
  case round =>
    obtain ⟨j, u, rfl, hj, rfl, hall, hown, hbel⟩ := hrel
    by_cases hlt : j < fs.length
    · have pj : (j : Int) < (fs.length : Int) := by omega
      have l1 : 2 * j < ts.length := by have := HL.out; omega
      have l2 : 2 * j + 1 < ts.length := by have := HL.out; omega
      obtain ⟨ad, rfl, _, _⟩ := HA.out (by omega)
      obtain ⟨bd, rfl, _, _⟩ := HB.out (by omega)
      have hp := pairL_at fs ts HL.out j hlt (by rw [HPl.out]; exact hlt) l1 l2
      have hmem : fs[j] ∈ fs := List.getElem_mem hlt
      have hT := fun W => toBool_any fs[j] W
      have hAl := mem_take_succ hlt hall.out
      obtain ⟨k, hk⟩ : ∃ k, k = ts[2 * j] := ⟨_, rfl⟩
      obtain ⟨s, hs⟩ : ∃ s, s = ts[2 * j + 1] := ⟨_, rfl⟩
      obtain ⟨f, hf⟩ : ∃ f, f = fs[j] := ⟨_, rfl⟩
      rw [← hf] at hmem hT hAl
      obtain ⟨dd, hd⟩ : ∃ dd, dd = (f == 1) := ⟨_, rfl⟩
      rw [← hk, ← hs, ← hf, ← hd] at hp
      rw [← hd] at hT
      have htk : wrV ((pairL fs ts).take (j + 1)) = wrV ((pairL fs ts).take j) ++ [.string k, .string s, .bool dd] := by
        rw [List.take_add_one, List.getElem?_eq_getElem (by rw [HPl.out]; exact hlt), hp]
        exact wrV_snoc _ _
      have hC : ∀ W, Below w.heap.size w W → W.cell? (bd.add (2 * j)) = some (.string k) ∧ W.cell? (bd.add (2 * j + 1)) = some (.string s) ∧ W.cell? (ad.add j) = some (.int .i64 f) := fun W hW => by
        obtain ⟨ad', e1, _, hca⟩ := (HA.out.below hW) (by omega)
        obtain ⟨bd', e2, _, hcb⟩ := (HB.out.below hW) (by omega)
        obtain rfl := Option.some.inj e1
        obtain rfl := Option.some.inj e2
        rw [hk, hs, hf]
        exact ⟨hcb _ l1, hcb _ l2, hca _ hlt⟩
      have x7 := (hC _ hbel.out).2.2
      have HC := Lib.hid hC
      have HTk := Lib.hid htk
      have p1 : (2 * (j : Int)) < (ts.length : Int) := by omega
      have p2 : (2 * (j : Int)) + 1 < (ts.length : Int) := by omega
      have w2 : IntKind.i64.wrap (2 * (j : Int)) = 2 * (j : Int) := i64_wrap (by omega) (by omega)
      have w3 : IntKind.i64.wrap (2 * (j : Int) + 1) = 2 * (j : Int) + 1 := i64_wrap (by omega) (by omega)
      obtain ⟨q0, hq0⟩ : ∃ q, q = 2 * j := ⟨_, rfl⟩
      obtain ⟨q1, hq1⟩ : ∃ q, q = 2 * j + 1 := ⟨_, rfl⟩
      have t2 : (2 * (j : Int)).toNat = q0 := by omega
      have t3 : (2 * (j : Int) + 1).toNat = q1 := by omega
      rw [← hq1, ← hq0] at HC
      clear hC hp htk hk hs hf hd hq0 hq1 l1 l2 hall
      by_cases hf01 : f = 0 ∨ f = 1
      case neg =>
        rw [decide_eq_false hf01] at hT
        have HT := Lib.hid hT
        have HN := Lib.hid (show ¬ (∀ f ∈ fs, f = 0 ∨ f = 1) from fun h => hf01 (h f hmem))
        clear hT hmem hAl hf01
        go_wp2_with fail
        refine (HT.out _).mono ?_
        rintro e w8 ⟨rfl, rfl⟩
        go_wp2_with fail
        go_ret2
        exact HMn.out _ HN.out hbel.out
      rw [decide_eq_true hf01] at hT
      have HT := Lib.hid hT
      have HAl := Lib.hid (hAl hf01)
      clear hT hmem hAl hf01
      go_wp2_with fail
      refine (HT.out _).mono ?_
      rintro e w8 ⟨rfl, rfl⟩
      clear x7
      go_upto_region 8 with fail
      refine wp_region_said 15 [25, 26, 27, 28, 29, 30, 31, 32, 33, 34, 35, 36, 37, 38, 39]
        [.is u, .is (.slice (some bd) ts.length d), .is (.int .i64 (j : Int)), .is (.int .i64 (2 * (j : Int))), .is (.pointer (some (bd.add q0))), .is (.string k), .is (.slice (some bd) ts.length d), .is (.int .i64 (j : Int)), .is (.int .i64 (2 * (j : Int))), .is (.int .i64 (2 * (j : Int) + 1)), .is (.pointer (some (bd.add q1))), .is (.string s), .is (.bool dd), .is (.agg #[.string k, .string s, .bool dd]), .arr 139 #[.string k, .string s, .bool dd] 1 1]
        (fun W => W.ownsRow w.heap.size 139 3 u j (wrV ((pairL fs ts).take j)) ∧ Below w.heap.size w W) (by kernel_rfl) (by kernel_rfl) (by kernel_rfl) (by kernel_rfl) (by kernel_rfl) (fun W W' h hb => ⟨st_keep h.1 hb, h.2.trans (hb.mono h.2.size)⟩) ⟨hown.out, hbel.out⟩ ?steps ?last
      case steps =>
        simp only [List.take_succ_cons, List.take_zero]
        refine ⟨?_, ?_, ?_, ?_, ?_, ?_, ?_, ?_, ?_, ?_, ?_, ?_, ?_, ?_, ?_, trivial⟩
        all_goals
          intro vs W ρ hρ hc hf hg hI hH hd R' hR
          obtain ⟨z0, z1, -⟩ := HC.out W hI.2
          have HR := Lib.hid hR
          simp [depsOf, Region.binds, sayAt, Say.holds] at hd
          clear hR hI
          go_simp
          first
            | exact HR.out _ _ (by simp [sayAt, Say.holds]) (Below.refl _ _) (by simp [sayAt, Say.isBlk])
            | exact HR.out _ _ ⟨_, hH, by simp, rfl, heap_alloc_new _ _⟩ ((Below.refl _ _).alloc (Nat.le_refl _) _) (fun h => by cases h)
            | trace_state
      case last =>
        intro vs W hI hb hg hd
        have g0 := hg 0 (by omega)
        obtain ⟨o, ho1, ho2, g14, ho⟩ := hg 14 (by omega)
        simp only [sayAt, Say.holds, List.getD_cons_zero] at g0
        simp only [List.take_succ_cons, List.take_zero, List.drop_succ_cons, List.drop_zero, putAll, Act.put, List.setIfInBounds_toArray, List.set_cons_succ, List.set_cons_zero, Nat.zero_add, Nat.reduceAdd]
        rw [g0, g14]
        have HI := Lib.hid hI
        clear g0 g14 hg hd hI hown hbel
        refine wpList_append_own_at _ rfl _ _ 47 rfl w.heap.size 139 i0 (.agg #[.string ⟨#[]⟩, .string ⟨#[]⟩, .bool false]) 3 40 Tryz.underlying47 hi hz0 hz1 hz2 rfl (by decide) _ _ _ rfl HI.out.1 ⟨o, 0, none⟩ 1 1 [.string k, .string s, .bool dd] rfl rfl ?d1 ?d2 ?d3 ?d4 HI.out.2.size ?_
        case d1 => exact new_row ho
        case d2 => intro q hq; simp at hq; rcases hq with rfl | rfl | rfl <;> rfl
        case d3 => unfold maxLen; omega
        case d4 => omega
        intro v' w5 hown' hgrow _ hat
        have HB5 := Lib.hid (HI.out.2.grown hgrow HI.out.2.size (fun k hk => (HI.out.1.lt k hk).1))
        rw [← HTk.out] at hown'
        have HO5 := Lib.hid hown'
        clear hown' hgrow hat HI ho ho1 ho2 hb
        go_wp2_with fail
        go_roundw
        case rel => exact ⟨j + 1, _, rfl, by omega, by go_num, HAl.out, HO5.out, HB5.out⟩
        case measure => simp [intOf]; omega
    · obtain rfl : j = fs.length := by omega
      have ho := hown.out
      rw [List.take_of_length_le (by rw [HPl.out]; exact Nat.le_refl _)] at ho
      have ha2 := hall.out
      rw [List.take_length] at ha2
      have HO := Lib.hid ho
      have HAl := Lib.hid ha2
      clear ho hown hall ha2
      go_wp2_with fail
      go_ret2
      exact HMk.out _ _ HAl.out HO.out hbel.out

end Rc
end Go.Proofs.YtjehjbkcdpidbaaGreat

/- What slices.Clone answers at texts; contract; no condition but the range. -/
namespace Go.Proofs.YtjehjbkcdpidbaaGreat
namespace Lt
open Go.RowKit Bk

attribute [local go_sem ↓] Go.wp_at_zero Go.wp_at_succ
attribute [local go_sem] floatUpon pick

set_option maxRecDepth 20000 in
set_option maxHeartbeats 2000000 in
theorem clone_any (ad : Addr) (c : Nat) (l : List ByteArray) (w : World) (h : StrsAt w (some ad) l) (h16 : l.length * 16 ≤ 140737488351232) :
    Calls Tryz.prog 93 #[.slice (some ad) l.length c] w fun e w' => ∃ (A1 : Option Addr) (c1 : Nat), e = .returned (.slice A1 l.length c1) ∧ w'.ownsRow w.heap.size 9 1 (.slice A1 l.length c1) l.length (strV l) ∧ Below w.heap.size w w' := by
  obtain ⟨i0, hi, hz0, hz1, hz2⟩ := info_parts Tryz.infoStr
  have HSt := Lib.hid h
  have hO0 : (w.alloc (.cells #[] 9)).ownsRow w.heap.size 9 1 (.slice (some ⟨w.heap.size, 0, none⟩) 0 0) 0 [] := World.ownsRow_lit (base := w.heap.size) (e := 9) (size := 1) w #[] 0 (Nat.le_refl _) (by unfold maxLen; omega) rfl
  have HO0 := Lib.hid hO0
  have q22 : ∀ W : World, (binOp .eql 37 (.slice (some ad) l.length c) (.slice none 0 0)).run Tryz.prog W = .ok (.bool false) W := fun W => Lib.run_eql_slice_nil W _ _ (some ad) l.length c 0 0 Tryz.underlying37
  clear h hO0
  go_enter Tryz.func93, Tryz.ntmps93
  go_wp2_with (at_builtin; refine wpList_append_opt rfl _ _ 37 rfl w.heap.size 9 i0 (.string ⟨#[]⟩) 16 Tryz.underlying37 hi hz0 hz1 hz2 rfl _ 0 _ rfl HO0.out (some ad) l.length c (strV l) rfl (strV_len _) (fun e => by cases e) ?c1 ?c2 ?c3 ?c4 (by simp) ?_)
  case c1 => exact fun ad' e => by obtain rfl := Option.some.inj e; exact (HSt.out.alloc _).news
  case c2 => intro u hu; obtain ⟨s, _, rfl⟩ := List.mem_map.1 hu; rfl
  case c3 => unfold maxLen; omega
  case c4 => omega
  intro v' w3 ho hg hat
  have HB3 : Hid (Below w.heap.size w w3) := Lib.hid (((Below.refl _ w).alloc (Nat.le_refl _) (.cells #[] 9)).grown hg (by simp) (fun k hk => (HO0.out.lt k hk).1))
  obtain ⟨A1, c1, rfl, f1, f2⟩ := Pk.own_form ho
  have HO := Lib.hid ho
  clear ho hg hat f1 f2
  go_wp2_with fail
  go_ret
  exact ⟨A1, c1, rfl, HO.out, HB3.out⟩

end Lt
end Go.Proofs.YtjehjbkcdpidbaaGreat
