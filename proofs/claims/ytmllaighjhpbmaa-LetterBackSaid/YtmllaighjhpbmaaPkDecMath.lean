/- What the document's own Decode answers; contract; no condition but the range. -/
import Derived.Test.YtmllaighjhpbmaaPkDecEnv
import Derived.Test.YtmllaighjhpbmaaBkStr
namespace Go.Proofs.Ytmllaighjhpbmaa
namespace Pk
open Go.RowKit Bk

attribute [local go_sem ↓] Go.wp_at_zero Go.wp_at_succ
attribute [local go_sem] floatUpon pick

/-- what Decode answers: the lists, the place, the error -/
def decR (s : ByteArray) : List Int × List ByteArray × Nat × Nat :=
  match decL s.data.toList with
  | .ok (ns, ts) => (ns, ts, 0, 0)
  | .error er => ([], [], er.place s.size, er.code)

def DecAns (s : ByteArray) (w : World) : Ending → World → Prop := fun e w' =>
  ∃ (A B : Option Addr) (c d : Nat), e = .returned (.tuple #[packV A B c d (decR s).1 (decR s).2.1, .int .i64 ((decR s).2.2.1 : Int), .int .i64 ((decR s).2.2.2 : Int)]) ∧ IntsAt w' A (decR s).1 ∧ StrsAt w' B (decR s).2.1 ∧ Below w.heap.size w w' ∧
    ((decR s).1.length ≤ c ∧ (decR s).2.1.length ≤ d ∧ c ≤ maxLen ∧ d ≤ maxLen) ∧ (∀ ad, A = some ad → w.heap.size ≤ ad.block) ∧ (∀ ad, B = some ad → w.heap.size ≤ ad.block)

def Failed (s : ByteArray) (a c : Nat) : Prop := c ≠ 0 ∧ c ≤ 50 ∧ ∃ er : Er, decL s.data.toList = .error er ∧ a = er.place s.size ∧ c = er.code

theorem Failed.out {s : ByteArray} {a c : Nat} (h : Failed s a c) : decR s = ([], [], a, c) := by
  obtain ⟨_, _, er, h1, h2, h3⟩ := h
  unfold decR
  rw [h1, h2, h3]

/-- the numbers are read on -/
def St1 (s : ByteArray) (many j a c : Nat) (O : List Int) : Prop :=
  (c = 0 ∧ ∃ r1, cnt 1024 s.data.toList = .ok (many, r1) ∧ numsF many r1 = goN O (many - j) (s.data.toList.drop a)) ∨ Failed s a c

/-- the texts are read on -/
def St2 (s : ByteArray) (many j a c : Nat) (ns : List Int) (O : List ByteArray) : Prop :=
  (c = 0 ∧ ∃ k r1 r2 r3, cnt 1024 s.data.toList = .ok (k, r1) ∧ numsF k r1 = .ok (ns, r2) ∧ cnt 1024 r2 = .ok (many, r3) ∧ textsF many r3 = goT O (many - j) (s.data.toList.drop a)) ∨ Failed s a c

theorem decL_e1 {L : List UInt8} {e : Er} (h : cnt 1024 L = .error e) : decL L = .error e := by unfold decL; rw [h]
theorem decL_e2 {L r1 : List UInt8} {k : Nat} {e : Er} (h : cnt 1024 L = .ok (k, r1)) (h2 : numsF k r1 = .error e) : decL L = .error e := by unfold decL; rw [h]; simp only; rw [h2]
theorem decL_e3 {L r1 r2 : List UInt8} {k : Nat} {ns : List Int} {e : Er} (h : cnt 1024 L = .ok (k, r1)) (h2 : numsF k r1 = .ok (ns, r2)) (h3 : cnt 1024 r2 = .error e) : decL L = .error e := by unfold decL; rw [h]; simp only; rw [h2]; simp only; rw [h3]
theorem decL_e4 {L r1 r2 r3 : List UInt8} {k m : Nat} {ns : List Int} {e : Er} (h : cnt 1024 L = .ok (k, r1)) (h2 : numsF k r1 = .ok (ns, r2)) (h3 : cnt 1024 r2 = .ok (m, r3)) (h4 : textsF m r3 = .error e) : decL L = .error e := by
  unfold decL; rw [h]; simp only; rw [h2]; simp only; rw [h3]; simp only; rw [h4]
theorem decL_e5 {L r1 r2 r3 r4 : List UInt8} {k m : Nat} {ns : List Int} {ts : List ByteArray} (h : cnt 1024 L = .ok (k, r1)) (h2 : numsF k r1 = .ok (ns, r2)) (h3 : cnt 1024 r2 = .ok (m, r3)) (h4 : textsF m r3 = .ok (ts, r4)) :
    decL L = if r4 = [] then .ok (ns, ts) else .error (.bad r4.length 3) := by
  unfold decL; rw [h]; simp only; rw [h2]; simp only; rw [h3]; simp only; rw [h4]

theorem St1.start {s : ByteArray} {n a c : Nat} (h : Said s (cnt 1024 s.data.toList) n a c) : St1 s n 0 a c [] := by
  rcases h with ⟨h1, h2, h3, h4⟩ | ⟨h1, h2, h3, h4, e, h5, h6, h7⟩
  · exact .inl ⟨h1, _, h4, by rw [Nat.sub_zero, goN_start]⟩
  · exact .inr ⟨h1, h2, e, decL_e1 h5, h6, h7⟩

theorem St1.step {s : ByteArray} {many j a : Nat} {O : List Int} (h : St1 s many j a 0 O) (hj : j < many) {n p c : Nat} (hs : Said s (numF (s.data.toList.drop a)) n p c) : St1 s many (j + 1) p c (O ++ [unzig n]) := by
  rcases h with ⟨_, r1, h1, h2⟩ | h
  · rw [show many - j = (many - (j + 1)) + 1 by omega] at h2
    rcases hs with ⟨k1, k2, k3, k4⟩ | ⟨k1, k2, k3, k4, e, k5, k6, k7⟩
    · exact .inl ⟨k1, r1, h1, by rw [h2, goN_more k4]⟩
    · exact .inr ⟨k1, k2, e, decL_e2 h1 (by rw [h2, goN_err k5]), k6, k7⟩
  · exact absurd rfl h.1

theorem St2.start {s : ByteArray} {many a : Nat} {O : List Int} (h : St1 s many many a 0 O) {n p c : Nat} (hs : Said s (cnt 1024 (s.data.toList.drop a)) n p c) : St2 s n 0 p c O [] := by
  rcases h with ⟨_, r1, h1, h2⟩ | h
  · rw [Nat.sub_self, goN_done] at h2
    rcases hs with ⟨k1, k2, k3, k4⟩ | ⟨k1, k2, k3, k4, e, k5, k6, k7⟩
    · exact .inl ⟨k1, many, r1, _, _, h1, h2, k4, by rw [Nat.sub_zero, goT_start]⟩
    · exact .inr ⟨k1, k2, e, decL_e3 h1 h2 k5, k6, k7⟩
  · exact absurd rfl h.1

theorem textF_err {L : List UInt8} {e : Er} (h : cnt 4096 L = .error e) : textF L = .error e := by unfold textF; rw [h]
theorem textF_cut {L r : List UInt8} {n : Nat} (h : cnt 4096 L = .ok (n, r)) (h2 : r.length < n) : textF L = .error .fin := by unfold textF; rw [h]; simp only; rw [if_pos h2]
theorem textF_all {L r : List UInt8} {n : Nat} (h : cnt 4096 L = .ok (n, r)) (h2 : ¬ r.length < n) : textF L = .ok (⟨(r.take n).toArray⟩, r.drop n) := by unfold textF; rw [h]; simp only; rw [if_neg h2]

theorem St2.err {s : ByteArray} {many j a : Nat} {ns : List Int} {O : List ByteArray} (h : St2 s many j a 0 ns O) (hj : j < many) {e : Er} (hs : textF (s.data.toList.drop a) = .error e) (h0 : e.code ≠ 0) (h5 : e.code ≤ 50) : Failed s (e.place s.size) e.code := by
  rcases h with ⟨_, k, r1, r2, r3, h1, h2, h3, h4⟩ | h
  · rw [show many - j = (many - (j + 1)) + 1 by omega] at h4
    exact ⟨h0, h5, e, decL_e4 h1 h2 h3 (by rw [h4, goT_err hs]), rfl, rfl⟩
  · exact absurd rfl h.1

theorem St2.more {s : ByteArray} {many j a : Nat} {ns : List Int} {O : List ByteArray} (h : St2 s many j a 0 ns O) (hj : j < many) {p : Nat} {t : ByteArray} (hs : textF (s.data.toList.drop a) = .ok (t, s.data.toList.drop p)) : St2 s many (j + 1) p 0 ns (O ++ [t]) := by
  rcases h with ⟨_, k, r1, r2, r3, h1, h2, h3, h4⟩ | h
  · rw [show many - j = (many - (j + 1)) + 1 by omega] at h4
    exact .inl ⟨rfl, k, r1, r2, r3, h1, h2, h3, by rw [h4, goT_more hs]⟩
  · exact absurd rfl h.1

theorem St2.done {s : ByteArray} {many a : Nat} {ns : List Int} {O : List ByteArray} (h : St2 s many many a 0 ns O) : decL s.data.toList = if s.data.toList.drop a = [] then .ok (ns, O) else .error (.bad (s.data.toList.drop a).length 3) := by
  rcases h with ⟨_, k, r1, r2, r3, h1, h2, h3, h4⟩ | h
  · rw [Nat.sub_self, goT_done] at h4
    exact decL_e5 h1 h2 h3 h4
  · exact absurd rfl h.1

theorem St2.whole {s : ByteArray} {many a : Nat} {ns : List Int} {O : List ByteArray} (h : St2 s many many a 0 ns O) (ha : s.size ≤ a) : decR s = (ns, O, 0, 0) := by
  have h1 := h.done
  rw [if_pos (List.drop_eq_nil_of_le (by rw [list_size]; exact ha))] at h1
  unfold decR; rw [h1]

theorem St2.tail {s : ByteArray} {many a : Nat} {ns : List Int} {O : List ByteArray} (h : St2 s many many a 0 ns O) (ha : a < s.size) : decR s = ([], [], a, 3) := by
  have h1 := h.done
  rw [if_neg (fun e => by have := List.drop_eq_nil_iff.1 e; rw [list_size] at this; omega)] at h1
  unfold decR; rw [h1]
  simp only [Er.place, Er.code, List.length_drop, list_size]
  rw [show s.size - (s.size - a) = a by omega]

theorem noInts {w : World} : IntsAt w none [] := fun h => absurd h (by simp)
theorem noStrs {w : World} : StrsAt w none [] := fun h => absurd h (by simp)

theorem cnt_code {most : Nat} {L : List UInt8} {e : Er} (h : cnt most L = .error e) : e.code ≠ 0 := by
  unfold cnt at h
  cases hr : readR L with
  | fin => rw [hr] at h; cases h; decide
  | form => rw [hr] at h; cases h; show (3 : Nat) ≠ 0; omega
  | ok m u =>
    rw [hr] at h
    simp only at h
    split at h
    · cases h; show (2 : Nat) ≠ 0; omega
    · cases h

theorem numF_code {L : List UInt8} {e : Er} (h : numF L = .error e) : e.code ≠ 0 := by
  unfold numF at h
  cases hr : readR L with
  | fin => rw [hr] at h; cases h; decide
  | form => rw [hr] at h; cases h; show (3 : Nat) ≠ 0; omega
  | ok m u => rw [hr] at h; cases h

theorem numsF_code : ∀ (k : Nat) {L : List UInt8} {e : Er}, numsF k L = .error e → e.code ≠ 0
  | 0, L, e, h => by simp [numsF] at h
  | k + 1, L, e, h => by
    rw [numsF] at h
    cases h1 : numF L with
    | error e => rw [h1] at h; cases h; exact numF_code h1
    | ok x =>
      rw [h1] at h
      simp only at h
      cases h2 : numsF k x.2 with
      | error e => rw [h2] at h; cases h; exact numsF_code k h2
      | ok y => rw [h2] at h; cases h

theorem textF_code {L : List UInt8} {e : Er} (h : textF L = .error e) : e.code ≠ 0 := by
  unfold textF at h
  cases h1 : cnt 4096 L with
  | error e => rw [h1] at h; cases h; exact cnt_code h1
  | ok x =>
    rw [h1] at h
    simp only at h
    split at h
    · cases h; decide
    · cases h

theorem textsF_code : ∀ (k : Nat) {L : List UInt8} {e : Er}, textsF k L = .error e → e.code ≠ 0
  | 0, L, e, h => by simp [textsF] at h
  | k + 1, L, e, h => by
    rw [textsF] at h
    cases h1 : textF L with
    | error e => rw [h1] at h; cases h; exact textF_code h1
    | ok x =>
      rw [h1] at h
      simp only at h
      cases h2 : textsF k x.2 with
      | error e => rw [h2] at h; cases h; exact textsF_code k h2
      | ok y => rw [h2] at h; cases h

theorem decL_code {L : List UInt8} {e : Er} (h : decL L = .error e) : e.code ≠ 0 := by
  unfold decL at h
  cases h1 : cnt 1024 L with
  | error e => rw [h1] at h; cases h; exact cnt_code h1
  | ok x =>
    rw [h1] at h
    simp only at h
    cases h2 : numsF x.1 x.2 with
    | error e => rw [h2] at h; cases h; exact numsF_code _ h2
    | ok x2 =>
      rw [h2] at h
      simp only at h
      cases h3 : cnt 1024 x2.2 with
      | error e => rw [h3] at h; cases h; exact cnt_code h3
      | ok x3 =>
        rw [h3] at h
        simp only at h
        cases h4 : textsF x3.1 x3.2 with
        | error e => rw [h4] at h; cases h; exact textsF_code _ h4
        | ok x4 =>
          rw [h4] at h
          simp only at h
          split at h
          · cases h
          · cases h; show (3 : Nat) ≠ 0; omega

theorem own_new {w : World} {H n c : Nat} {A : Option Addr} {e : TypeId} {xs : List Value} (h : w.ownsRow H e 1 (.slice A n c) n xs) {k : Nat} (hk : k ≤ H) : ∀ ad, A = some ad → k ≤ ad.block := fun ad e => by
  have := (h.lt ad.block (by rw [e]; rfl)).1
  omega

theorem own_form {w : World} {H n : Nat} {v : Value} {e : TypeId} {xs : List Value} (h : w.ownsRow H e 1 v n xs) : ∃ (A : Option Addr) (c : Nat), v = .slice A n c ∧ n ≤ c ∧ c ≤ maxLen := by
  rcases h.2 with ⟨rfl, rfl⟩ | ⟨g, cap, cur, rfl, _, _, h1, h2, _⟩
  · exact ⟨none, 0, rfl, Nat.le_refl _, Nat.zero_le _⟩
  · exact ⟨_, cap, rfl, h1, h2⟩

end Pk
end Go.Proofs.Ytmllaighjhpbmaa
