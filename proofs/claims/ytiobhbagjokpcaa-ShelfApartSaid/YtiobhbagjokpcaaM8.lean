/- Parts of the proof, joined: PkDecMath, PkDec, BkAppend, LtBytes, LtCheck, LtEnc, LtPairs; their conditions stand with each. -/
import Derived.Maps.AppendAt
import Derived.OneCell
import Derived.Test.YtiobhbagjokpcaaM6
import Derived.Test.YtiobhbagjokpcaaM7

/- What the document's own Decode answers; contract; no condition but the range. -/
namespace Go.Proofs.Ytiobhbagjokpcaa
namespace Pk
open Go.RowKit Bk

attribute [local go_sem ↓] Go.wp_at_zero Go.wp_at_succ
attribute [local go_sem] floatUpon pick

/-- what Decode answers: the lists, the place, the error -/
def decR (s : ByteArray) : List Int × List ByteArray × Nat × Nat :=
  match decL s.data.toList with
  | .ok (ns, ts) => (ns, ts, 0, 0)
  | .error er => ([], [], er.place s.size, er.code)

def DecAns (s : ByteArray) (w : World) : Ending → World → Prop := fun e w' =>
  ∃ (A B : Option Addr) (c d : Nat), e = .returned (.tuple #[packV A B c d (decR s).1 (decR s).2.1, .int .i64 ((decR s).2.2.1 : Int), .int .i64 ((decR s).2.2.2 : Int)]) ∧ IntsAt w' A (decR s).1 ∧ StrsAt w' B (decR s).2.1 ∧ Below w.heap.size w w' ∧
    ((decR s).1.length ≤ c ∧ (decR s).2.1.length ≤ d ∧ c ≤ maxLen ∧ d ≤ maxLen) ∧ (∀ ad, A = some ad → w.heap.size ≤ ad.block) ∧ (∀ ad, B = some ad → w.heap.size ≤ ad.block)

def Failed (s : ByteArray) (a c : Nat) : Prop := c ≠ 0 ∧ c ≤ 50 ∧ ∃ er : Er, decL s.data.toList = .error er ∧ a = er.place s.size ∧ c = er.code

theorem Failed.out {s : ByteArray} {a c : Nat} (h : Failed s a c) : decR s = ([], [], a, c) := by
  obtain ⟨_, _, er, h1, h2, h3⟩ := h
  unfold decR
  rw [h1, h2, h3]

/-- the numbers are read on -/
def St1 (s : ByteArray) (many j a c : Nat) (O : List Int) : Prop :=
  (c = 0 ∧ ∃ r1, cnt 1024 s.data.toList = .ok (many, r1) ∧ numsF many r1 = goN O (many - j) (s.data.toList.drop a)) ∨ Failed s a c

/-- the texts are read on -/
def St2 (s : ByteArray) (many j a c : Nat) (ns : List Int) (O : List ByteArray) : Prop :=
  (c = 0 ∧ ∃ k r1 r2 r3, cnt 1024 s.data.toList = .ok (k, r1) ∧ numsF k r1 = .ok (ns, r2) ∧ cnt 1024 r2 = .ok (many, r3) ∧ textsF many r3 = goT O (many - j) (s.data.toList.drop a)) ∨ Failed s a c

theorem decL_e1 {L : List UInt8} {e : Er} (h : cnt 1024 L = .error e) : decL L = .error e := by unfold decL; rw [h]
theorem decL_e2 {L r1 : List UInt8} {k : Nat} {e : Er} (h : cnt 1024 L = .ok (k, r1)) (h2 : numsF k r1 = .error e) : decL L = .error e := by unfold decL; rw [h]; simp only; rw [h2]
theorem decL_e3 {L r1 r2 : List UInt8} {k : Nat} {ns : List Int} {e : Er} (h : cnt 1024 L = .ok (k, r1)) (h2 : numsF k r1 = .ok (ns, r2)) (h3 : cnt 1024 r2 = .error e) : decL L = .error e := by unfold decL; rw [h]; simp only; rw [h2]; simp only; rw [h3]
theorem decL_e4 {L r1 r2 r3 : List UInt8} {k m : Nat} {ns : List Int} {e : Er} (h : cnt 1024 L = .ok (k, r1)) (h2 : numsF k r1 = .ok (ns, r2)) (h3 : cnt 1024 r2 = .ok (m, r3)) (h4 : textsF m r3 = .error e) : decL L = .error e := by
  unfold decL; rw [h]; simp only; rw [h2]; simp only; rw [h3]; simp only; rw [h4]
theorem decL_e5 {L r1 r2 r3 r4 : List UInt8} {k m : Nat} {ns : List Int} {ts : List ByteArray} (h : cnt 1024 L = .ok (k, r1)) (h2 : numsF k r1 = .ok (ns, r2)) (h3 : cnt 1024 r2 = .ok (m, r3)) (h4 : textsF m r3 = .ok (ts, r4)) :
    decL L = if r4 = [] then .ok (ns, ts) else .error (.bad r4.length 3) := by
  unfold decL; rw [h]; simp only; rw [h2]; simp only; rw [h3]; simp only; rw [h4]

theorem St1.start {s : ByteArray} {n a c : Nat} (h : Said s (cnt 1024 s.data.toList) n a c) : St1 s n 0 a c [] := by
  rcases h with ⟨h1, h2, h3, h4⟩ | ⟨h1, h2, h3, h4, e, h5, h6, h7⟩
  · exact .inl ⟨h1, _, h4, by rw [Nat.sub_zero, goN_start]⟩
  · exact .inr ⟨h1, h2, e, decL_e1 h5, h6, h7⟩

theorem St1.step {s : ByteArray} {many j a : Nat} {O : List Int} (h : St1 s many j a 0 O) (hj : j < many) {n p c : Nat} (hs : Said s (numF (s.data.toList.drop a)) n p c) : St1 s many (j + 1) p c (O ++ [unzig n]) := by
  rcases h with ⟨_, r1, h1, h2⟩ | h
  · rw [show many - j = (many - (j + 1)) + 1 by omega] at h2
    rcases hs with ⟨k1, k2, k3, k4⟩ | ⟨k1, k2, k3, k4, e, k5, k6, k7⟩
    · exact .inl ⟨k1, r1, h1, by rw [h2, goN_more k4]⟩
    · exact .inr ⟨k1, k2, e, decL_e2 h1 (by rw [h2, goN_err k5]), k6, k7⟩
  · exact absurd rfl h.1

theorem St2.start {s : ByteArray} {many a : Nat} {O : List Int} (h : St1 s many many a 0 O) {n p c : Nat} (hs : Said s (cnt 1024 (s.data.toList.drop a)) n p c) : St2 s n 0 p c O [] := by
  rcases h with ⟨_, r1, h1, h2⟩ | h
  · rw [Nat.sub_self, goN_done] at h2
    rcases hs with ⟨k1, k2, k3, k4⟩ | ⟨k1, k2, k3, k4, e, k5, k6, k7⟩
    · exact .inl ⟨k1, many, r1, _, _, h1, h2, k4, by rw [Nat.sub_zero, goT_start]⟩
    · exact .inr ⟨k1, k2, e, decL_e3 h1 h2 k5, k6, k7⟩
  · exact absurd rfl h.1

theorem textF_err {L : List UInt8} {e : Er} (h : cnt 4096 L = .error e) : textF L = .error e := by unfold textF; rw [h]
theorem textF_cut {L r : List UInt8} {n : Nat} (h : cnt 4096 L = .ok (n, r)) (h2 : r.length < n) : textF L = .error .fin := by unfold textF; rw [h]; simp only; rw [if_pos h2]
theorem textF_all {L r : List UInt8} {n : Nat} (h : cnt 4096 L = .ok (n, r)) (h2 : ¬ r.length < n) : textF L = .ok (⟨(r.take n).toArray⟩, r.drop n) := by unfold textF; rw [h]; simp only; rw [if_neg h2]

theorem St2.err {s : ByteArray} {many j a : Nat} {ns : List Int} {O : List ByteArray} (h : St2 s many j a 0 ns O) (hj : j < many) {e : Er} (hs : textF (s.data.toList.drop a) = .error e) (h0 : e.code ≠ 0) (h5 : e.code ≤ 50) : Failed s (e.place s.size) e.code := by
  rcases h with ⟨_, k, r1, r2, r3, h1, h2, h3, h4⟩ | h
  · rw [show many - j = (many - (j + 1)) + 1 by omega] at h4
    exact ⟨h0, h5, e, decL_e4 h1 h2 h3 (by rw [h4, goT_err hs]), rfl, rfl⟩
  · exact absurd rfl h.1

theorem St2.more {s : ByteArray} {many j a : Nat} {ns : List Int} {O : List ByteArray} (h : St2 s many j a 0 ns O) (hj : j < many) {p : Nat} {t : ByteArray} (hs : textF (s.data.toList.drop a) = .ok (t, s.data.toList.drop p)) : St2 s many (j + 1) p 0 ns (O ++ [t]) := by
  rcases h with ⟨_, k, r1, r2, r3, h1, h2, h3, h4⟩ | h
  · rw [show many - j = (many - (j + 1)) + 1 by omega] at h4
    exact .inl ⟨rfl, k, r1, r2, r3, h1, h2, h3, by rw [h4, goT_more hs]⟩
  · exact absurd rfl h.1

theorem St2.done {s : ByteArray} {many a : Nat} {ns : List Int} {O : List ByteArray} (h : St2 s many many a 0 ns O) : decL s.data.toList = if s.data.toList.drop a = [] then .ok (ns, O) else .error (.bad (s.data.toList.drop a).length 3) := by
  rcases h with ⟨_, k, r1, r2, r3, h1, h2, h3, h4⟩ | h
  · rw [Nat.sub_self, goT_done] at h4
    exact decL_e5 h1 h2 h3 h4
  · exact absurd rfl h.1

theorem St2.whole {s : ByteArray} {many a : Nat} {ns : List Int} {O : List ByteArray} (h : St2 s many many a 0 ns O) (ha : s.size ≤ a) : decR s = (ns, O, 0, 0) := by
  have h1 := h.done
  rw [if_pos (List.drop_eq_nil_of_le (by rw [list_size]; exact ha))] at h1
  unfold decR; rw [h1]

theorem St2.tail {s : ByteArray} {many a : Nat} {ns : List Int} {O : List ByteArray} (h : St2 s many many a 0 ns O) (ha : a < s.size) : decR s = ([], [], a, 3) := by
  have h1 := h.done
  rw [if_neg (fun e => by have := List.drop_eq_nil_iff.1 e; rw [list_size] at this; omega)] at h1
  unfold decR; rw [h1]
  simp only [Er.place, Er.code, List.length_drop, list_size]
  rw [show s.size - (s.size - a) = a by omega]

theorem noInts {w : World} : IntsAt w none [] := fun h => absurd h (by simp)
theorem noStrs {w : World} : StrsAt w none [] := fun h => absurd h (by simp)

theorem cnt_code {most : Nat} {L : List UInt8} {e : Er} (h : cnt most L = .error e) : e.code ≠ 0 := by
  unfold cnt at h
  cases hr : readR L with
  | fin => rw [hr] at h; cases h; decide
  | form => rw [hr] at h; cases h; show (3 : Nat) ≠ 0; omega
  | ok m u =>
    rw [hr] at h
    simp only at h
    split at h
    · cases h; show (2 : Nat) ≠ 0; omega
    · cases h

theorem numF_code {L : List UInt8} {e : Er} (h : numF L = .error e) : e.code ≠ 0 := by
  unfold numF at h
  cases hr : readR L with
  | fin => rw [hr] at h; cases h; decide
  | form => rw [hr] at h; cases h; show (3 : Nat) ≠ 0; omega
  | ok m u => rw [hr] at h; cases h

theorem numsF_code : ∀ (k : Nat) {L : List UInt8} {e : Er}, numsF k L = .error e → e.code ≠ 0
  | 0, L, e, h => by simp [numsF] at h
  | k + 1, L, e, h => by
    rw [numsF] at h
    cases h1 : numF L with
    | error e => rw [h1] at h; cases h; exact numF_code h1
    | ok x =>
      rw [h1] at h
      simp only at h
      cases h2 : numsF k x.2 with
      | error e => rw [h2] at h; cases h; exact numsF_code k h2
      | ok y => rw [h2] at h; cases h

theorem textF_code {L : List UInt8} {e : Er} (h : textF L = .error e) : e.code ≠ 0 := by
  unfold textF at h
  cases h1 : cnt 4096 L with
  | error e => rw [h1] at h; cases h; exact cnt_code h1
  | ok x =>
    rw [h1] at h
    simp only at h
    split at h
    · cases h; decide
    · cases h

theorem textsF_code : ∀ (k : Nat) {L : List UInt8} {e : Er}, textsF k L = .error e → e.code ≠ 0
  | 0, L, e, h => by simp [textsF] at h
  | k + 1, L, e, h => by
    rw [textsF] at h
    cases h1 : textF L with
    | error e => rw [h1] at h; cases h; exact textF_code h1
    | ok x =>
      rw [h1] at h
      simp only at h
      cases h2 : textsF k x.2 with
      | error e => rw [h2] at h; cases h; exact textsF_code k h2
      | ok y => rw [h2] at h; cases h

theorem decL_code {L : List UInt8} {e : Er} (h : decL L = .error e) : e.code ≠ 0 := by
  unfold decL at h
  cases h1 : cnt 1024 L with
  | error e => rw [h1] at h; cases h; exact cnt_code h1
  | ok x =>
    rw [h1] at h
    simp only at h
    cases h2 : numsF x.1 x.2 with
    | error e => rw [h2] at h; cases h; exact numsF_code _ h2
    | ok x2 =>
      rw [h2] at h
      simp only at h
      cases h3 : cnt 1024 x2.2 with
      | error e => rw [h3] at h; cases h; exact cnt_code h3
      | ok x3 =>
        rw [h3] at h
        simp only at h
        cases h4 : textsF x3.1 x3.2 with
        | error e => rw [h4] at h; cases h; exact textsF_code _ h4
        | ok x4 =>
          rw [h4] at h
          simp only at h
          split at h
          · cases h
          · cases h; show (3 : Nat) ≠ 0; omega

theorem own_new {w : World} {H n c : Nat} {A : Option Addr} {e : TypeId} {xs : List Value} (h : w.ownsRow H e 1 (.slice A n c) n xs) {k : Nat} (hk : k ≤ H) : ∀ ad, A = some ad → k ≤ ad.block := fun ad e => by
  have := (h.lt ad.block (by rw [e]; rfl)).1
  omega

theorem own_form {w : World} {H n : Nat} {v : Value} {e : TypeId} {xs : List Value} (h : w.ownsRow H e 1 v n xs) : ∃ (A : Option Addr) (c : Nat), v = .slice A n c ∧ n ≤ c ∧ c ≤ maxLen := by
  rcases h.2 with ⟨rfl, rfl⟩ | ⟨g, cap, cur, rfl, _, _, h1, h2, _⟩
  · exact ⟨none, 0, rfl, Nat.le_refl _, Nat.zero_le _⟩
  · exact ⟨_, cap, rfl, h1, h2⟩

end Pk
end Go.Proofs.Ytiobhbagjokpcaa

/- What the document's own Decode answers; contract; no condition but the range. -/
namespace Go.Proofs.Ytiobhbagjokpcaa
namespace Pk
open Go.RowKit Bk

attribute [local go_sem ↓] Go.wp_at_zero Go.wp_at_succ
attribute [local go_sem] floatUpon pick


theorem strV_snoc2 (O : List ByteArray) (t : ByteArray) : strV (O ++ [t]) = strV O ++ [.string t] := by simp [strV]

theorem ints_own_at {w : World} {H n c : Nat} {A : Option Addr} {e : TypeId} {O : List Int} (h : w.ownsRow H e 1 (.slice A n c) n (intV O)) (hl : n = O.length) : IntsAt w A O := by
  obtain ⟨A', c', e, h2⟩ := ints_of_own h hl
  simp only [Value.slice.injEq] at e
  rw [e.1]; exact h2

theorem strs_own_at {w : World} {H n c : Nat} {A : Option Addr} {e : TypeId} {O : List ByteArray} (h : w.ownsRow H e 1 (.slice A n c) n (strV O)) (hl : n = O.length) : StrsAt w A O := by
  obtain ⟨A', c', e, h2⟩ := strs_of_own2 h hl
  simp only [Value.slice.injEq] at e
  rw [e.1]; exact h2

end Pk
end Go.Proofs.Ytiobhbagjokpcaa

/- append onto an empty literal: a row of its own, no old block written; no condition but the range. -/
namespace Go.Proofs.Ytiobhbagjokpcaa
namespace Bk
open Go.RowKit

theorem setRow_same {w : World} {g : Nat} {cs : Array Value} {t : TypeId} {m : Nat × Nat} (h : w.heap[g]? = some (.cells cs t m)) : Below w.heap.size w (w.setRow g cs) :=
  ⟨rfl, rfl, rfl, by simp, fun k hk => by
    by_cases e : k = g
    · subst e; rw [setRow_heap w k cs cs t m h, h]
    · exact setRow_other w g k _ e⟩

theorem run_append_empty {P : Program} (w : World) (base : Nat) (t ty e : TypeId) (i : TypeInfo) (z : Value) (bytes : Nat) (ht : P.underlying t = some (.slice e)) (hi : P.info? e = some i) (hz : i.zero = some z)
    (hsize : i.size = 1) (hby : i.bytes = bytes) (hzs : z.cells.size = 1) (g : Nat) (hg : w.heap[g]? = some (.cells #[] e (0, 0))) (hbg : base ≤ g)
    (A : Option Addr) (m c : Nat) (news : List Value) (hl : news.length = m) (hA : A = none → m = 0 ∧ c = 0) (hnews : ∀ ad, A = some ad → ∀ j u, news[j]? = some u → w.cell? (ad.add j) = some u) (h1 : ∀ u ∈ news, u.oneCell' = true)
    (h63 : m ≤ maxLen) (hbytes : m * bytes ≤ 140737488355328) :
    ∃ v' w', (Builtin.append_ #[t, t] ty #[.slice (some ⟨g, 0, none⟩) 0 0, .slice A m c]).run P w = .ok v' w' ∧ w'.ownsRow base e 1 v' m news ∧ Below w.heap.size w w' ∧ (∃ g' cap, v' = .slice (some ⟨g', 0, none⟩) m cap ∧ (m = 0 → cap = 0)) := by
  have hlt : g < w.heap.size := (Array.getElem?_eq_some_iff.1 hg).1
  have hown : w.ownsRow base e 1 (.slice (some ⟨g, 0, none⟩) 0 0) 0 [] := ⟨rfl, .inr ⟨g, 0, #[], rfl, hbg, hg, Nat.le_refl _, Nat.zero_le _, rfl, rfl⟩⟩
  cases A with
  | none =>
    obtain ⟨rfl, rfl⟩ := hA rfl
    obtain rfl : news = [] := List.eq_nil_of_length_eq_zero hl
    exact ⟨_, _, run_append_owned_none (P := P) w base t ty e i 1 ht hi _ _ _ hown, hown, Below.refl _ _, g, 0, rfl, fun _ => rfl⟩
  | some ad =>
    by_cases hm : m = 0
    · subst hm
      obtain rfl : news = [] := List.eq_nil_of_length_eq_zero hl
      have hr := run_append_room (P := P) w t ty e i ht hi g 0 0 #[] hg ad 0 c [] (by simp) (fun j u h => by simp at h) (fun u h => by simp at h) (by omega) (by simp)
      have he : (List.take (0 * i.size) (#[] : Array Value).toList ++ ([] : List Value) ++ List.drop (0 * i.size + ([] : List Value).length) (#[] : Array Value).toList).toArray = (#[] : Array Value) := by simp
      rw [he] at hr
      refine ⟨_, _, hr, ?_, ?_, g, 0, rfl, fun _ => rfl⟩
      · refine ⟨rfl, .inr ⟨g, 0, #[], rfl, hbg, ?_, Nat.le_refl _, Nat.zero_le _, rfl, rfl⟩⟩
        exact setRow_heap w g _ _ e _ hg
      · exact setRow_same hg
    · have hb2 : (0 + m) * bytes ≤ 140737488355328 := by rw [Nat.zero_add]; exact hbytes
      obtain ⟨v', w', hr, h2, h3, _, _⟩ := run_append_own_at (P := P) w base t ty e i z 1 bytes ht hi hz hsize hby hzs (by decide) _ 0 [] hown ad m c news (by rw [hl, Nat.mul_one]) (hnews ad rfl) h1 (by omega) hb2 (by omega)
      have hr2 := run_append_grow (P := P) w t ty e i z ht hi hz ⟨g, 0, none⟩ 0 0 [] (by simp) (fun j v h => by simp at h) ad m c news (by rw [hl, hsize, Nat.mul_one]) (hnews ad rfl) (by omega) (by unfold maxLen at h63; omega) (growslice_fits (by omega) (by rw [hby]; exact hb2))
      rw [hr] at hr2
      simp only [Result.ok.injEq] at hr2
      obtain ⟨e1, e2⟩ := hr2
      rw [Nat.zero_add, List.nil_append] at h2
      refine ⟨v', w', hr, h2, ?_, w.heap.size, _, by rw [e1, Nat.zero_add], fun h => absurd h hm⟩
      rw [e2]
      exact (Below.refl _ w).drew.alloc (by simp) _

/-- append of a row that may be nil onto an owned row -/
theorem run_append_opt {P : Program} (w : World) (base : Nat) (t ty e : TypeId) (i : TypeInfo) (z : Value) (bytes : Nat) (ht : P.underlying t = some (.slice e)) (hi : P.info? e = some i) (hz : i.zero = some z)
    (hsize : i.size = 1) (hby : i.bytes = bytes) (hzs : z.cells.size = 1) (v : Value) (n : Nat) (xs : List Value) (hown : w.ownsRow base e 1 v n xs)
    (A : Option Addr) (m c : Nat) (news : List Value) (hl : news.length = m) (hA : A = none → m = 0 ∧ c = 0) (hnews : ∀ ad, A = some ad → ∀ j u, news[j]? = some u → w.cell? (ad.add j) = some u) (h1 : ∀ u ∈ news, u.oneCell' = true)
    (h63 : n + m ≤ maxLen) (hbytes : (n + m) * bytes ≤ 140737488355328) (hbase : base ≤ w.heap.size) :
    ∃ v' w', (Builtin.append_ #[t, t] ty #[v, .slice A m c]).run P w = .ok v' w' ∧ w'.ownsRow base e 1 v' (n + m) (xs ++ news) ∧ w.grownBy w' v.ownBlock ∧ (v'.ownBlock = v.ownBlock ∨ v'.ownBlock = some w.heap.size) := by
  cases A with
  | none =>
    obtain ⟨rfl, rfl⟩ := hA rfl
    obtain rfl : news = [] := List.eq_nil_of_length_eq_zero hl
    exact ⟨v, w, run_append_owned_none (P := P) w base t ty e i 1 ht hi _ _ _ hown, by rw [List.append_nil]; exact hown, ⟨rfl, rfl, rfl, Nat.le_refl _, fun _ _ _ => rfl⟩, .inl rfl⟩
  | some ad =>
    obtain ⟨v', w', hr, h2, h3, _, h5⟩ := run_append_own_at (P := P) w base t ty e i z 1 bytes ht hi hz hsize hby hzs (by omega) v n xs hown ad m c news (by omega) (hnews ad rfl) h1 h63 hbytes hbase
    exact ⟨v', w', hr, h2, h3, h5⟩

theorem wpList_append_opt {P : Program} {w : World} {ops : Array Oper} {rest : List Oper} {o : Oper} {a : Act} {Q : Exit → Act → World → Prop} (hgd : o.guard = none) (s x : Operand) (t : TypeId)
    (ho : o.op = .call { callee := .builtin .append, args := #[s, x], argTypes := #[t, t] })
    (base : Nat) (e : TypeId) (i : TypeInfo) (z : Value) (bytes : Nat) (ht : P.underlying t = some (.slice e)) (hi : P.info? e = some i) (hz : i.zero = some z)
    (hsize : i.size = 1) (hby : i.bytes = bytes) (hzs : z.cells.size = 1) (v : Value) (n : Nat) (xs : List Value) (hs : a.eval s = v) (hown : w.ownsRow base e 1 v n xs)
    (A : Option Addr) (m c : Nat) (news : List Value) (hx : a.eval x = .slice A m c) (hl : news.length = m) (hA : A = none → m = 0 ∧ c = 0) (hnews : ∀ ad, A = some ad → ∀ j u, news[j]? = some u → w.cell? (ad.add j) = some u) (h1 : ∀ u ∈ news, u.oneCell' = true)
    (h63 : n + m ≤ maxLen) (hbytes : (n + m) * bytes ≤ 140737488355328) (hbase : base ≤ w.heap.size)
    (h : ∀ v' w', w'.ownsRow base e 1 v' (n + m) (xs ++ news) → w.grownBy w' v.ownBlock → (v'.ownBlock = v.ownBlock ∨ v'.ownBlock = some w.heap.size) → wpList P ops Q rest (a.put o.dst v') w') :
    wpList P ops Q (o :: rest) a w := by
  refine wpList_plain hgd fun K hK => ?_
  obtain ⟨v', w', hr, h2, h3, h5⟩ := run_append_opt (P := P) w base t o.type e i z bytes ht hi hz hsize hby hzs v n xs hown A m c news hl hA hnews h1 h63 hbytes hbase
  unfold Oper.wp execOp
  simp only [ho, resolve, invoke, builtin, Sem.run_bind, Sem.run_pure, Result.andThen_ok, List.map_toArray, List.map_cons, List.map_nil, hs, hx, hr]
  exact hK _ _ (h v' w' h2 h3 h5)

end Bk
end Go.Proofs.Ytiobhbagjokpcaa

/- What the document's own Bytes and Encode of letters answer; contracts; no condition but the range. -/
namespace Go.Proofs.Ytiobhbagjokpcaa
namespace Lt
open Go.RowKit Bk

attribute [local go_sem ↓] Go.wp_at_zero Go.wp_at_succ
attribute [local go_sem] floatUpon pick

theorem own_ne {W : World} {v v' : Value} {g : Nat} (hn : v.ownBlock ≠ some g) (hg : g < W.heap.size) (hat : v'.ownBlock = v.ownBlock ∨ v'.ownBlock = some W.heap.size) : v'.ownBlock ≠ some g := by
  rcases hat with h | h
  · rw [h]; exact hn
  · rw [h]; intro e; simp only [Option.some.injEq] at e; omega

def numsP (l : Let) (j : Nat) : List Int := [l.kind, l.src, l.dst, l.txn, l.ts, l.code, (l.keys.length : Int)] ++ (l.ws.take j).map fun x => if x.dead then 1 else 0
def textsP (l : Let) (j : Nat) : List ByteArray := l.text :: (l.keys ++ (l.ws.take j).flatMap fun x => [x.key, x.shard])

theorem numsP_all (l : Let) : numsP l l.ws.length = numsOf l := by unfold numsP numsOf; rw [List.take_length]
theorem textsP_all (l : Let) : textsP l l.ws.length = textsOf l := by unfold textsP textsOf; rw [List.take_length]
theorem numsP_succ {l : Let} {j : Nat} (h : j < l.ws.length) : numsP l (j + 1) = numsP l j ++ [if l.ws[j].dead then 1 else 0] := by
  unfold numsP
  rw [List.take_add_one, List.getElem?_eq_getElem h, List.map_append]
  simp
theorem textsP_succ {l : Let} {j : Nat} (h : j < l.ws.length) : textsP l (j + 1) = (textsP l j ++ [l.ws[j].key]) ++ [l.ws[j].shard] := by
  unfold textsP
  rw [List.take_add_one, List.getElem?_eq_getElem h, List.flatMap_append]
  simp
theorem numsP_len (l : Let) (j : Nat) : (numsP l j).length ≤ 7 + j := by
  unfold numsP
  rw [List.length_append, List.length_map, List.length_take]
  show 7 + _ ≤ _
  omega
theorem flat_len (ws : List Wr) : (ws.flatMap fun x => [x.key, x.shard]).length = 2 * ws.length := by
  induction ws with
  | nil => rfl
  | cons x r ih => simp only [List.flatMap_cons, List.length_append, List.length_cons, List.length_nil]; omega
theorem textsP_len (l : Let) (j : Nat) : (textsP l j).length ≤ 1 + l.keys.length + 2 * j := by
  unfold textsP
  rw [List.length_cons, List.length_append, flat_len, List.length_take]
  omega

end Lt
end Go.Proofs.Ytiobhbagjokpcaa

/- What the document's own Check of letters answers; contract; no condition but the range. -/
namespace Go.Proofs.Ytiobhbagjokpcaa
namespace Lt
open Go.RowKit Bk

attribute [local go_sem ↓] Go.wp_at_zero Go.wp_at_succ
attribute [local go_sem] floatUpon pick

theorem bool_of {p : Prop} : ∃ b : Bool, (b = true ↔ p) := ⟨@decide p (Classical.propDecidable _), by rw [@decide_eq_true_eq _ (Classical.propDecidable _)]⟩

end Lt
end Go.Proofs.Ytiobhbagjokpcaa

/- What the document's own Encode of letters answers; contract; no condition but the range. -/
namespace Go.Proofs.Ytiobhbagjokpcaa
namespace Lt
open Go.RowKit Bk

attribute [local go_sem ↓] Go.wp_at_zero Go.wp_at_succ
attribute [local go_sem] floatUpon pick

open Classical in
/-- what Encode answers -/
noncomputable def encV (l : Let) : Value := if LetOk l then .tuple #[.string ⟨(letL l).toArray⟩, .int .i64 0] else .tuple #[.string ⟨#[]⟩, .int .i64 70]

theorem encV_ok {l : Let} (h : LetOk l) : encV l = .tuple #[.string ⟨(letL l).toArray⟩, .int .i64 0] := by unfold encV; rw [if_pos h]
theorem encV_bad {l : Let} (h : ¬ LetOk l) : encV l = .tuple #[.string ⟨#[]⟩, .int .i64 70] := by unfold encV; rw [if_neg h]

theorem ckN_of {l : Let} (h : LetOk l) : ckN l = 0 := ckN_zero.2 h
theorem ckN_not {l : Let} (h : ¬ LetOk l) : ckN l = 70 := by unfold ckN; rw [if_neg h]

end Lt
end Go.Proofs.Ytiobhbagjokpcaa

/- What the document's own Pairs answers: writes of flags and texts; contract; no condition but the range. -/
namespace Go.Proofs.Ytiobhbagjokpcaa
namespace Lt
open Go.RowKit Bk

attribute [local go_sem ↓] Go.wp_at_zero Go.wp_at_succ
attribute [local go_sem] floatUpon pick

theorem Try.infoWrite : (Try.prog.info? 36).map (fun i => (i.zero, i.size, i.bytes)) = some (some (.agg #[.string ⟨#[]⟩, .string ⟨#[]⟩, .bool false]), 3, 40) := by kernel_rfl

/-- a row's cells -/
def wrV (l : List Wr) : List Value := l.flatMap fun x => [.string x.key, .string x.shard, .bool x.dead]

theorem wrV_len (l : List Wr) : (wrV l).length = l.length * 3 := by
  induction l with
  | nil => rfl
  | cons x r ih =>
    show ([_, _, _] ++ wrV r).length = _
    rw [List.length_append, ih, List.length_cons]
    simp; omega

theorem wrV_snoc (l : List Wr) (x : Wr) : wrV (l ++ [x]) = wrV l ++ [.string x.key, .string x.shard, .bool x.dead] := by
  unfold wrV
  rw [List.flatMap_append]; rfl

theorem wrV_at : ∀ (l : List Wr) (i : Nat) (h : i < l.length), (wrV l)[i * 3]? = some (.string l[i].key) ∧ (wrV l)[i * 3 + 1]? = some (.string l[i].shard) ∧ (wrV l)[i * 3 + 2]? = some (.bool l[i].dead)
  | [], _, h => absurd h (by simp)
  | x :: r, 0, _ => ⟨rfl, rfl, rfl⟩
  | x :: r, i + 1, h => by
    have ih := wrV_at r i (by simpa using h)
    have e : wrV (x :: r) = .string x.key :: .string x.shard :: .bool x.dead :: wrV r := rfl
    rw [e, show (i + 1) * 3 = i * 3 + 3 by omega]
    exact ih

theorem wrs_own {w : World} {H n : Nat} {v : Value} {e : TypeId} {l : List Wr} (h : w.ownsRow H e 3 v n (wrV l)) (hl : n = l.length) : ∃ (A : Option Addr) (c : Nat), v = .slice A n c ∧ WrsAt w A l ∧ n ≤ c ∧ c ≤ maxLen ∧ (A = none → c = 0) := by
  rcases h.2 with ⟨rfl, rfl⟩ | ⟨g, cap, cur, rfl, _, hg, h1, h2, hsz, htk⟩
  · exact ⟨none, 0, rfl, fun hp => by omega, Nat.le_refl _, Nat.zero_le _, fun _ => rfl⟩
  · refine ⟨_, cap, rfl, fun _ => ⟨_, rfl, (Array.getElem?_eq_some_iff.1 hg).1, fun i hi => ?_⟩, h1, h2, fun e => by cases e⟩
    obtain ⟨x0, x1, x2⟩ := wrV_at l i hi
    have hlen : (wrV l).length = n * 3 := by rw [wrV_len, hl]
    have hc : ∀ j u, (wrV l)[j]? = some u → w.cell? ((⟨g, 0, none⟩ : Addr).add j) = some u := fun j u hu => by
      rw [addr_head]
      refine blk_cell hg ?_
      have hj := (List.getElem?_eq_some_iff.1 hu).1
      rw [← htk, List.getElem?_take_of_lt (by omega)] at hu
      rw [← Array.getElem?_toList]; exact hu
    exact ⟨hc _ _ x0, hc _ _ x1, hc _ _ x2⟩

/-- the writes of flags and texts -/
def pairL : List Int → List ByteArray → List Wr
  | f :: fs, k :: s :: ts => ⟨k, s, f == 1⟩ :: pairL fs ts
  | _, _ => []

theorem pairL_len : ∀ (fs : List Int) (ts : List ByteArray), ts.length = 2 * fs.length → (pairL fs ts).length = fs.length
  | [], _, _ => by simp [pairL]
  | f :: fs, [], h => by simp at h
  | f :: fs, [k], h => by simp at h; omega
  | f :: fs, k :: s :: ts, h => by
    rw [pairL, List.length_cons, List.length_cons, pairL_len fs ts (by simp at h; omega)]

theorem pairL_at : ∀ (fs : List Int) (ts : List ByteArray) (_h : ts.length = 2 * fs.length) (i : Nat) (hi : i < fs.length) (hp : i < (pairL fs ts).length) (h1 : 2 * i < ts.length) (h2 : 2 * i + 1 < ts.length), (pairL fs ts)[i] = ⟨ts[2 * i], ts[2 * i + 1], fs[i] == 1⟩
  | [], _, _, _, hi, _, _, _ => absurd hi (by simp)
  | f :: fs, [], h, _, _, _, _, _ => by simp at h
  | f :: fs, [k], h, _, _, _, _, _ => by simp at h; omega
  | f :: fs, k :: s :: ts, h, 0, _, _, _, _ => rfl
  | f :: fs, k :: s :: ts, h, i + 1, hi, hp, h1, h2 => by
    have ih := pairL_at fs ts (by simp at h; omega) i (by simpa using hi) (by simpa [pairL] using hp) (by simp at h1; omega) (by simp at h2; omega)
    simp only [pairL, List.getElem_cons_succ, ih]
    congr 1 <;> simp [show 2 * (i + 1) = 2 * i + 1 + 1 by omega]

theorem new_row {w : World} {g : Nat} {t : TypeId} {xs : List Value} (h : w.heap[g]? = some (.cells xs.toArray t (0, 0))) : ∀ j v, xs[j]? = some v → w.cell? ((⟨g, 0, none⟩ : Addr).add j) = some v := fun j v hv => by
  rw [addr_head]
  exact blk_cell h (by rw [List.getElem?_toArray]; exact hv)

/-- what Pairs answers -/
def PairsAns (fs : List Int) (ts : List ByteArray) (w : World) : Ending → World → Prop := fun e w' =>
  (ts.length = 2 * fs.length ∧ ∃ v, e = .returned (.tuple #[v, .bool true]) ∧ w'.ownsRow w.heap.size 36 3 v fs.length (wrV (pairL fs ts)) ∧ Below w.heap.size w w') ∨
  (ts.length ≠ 2 * fs.length ∧ e = .returned (.tuple #[.slice none 0 0, .bool false]) ∧ w' = w)

end Lt
end Go.Proofs.Ytiobhbagjokpcaa
