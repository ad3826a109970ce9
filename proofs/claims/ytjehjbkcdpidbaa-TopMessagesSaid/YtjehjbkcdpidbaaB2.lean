/- Parts of the proof, joined: BkClone, SuMath2, SuLaw, SuDone3, SuDone4, ScMath, RdMath, BkStr, RdHead; their conditions stand with each. -/
import Derived.Test.YtjehjbkcdpidbaaRows
import Derived.Lib.Strings
import Derived.Lib.Walk
import Derived.Lib.BufferWrite
import Derived.Lib.UnsafeStr
import Derived.Lib.Hide
import Derived.Laws.MakeOwn
import Derived.WalkKit
import Derived.Test.YtjehjbkcdpidbaaB0
import Derived.Test.YtjehjbkcdpidbaaB1

/- What the library's strings.Clone answers: the same bytes; no condition but the range (for layers 5 and on, asks Bk alone). -/
namespace Go.Proofs.Ytjehjbkcdpidbaa
namespace Bk
open Go.RowKit

set_option maxHeartbeats 4000000 in
set_option maxRecDepth 100000 in
theorem clone_in (s : ByteArray) (w : World) (hlim : s.size ≤ 281474976710656) :
    Calls Try.prog 48 #[.string s] w fun e w' => e = .returned (.string s) ∧ Below w.heap.size w w' := by
  by_cases h0 : s.size = 0
  · have hs : s = ⟨#[]⟩ := by
      apply ByteArray.ext
      exact Array.eq_empty_of_size_eq_zero h0
    subst hs
    go_enter Try.func48, Try.ntmps48
    go_wp2
    go_ret
    exact ⟨rfl, Below.refl _ _⟩
  · obtain ⟨i0, hi, hz0, hz1, hz2⟩ := info_parts Bk.Try.infoU8
    have hinfo : (Try.prog.info? 5).map (·.size) = some 1 := by rw [hi]; simp [hz1]
    have hco : Try.prog.cellsOf 5 = 1 := by simp [Program.cellsOf, hi, hz1]
    obtain ⟨M, hM⟩ : ∃ M, M = madeCells (Value.int .u8 0).cells (((s.size : Nat) : Int).toNat * i0.size) := ⟨_, rfl⟩
    have hMs : M.size = s.size := by rw [hM, size_madeCells, hz1]; simp
    have hmk : ∀ W : World, (Instr.makeSlice 52 (.int .i64 (s.size : Int)) (.int .i64 (s.size : Int))).run Try.prog W = .ok (.slice (some ⟨W.heap.size, 0, none⟩) s.size s.size) (W.alloc (.cells M 5)) := fun W => by
      have h := run_make (P := Try.prog) W 52 5 i0 (.int .u8 0) Try.underlying52 hi hz0 .i64 .i64 (s.size : Int) (s.size : Int) (by omega) (by omega) (by rw [hz2]; omega) (by omega)
      rw [← hM] at h
      simpa using h
    clear hM
    have hcp := Lib.run_copy_row_string (P := Try.prog) (w.alloc (.cells M 5)) 52 9 3 5 w.heap.size 0 s.size s.size s M 5 Try.underlying52 hinfo (heap_alloc_new w _) (Nat.le_refl _) (by omega)
    obtain ⟨Y, hY⟩ : ∃ Y, Y = (M.toList.take 0 ++ Lib.byteCells s.data.toList ++ M.toList.drop (0 + s.size)).toArray := ⟨_, rfl⟩
    rw [← hY] at hcp
    have hYl : Y.toList = Lib.byteCells s.data.toList := by
      rw [hY, List.toList_toArray, List.take_zero, List.nil_append, List.drop_of_length_le (by rw [Array.length_toList]; omega), List.append_nil]
    have hYs : Y.size = s.size := by rw [← Array.length_toList, hYl, Lib.byteCells_length, ← Lib.size_eq]
    have hgY : ((w.alloc (.cells M 5)).setRow w.heap.size Y).heap[w.heap.size]? = some (.cells Y 5 (0, 0)) := setRow_heap _ _ M _ 5 (0, 0) (heap_alloc_new w _)
    have hne : s.data.toList ≠ [] := fun e => h0 (by rw [Lib.size_eq, e]; rfl)
    have hUS := Lib.run_unsafeString_row (P := Try.prog) ((w.alloc (.cells M 5)).setRow w.heap.size Y) 116 3 9 5 Try.underlying116 hco w.heap.size Y.size (by unfold World.shape?; rw [hgY]) s.data.toList hne (by rw [← Lib.size_eq]; omega) (by rw [← Lib.size_eq]; omega)
      (fun j x hx => Lib.cells_of_row hgY Y.size j _ (by rw [List.take_of_length_le (by rw [Array.length_toList]; exact Nat.le_refl _), hYl]; simp [Lib.byteCells, hx]))
    rw [← Lib.size_eq] at hUS
    clear hY
    go_enter Try.func48, Try.ntmps48
    go_wp2
    go_ret
    have hb1 : Below w.heap.size w (w.alloc (.cells M 5)) := (Below.refl _ w).alloc (Nat.le_refl _) _
    have hb2 : Below w.heap.size (w.alloc (.cells M 5)) ((w.alloc (.cells M 5)).setRow w.heap.size Y) := ⟨rfl, rfl, rfl, by simp, fun k hk => setRow_other _ _ _ _ (by omega)⟩
    exact ⟨rfl, Lib.below_freeze (hb1.trans hb2) (p := ⟨w.heap.size, 0, none⟩) (Nat.le_refl _) _⟩

set_option maxHeartbeats 1000000 in
theorem clone_any (s : ByteArray) (w : World) (hlim : s.size ≤ 281474976710656) :
    Calls Try.prog 31 #[.string s] w fun e w' => e = .returned (.string s) ∧ Below w.heap.size w w' := by
  go_enter Try.func31, Try.ntmps31
  go_wp2_with fail
  refine (clone_in s _ hlim).mono ?_
  rintro e w' ⟨rfl, hb⟩
  go_wp2_with fail
  go_ret
  exact ⟨rfl, hb⟩

end Bk
end Go.Proofs.Ytjehjbkcdpidbaa

/- Frames in plain lists: found again, cut short, turned; sums of texts unlike in one byte. -/
namespace Go.Proofs.Ytjehjbkcdpidbaa
namespace Su
open Go.RowKit Bk

/-! ### what stands at the head of a frame -/

theorem take2_frame (t : List UInt8) (n : Nat) (h : 2 ≤ n) (r : List UInt8) : ((frameL t ++ r).take n).take 2 = le 2 t.length := by
  rw [List.take_take, Nat.min_eq_left h]
  unfold frameL
  rw [List.append_assoc, List.append_assoc, List.take_append_of_le_length (by rw [le_length]; omega), List.take_of_length_le (by rw [le_length]; omega)]

theorem num_frame (t : List UInt8) (ht : t.length ≤ 4096) : num (le 2 t.length) = t.length := num_le 2 _ (by show _ < 65536; omega)

theorem restR_cut (t : List UInt8) (ht : t.length ≤ 4096) (n : Nat) (hn : n < t.length + 6) : restR ((frameL t).take n) = .error 50 := by
  have hl : ((frameL t).take n).length = n := by rw [List.length_take, frameL_len]; omega
  unfold restR
  by_cases h : n < 2
  · rw [if_pos (by rw [hl]; exact h)]
  · have h2 := take2_frame t n (by omega) []
    rw [List.append_nil] at h2
    rw [if_neg (by rw [hl]; exact h), h2, num_frame t ht, if_neg (by omega), if_pos (by rw [hl]; exact hn)]

theorem restR_frame (t r : List UInt8) (ht : t.length ≤ 4096) : restR (frameL t ++ r) = .ok t := by
  have hl : (frameL t ++ r).length = t.length + 6 + r.length := by rw [List.length_append, frameL_len]
  have h2 := take2_frame t (frameL t ++ r).length (by omega) r
  rw [List.take_of_length_le (Nat.le_refl _)] at h2
  have h3 : (frameL t ++ r).take (t.length + 6) = frameL t := by
    rw [List.take_append_of_le_length (by rw [frameL_len]; omega), List.take_of_length_le (by rw [frameL_len]; omega)]
  have h4 : ((frameL t ++ r).drop 2).take t.length = t := by
    unfold frameL
    rw [List.append_assoc, List.append_assoc, List.drop_append_of_le_length (by rw [le_length]; omega), List.drop_eq_nil_of_le (by rw [le_length]; omega), List.nil_append, List.take_append_of_le_length (Nat.le_refl _), List.take_of_length_le (Nat.le_refl _)]
  unfold restR
  rw [if_neg (by omega), h2, num_frame t ht, if_neg (by omega), if_neg (by omega), h4, if_pos h3]

/-! ### many frames -/

/-- frames one behind the other -/
def framesL (l : List (List UInt8)) : List UInt8 := l.flatMap frameL

theorem framesL_cons (t : List UInt8) (l : List (List UInt8)) : framesL (t :: l) = frameL t ++ framesL l := rfl

theorem walkR_frames : ∀ (l : List (List UInt8)) (f a : Nat), (∀ t ∈ l, t.length ≤ 4096) → (framesL l).length ≤ f → walkR f (framesL l) a = (l.map (fun t => ⟨t.toArray⟩), a + (framesL l).length, 0)
  | [], f, a, _, _ => by
    show walkR f [] a = _
    rw [walkR_nil]; rfl
  | t :: l, f, a, hl, hf => by
    have ht := hl t (List.mem_cons_self ..)
    rw [framesL_cons, List.length_append, frameL_len] at hf
    obtain ⟨f, rfl⟩ : ∃ k, f = k + 1 := ⟨f - 1, by omega⟩
    have hr := restR_frame t (framesL l) ht
    rw [framesL_cons, walkR_ok (by intro h; have := congrArg List.length h; rw [List.length_append, frameL_len] at this; simp at this) hr]
    rw [List.drop_append_of_le_length (by rw [frameL_len]; omega), List.drop_eq_nil_of_le (by rw [frameL_len]; omega), List.nil_append, walkR_frames l f _ (fun x hx => hl x (List.mem_cons_of_mem _ hx)) (by omega), List.length_append, frameL_len]
    simp only [List.map_cons]
    congr 2
    omega

/-! ### a bit turned -/

theorem toNat_xor8 (a b : UInt8) : (a ^^^ b).toNat = a.toNat ^^^ b.toNat := rfl

theorem mul256_xor (a b : Nat) : 256 * (a ^^^ b) = (256 * a) ^^^ (256 * b) := by
  have h := Nat.shiftLeft_xor_distrib (a := a) (b := b) (i := 8)
  simp only [Nat.shiftLeft_eq] at h
  rw [Nat.mul_comm 256, Nat.mul_comm 256, Nat.mul_comm 256]
  exact h

theorem num_set_xor : ∀ (L : List UInt8) (j : Nat) (v : UInt8) (h : j < L.length), num (L.set j (L[j] ^^^ v)) = num L ^^^ (v.toNat * 256 ^ j)
  | b :: L, 0, v, _ => by
    show (b ^^^ v).toNat + 256 * num L = (b.toNat + 256 * num L) ^^^ (v.toNat * 1)
    rw [byte_add, byte_add, toNat_xor8, Nat.mul_one, Nat.xor_assoc, Nat.xor_assoc, Nat.xor_comm v.toNat]
  | b :: L, j + 1, v, h => by
    have hj : j < L.length := by simpa using h
    have ih := num_set_xor L j v hj
    show b.toNat + 256 * num (L.set j (L[j]'hj ^^^ v)) = (b.toNat + 256 * num L) ^^^ (v.toNat * 256 ^ (j + 1))
    rw [ih, byte_add, byte_add, mul256_xor, Nat.xor_assoc, Nat.pow_succ, show v.toNat * (256 ^ j * 256) = 256 * (v.toNat * 256 ^ j) by rw [← Nat.mul_assoc, Nat.mul_comm]]

theorem num_frameL (t : List UInt8) : num (le 4 (crc (le 2 t.length ++ t))) = crc (le 2 t.length ++ t) := num_le 4 _ (crc_lt _)

/-- a frame with bits turned behind its length, all within 32: refused -/
theorem restR_turned {t F : List UInt8} {q first : Nat} (ht : t.length ≤ 4096) (hl : F.length = t.length + 6) (h2 : F.take 2 = (frameL t).take 2) (hq : q < 4294967296) (hx : num (frameL t) ^^^ num F = q * 2 ^ first) (hne : F ≠ frameL t) : restR F = .error 51 := by
  have e2 := take2_frame t (frameL t ++ []).length (by rw [List.append_nil, frameL_len]; omega) []
  rw [List.take_of_length_le (Nat.le_refl _), List.append_nil] at e2
  unfold restR
  rw [if_neg (by omega), h2, e2, num_frame t ht, if_neg (by omega), if_neg (by omega)]
  rw [List.take_of_length_le (by omega)]
  split
  · next h =>
    exfalso
    have hl2 : ((F.drop 2).take t.length).length = t.length := by rw [List.length_take, List.length_drop]; omega
    generalize (F.drop 2).take t.length = t' at h hl2
    subst h
    refine hne ?_
    have hq0 : q = 0 := by
      refine turned_seen (A := le 2 t.length ++ t) (B := le 4 (crc (le 2 t.length ++ t))) (A' := le 2 t'.length ++ t') (B' := le 4 (crc (le 2 t'.length ++ t'))) (first := first) ?_ (num_frameL t) (num_frameL t') hq hx
      rw [List.length_append, List.length_append, le_length, le_length, hl2]
    rw [hq0, Nat.zero_mul] at hx
    have hE : num (frameL t) = num (frameL t') := by
      have h3 := congrArg (num (frameL t) ^^^ ·) hx
      simp only [← Nat.xor_assoc, Nat.xor_self, Nat.zero_xor, Nat.xor_zero] at h3
      exact h3.symm
    exact (num_inj (by rw [frameL_len, frameL_len, hl2]) hE).symm
  · rfl

/-- texts of one length, unlike in one byte: unlike sums -/
theorem crc_set (A : List UInt8) (j : Nat) (v : UInt8) (h : j < A.length) (hv : v ≠ 0) : crc (A.set j (A[j] ^^^ v)) ≠ crc A := by
  intro he
  have hv0 : v.toNat ≠ 0 := fun h0 => hv (UInt8.toNat.inj h0)
  have hx : num (A ++ le 4 (crc A)) ^^^ num (A.set j (A[j] ^^^ v) ++ le 4 (crc A)) = v.toNat * 2 ^ (8 * j) := by
    rw [← List.set_append_left _ _ h, show A[j] = (A ++ le 4 (crc A))[j]'(by rw [List.length_append]; omega) from (List.getElem_append_left ..).symm, num_set_xor, ← Nat.xor_assoc, Nat.xor_self, Nat.zero_xor, pow256]
  have := v.toNat_lt
  exact hv0 (turned_seen (q := v.toNat) (first := 8 * j) (by rw [List.length_set]) (num_le 4 _ (crc_lt A)) (by rw [he]; exact num_le 4 _ (crc_lt A)) (by omega) hx)

end Su
end Go.Proofs.Ytjehjbkcdpidbaa

/- What is asked of the landed package, and the laws that hold over it: the example, Pieces, Next, All, Cut. -/
namespace Go.Proofs.Ytjehjbkcdpidbaa
namespace Su
open Go.RowKit Bk

attribute [local go_sem ↓] Go.wp_at_zero Go.wp_at_succ
attribute [local go_sem] floatUpon pick

/-- what is asked of sum.Of -/
def OfAll : Prop := ∀ (A : Option Addr) (c : Nat) (l : List ByteArray) (w : World), StrsAt w A l → l.length ≤ c → l.length ≤ 9223372036854775807 → (catL l).length ≤ 9223372036854775807 →
  Calls Try.prog 47 #[.slice A l.length c] w fun e w' => e = .returned (.int .i64 ((crc (catL l) : Nat) : Int)) ∧ Below w.heap.size w w'

/-- what is asked of sum.Frame -/
def FrameAll : Prop := ∀ (s : ByteArray) (w : World), s.size ≤ 140737488351232 → Calls Try.prog 30 #[.string s] w fun e w' => e = .returned (frameV s) ∧ Below w.heap.size w w'

/-- what is asked of sum.Next -/
def NextAll : Prop := ∀ (s : ByteArray) (i : Int) (w : World), s.size ≤ 1000000000000000 → -9223372036854775808 ≤ i ∧ i ≤ 9223372036854775807 → Calls Try.prog 56 #[.string s, .int .i64 i] w fun e w' => e = .returned (nextV s i) ∧ Below w.heap.size w w'

/-- what is asked of sum.All -/
def AllAll : Prop := ∀ (s : ByteArray) (w : World), s.size ≤ 50000000000000 → Calls Try.prog 36 #[.string s] w (AllAns s w)

theorem nine : crc [49, 50, 51, 52, 53, 54, 55, 56, 57] = 3421780262 := by decide +kernel

theorem none0 : crc [] = 0 := by decide +kernel

theorem nextV_form (s : ByteArray) (i : Int) : ∃ (t : ByteArray) (n e : Int), nextV s i = .tuple #[.string t, .int .i64 n, .int .i64 e] := by
  unfold nextV
  split
  · exact ⟨_, _, _, rfl⟩
  · cases restR (s.data.toList.drop i.toNat) with
    | error e => exact ⟨_, _, _, rfl⟩
    | ok t => exact ⟨_, _, _, rfl⟩

theorem frameV_form (s : ByteArray) : ∃ (t : ByteArray) (e : Int), frameV s = .tuple #[.string t, .int .i64 e] := by
  unfold frameV
  split
  · exact ⟨_, _, rfl⟩
  · exact ⟨_, _, rfl⟩

theorem walkR_len : ∀ (f : Nat) (r : List UInt8) (a : Nat), (walkR f r a).1.length * 6 ≤ r.length
  | 0, r, a => by simp [walkR]
  | f + 1, r, a => by
    by_cases hr : r = []
    · subst hr; rw [walkR_nil]; simp
    · cases h : restR r with
      | error e => rw [walkR_err hr h]; simp
      | ok t =>
        have h2 := (restR_ok h).2.1
        have ih := walkR_len f (r.drop (t.length + 6)) (a + t.length + 6)
        rw [List.length_drop] at ih
        rw [walkR_ok hr h, List.length_cons]
        omega

theorem allR_len (s : ByteArray) : (allR s).1.length * 6 ≤ s.size := by
  have := walkR_len s.size s.data.toList 0
  rwa [list_size] at this

theorem lent_capS {w : World} {H g cap : Nat} {l : List ByteArray} (h : w.ownsRow H 9 1 (.slice (some ⟨g, 0, none⟩) (l.length + 1) cap) (l.length + 1) (strV l ++ [.string markS])) : l.length ≤ cap := by
  rcases h.2 with ⟨h1, h2⟩ | ⟨g', cap', cur, h1, _, _, h3, _⟩
  · simp at h1
  · simp only [Value.slice.injEq] at h1; omega

end Su
end Go.Proofs.Ytjehjbkcdpidbaa

/- What the landed package's Frame and Next do; no condition but the range. -/
namespace Go.Proofs.Ytjehjbkcdpidbaa
namespace Su
open Go.RowKit Bk

attribute [local go_sem ↓] Go.wp_at_zero Go.wp_at_succ
attribute [local go_sem] floatUpon pick

theorem le_num : ∀ (L : List UInt8), le L.length (num L) = L
  | [] => rfl
  | b :: L => by
    have hb : b.toNat < 256 := b.toNat_lt
    show UInt8.ofNat ((b.toNat + 256 * num L) % 256) :: le L.length ((b.toNat + 256 * num L) / 256) = b :: L
    rw [show (b.toNat + 256 * num L) % 256 = b.toNat by omega, show (b.toNat + 256 * num L) / 256 = num L by omega, le_num L, UInt8.ofNat_toNat]

/-- a frame that fits is one just if its last four bytes are the sum of those ahead of them -/
theorem frame_iff (R : List UInt8) (n : Nat) (hn : num (R.take 2) = n) (h : n + 6 ≤ R.length) :
    R.take (n + 6) = frameL ((R.drop 2).take n) ↔ num ((R.drop (2 + n)).take 4) = crc (R.take (2 + n)) := by
  have h2 : le 2 n = R.take 2 := by
    have := le_num (R.take 2)
    rw [List.length_take, Nat.min_eq_left (by omega), hn] at this
    exact this
  have h3 : ((R.drop 2).take n).length = n := by rw [List.length_take, List.length_drop]; omega
  have h4 : R.take 2 ++ (R.drop 2).take n = R.take (2 + n) := by rw [List.take_add]
  have h5 : R.take (n + 6) = R.take (2 + n) ++ (R.drop (2 + n)).take 4 := by rw [show n + 6 = (2 + n) + 4 by omega, List.take_add]
  have h6 : ((R.drop (2 + n)).take 4).length = 4 := by rw [List.length_take, List.length_drop]; omega
  have h7 := le_num ((R.drop (2 + n)).take 4)
  rw [h6] at h7
  unfold frameL
  rw [h3, h2, h4, h5]
  constructor
  · intro e
    have e2 := List.append_cancel_left e
    rw [e2, num_le 4 _ (crc_lt _)]
  · intro e
    rw [← h7, e]

set_option maxRecDepth 20000 in
set_option maxHeartbeats 1000000 in
theorem next_any (s : ByteArray) (i : Int) (w : World) (hs : s.size ≤ 1000000000000000) (hi : -9223372036854775808 ≤ i ∧ i ≤ 9223372036854775807) :
    Calls Try.prog 56 #[.string s, .int .i64 i] w fun e w' => e = .returned (nextV s i) ∧ Below w.heap.size w w' := by
  have hB : (s.size : Int) ≤ 1000000000000000 := by omega
  by_cases hbad : i < 0 ∨ (s.size : Int) < i
  · have E := Lib.hid (nextV_bad hbad)
    rcases hbad with h | h
    · go_enter Try.func56, Try.ntmps56
      go_wp2_with fail
      go_ret3
      exact ⟨by rw [E.out]; rfl, Below.refl _ _⟩
    · have h0 : 0 ≤ i := by omega
      go_enter Try.func56, Try.ntmps56
      go_wp2_with fail
      go_ret3
      exact ⟨by rw [E.out]; rfl, Below.refl _ _⟩
  · obtain ⟨a, rfl⟩ : ∃ a : Nat, i = (a : Int) := ⟨i.toNat, by omega⟩
    have ha : a ≤ s.size := by omega
    have E := Lib.hid (nextV_at ha)
    have hfrom := fun W => str_from s a ha (a : Int) rfl W
    obtain ⟨R, hR⟩ : ∃ R, R = s.data.toList.drop a := ⟨_, rfl⟩
    have hRl : R.length = s.size - a := by rw [hR, List.length_drop, list_size]
    rw [← hR] at hfrom E
    have z : (⟨R.toArray⟩ : ByteArray).size = R.length := cat_size R
    have hSl : (⟨R.toArray⟩ : ByteArray).data.toList = R := rfl
    clear hR hbad
    generalize (⟨R.toArray⟩ : ByteArray) = S at hfrom z hSl
    have pa : (a : Int) ≤ (s.size : Int) := by omega
    by_cases h2 : R.length < 2
    · have E2 := Lib.hid (show restR R = .error 50 by unfold restR; rw [if_pos h2])
      have q : (S.size : Int) < 2 := by omega
      clear z hSl h2
      go_enter Try.func56, Try.ntmps56
      go_wp2_with fail
      go_ret3
      exact ⟨by rw [E.out, E2.out]; rfl, Below.refl _ _⟩
    · obtain ⟨n, hn⟩ : ∃ n, n = num (R.take 2) := ⟨_, rfl⟩
      have hn256 : n < 65536 := by
        have := num_lt (R.take 2)
        rw [List.length_take, Nat.min_eq_left (by omega), ← hn] at this
        exact this
      have h2f := fun W => str_to S 2 (by omega) 2 rfl W
      rw [hSl] at h2f
      have hN1 := fun W => number_any ⟨(R.take 2).toArray⟩ W (by rw [cat_size, List.length_take]; omega)
      have hN1' : ∀ W, Calls Try.prog 78 #[.string ⟨(R.take 2).toArray⟩] W fun e w' => e = .returned (.int .i64 ((n : Nat) : Int)) ∧ w' = W := by
        rw [hn]; exact hN1
      have HN1 := Lib.hid hN1'
      have q2 : (2 : Int) ≤ (S.size : Int) := by omega
      clear hN1 hN1' hn256
      generalize (⟨(R.take 2).toArray⟩ : ByteArray) = S2 at h2f HN1
      by_cases hlong : 4096 < n
      · have E2 := Lib.hid (show restR R = .error 2 by unfold restR; rw [if_neg h2, ← hn, if_pos hlong])
        have pl : (4096 : Int) < (n : Int) := by omega
        clear h2 z hRl hSl hn
        go_enter Try.func56, Try.ntmps56
        go_wp2_with fail
        refine (HN1.out _).mono ?_
        rintro e w' ⟨rfl, rfl⟩
        go_wp2_with fail
        go_ret3
        exact ⟨by rw [E.out, E2.out]; rfl, Below.refl _ _⟩
      · have pl : (n : Int) ≤ 4096 := by omega
        by_cases hshort : R.length < n + 6
        · have E2 := Lib.hid (show restR R = .error 50 by unfold restR; rw [if_neg h2, ← hn, if_neg hlong, if_pos hshort])
          have q3 : (S.size : Int) < (n : Int) + 6 := by omega
          clear h2 z hRl hSl hn hshort
          go_enter Try.func56, Try.ntmps56
          go_wp2_with fail
          refine (HN1.out _).mono ?_
          rintro e w' ⟨rfl, rfl⟩
          go_wp2_with fail
          go_ret3
          exact ⟨by rw [E.out, E2.out]; rfl, Below.refl _ _⟩
        · have q3 : (n : Int) + 6 ≤ (S.size : Int) := by omega
          have hiff := frame_iff R n hn.symm (by omega)
          have hmid := fun W => str_mid S 2 (2 + n) (by omega) (by omega) 2 (2 + (n : Int)) rfl (by omega) W
          have hend := fun W => str_mid S (2 + n) (2 + n + 4) (by omega) (by omega) (2 + (n : Int)) (2 + (n : Int) + 4) (by omega) (by omega) W
          have hto := fun W => str_to S (2 + n) (by omega) (2 + (n : Int)) (by omega) W
          rw [hSl, show 2 + n - 2 = n by omega] at hmid
          rw [hSl, show 2 + n + 4 - (2 + n) = 4 by omega] at hend
          rw [hSl] at hto
          obtain ⟨t, ht⟩ : ∃ t, t = (R.drop 2).take n := ⟨_, rfl⟩
          rw [← ht] at hmid
          have htl : t.length = n := by rw [ht, List.length_take, List.length_drop]; omega
          have hN4 := fun W => number_any ⟨((R.drop (2 + n)).take 4).toArray⟩ W (by rw [cat_size, List.length_take]; omega)
          obtain ⟨X, hX⟩ : ∃ X, X = num ((R.drop (2 + n)).take 4) := ⟨_, rfl⟩
          obtain ⟨C, hC⟩ : ∃ C, C = crc (R.take (2 + n)) := ⟨_, rfl⟩
          have hN4' : ∀ W, Calls Try.prog 78 #[.string ⟨((R.drop (2 + n)).take 4).toArray⟩] W fun e w' => e = .returned (.int .i64 ((X : Nat) : Int)) ∧ w' = W := by
            rw [hX]; exact hN4
          have HN4 := Lib.hid hN4'
          have hO : ∀ (p : Nat) (W : World), W.heap[p]? = some (.cells #[.string ⟨(R.take (2 + n)).toArray⟩] 9 (0, 0)) → Calls Try.prog 47 #[.slice (some ⟨p, 0, none⟩) 1 1] W fun e w' => e = .returned (.int .i64 ((C : Nat) : Int)) ∧ w' = W := fun p W hp => by
            have hcat : catL [⟨(R.take (2 + n)).toArray⟩] = R.take (2 + n) := by simp [catL]
            have h := of_any (some ⟨p, 0, none⟩) 1 [⟨(R.take (2 + n)).toArray⟩] W (StrsAt.blk hp) (by simp) (by rw [hcat, List.length_take]; omega)
            rw [hcat, ← hC] at h
            exact h
          have HO := Lib.hid hO
          rw [← hX, ← hC, ← ht] at hiff
          have htz : (⟨t.toArray⟩ : ByteArray).size ≤ 281474976710656 := by rw [cat_size, htl]; omega
          have HCl := Lib.hid (fun W => clone_any ⟨t.toArray⟩ W htz)
          clear hN4 hN4' hO htz
          generalize (⟨(R.take (2 + n)).toArray⟩ : ByteArray) = S3 at hto HO
          generalize (⟨((R.drop (2 + n)).take 4).toArray⟩ : ByteArray) = S4 at hend HN4
          have E2 : Hid (restR R = if X = C then .ok t else .error 51) := Lib.hid (by
            unfold restR; rw [if_neg h2, ← hn, if_neg hlong, if_neg hshort, ← ht]
            by_cases hx : X = C
            · rw [if_pos hx, if_pos (hiff.2 hx)]
            · rw [if_neg hx, if_neg (fun h => hx (hiff.1 h))])
          have HT := Lib.hid htl
          clear h2 z hRl hSl hn hshort hX hC hiff htl ht
          go_enter Try.func56, Try.ntmps56
          go_wp2_with fail
          refine (HN1.out _).mono ?_
          rintro e w' ⟨rfl, rfl⟩
          have hadd2 : IntKind.i64.wrap (2 + (n : Int)) = 2 + (n : Int) := i64_wrap (by omega) (by omega)
          have hadd6 : IntKind.i64.wrap (2 + (n : Int) + 4) = 2 + (n : Int) + 4 := i64_wrap (by omega) (by omega)
          go_wp2_with fail
          refine wp_region_said 12 [36, 37, 38, 39, 40, 41, 42, 43, 44, 45, 46, 47]
            [.is (.string S), .is (.int .i64 (2 + (n : Int))), .is (.int .i64 (2 + (n : Int))), .is (.int .i64 (2 + (n : Int) + 4)), .is (.string S4), .is (.int .i64 (X : Int)), .is (.string S), .is (.int .i64 (2 + (n : Int))), .is (.string S3), .arr 9 #[.string S3] 1 1, .is (.int .i64 (C : Int)), .is (.bool ((X : Int) != (C : Int)))]
            (fun _ => True) (by kernel_rfl) (by kernel_rfl) (by kernel_rfl) (by kernel_rfl) (by kernel_rfl) (fun _ _ _ _ => trivial) trivial ?steps ?last
          case steps =>
            simp only [List.take_succ_cons, List.take_zero]
            refine ⟨?_, ?_, ?_, ?_, ?_, ?_, ?_, ?_, ?_, ?_, ?_, ?_, trivial⟩
            all_goals
              intro vs W ρ hρ hc hf hg hI hH hd R' hR
              have HR := Lib.hid hR
              simp [depsOf, Region.binds, sayAt, Say.holds] at hd
              clear hR
            case refine_10 =>
              go_simp
              exact HR.out _ _ ⟨W.heap.size, hH, by simp, rfl, heap_alloc_new W _⟩ ((Below.refl _ _).alloc (Nat.le_refl _) _) (fun h => by cases h)
            case refine_11 =>
              obtain ⟨⟨p, hp1, hp2, hp3, hp4⟩, h5⟩ := hd
              go_simp
              refine (HO.out p _ hp4).mono ?_
              rintro e w' ⟨rfl, rfl⟩
              exact ⟨_, rfl, HR.out _ _ (by simp [sayAt, Say.holds]) (Below.refl _ _) (by simp [sayAt, Say.isBlk])⟩
            case refine_6 =>
              go_simp
              refine (HN4.out _).mono ?_
              rintro e w' ⟨rfl, rfl⟩
              exact ⟨_, rfl, HR.out _ _ (by simp [sayAt, Say.holds]) (Below.refl _ _) (by simp [sayAt, Say.isBlk])⟩
            all_goals
              go_simp
              first
                | exact HR.out _ _ (by simp [sayAt, Say.holds]) (Below.refl _ _) (by simp [sayAt, Say.isBlk])
                | trace_state
          case last =>
            intro vs W hI hb hg hd
            have g := hg 11 (by omega)
            simp only [sayAt, Say.holds, List.getD_cons_succ, List.getD_cons_zero] at g
            simp only [List.take_succ_cons, List.take_zero, List.drop_succ_cons, List.drop_zero, putAll, Act.put, List.setIfInBounds_toArray, List.set_cons_succ, List.set_cons_zero, Nat.zero_add, Nat.reduceAdd]
            rw [g]
            have HB := Lib.hid hb
            clear g hg hd hb hI
            by_cases hx : X = C
            · have hne : ((X : Int) != (C : Int)) = false := by simp [hx]
              have E3 := E2.out
              rw [if_pos hx] at E3
              have E4 := Lib.hid E3
              clear E2 E3 hx
              have hs1 : IntKind.i64.wrap ((a : Int) + (2 + (n : Int))) = (a : Int) + (2 + (n : Int)) := i64_wrap (by omega) (by omega)
              have hs2 : IntKind.i64.wrap ((a : Int) + (2 + (n : Int)) + 4) = (a : Int) + (2 + (n : Int)) + 4 := i64_wrap (by omega) (by omega)
              generalize hT : (⟨t.toArray⟩ : ByteArray) = T at hmid HCl
              have HTT := Lib.hid hT
              clear hT
              go_wp2_with fail
              refine (HCl.out _).mono ?_
              rintro e w1 ⟨rfl, hb1⟩
              have HB1 := Lib.hid (HB.out.trans (hb1.mono HB.out.size))
              clear hb1 HB
              go_wp2_with fail
              go_ret3
              exact ⟨by rw [E.out, E4.out]; show _ = Ending.returned (Value.tuple #[.string ⟨t.toArray⟩, .int .i64 ((a + t.length + 6 : Nat) : Int), .int .i64 0]); rw [HTT.out, HT.out, show ((a + n + 6 : Nat) : Int) = (a : Int) + (2 + (n : Int)) + 4 by omega]; rfl, HB1.out⟩
            · have hne : ((X : Int) != (C : Int)) = true := by simp; omega
              have E3 := E2.out
              rw [if_neg hx] at E3
              have E4 := Lib.hid E3
              clear E2 E3 hx
              go_wp2_with fail
              go_ret3
              exact ⟨by rw [E.out, E4.out]; rfl, HB.out⟩

set_option maxRecDepth 20000 in
set_option maxHeartbeats 1000000 in
theorem frame_any (s : ByteArray) (w : World) (hs : s.size ≤ 140737488351232) :
    Calls Try.prog 30 #[.string s] w fun e w' => e = .returned (frameV s) ∧ Below w.heap.size w w' := by
  by_cases h : 4096 < s.size
  · have E := Lib.hid (show frameV s = .tuple #[.string ⟨#[]⟩, .int .i64 2] by unfold frameV; rw [if_pos h])
    have h' : (4096 : Int) < (s.size : Int) := by omega
    clear h
    go_enter Try.func30, Try.ntmps30
    go_wp2_with fail
    go_ret2
    exact ⟨by rw [E.out]; rfl, Below.refl _ _⟩
  · have E := Lib.hid (show frameV s = .tuple #[.string (frameB s), .int .i64 0] by unfold frameV; rw [if_neg h])
    have h' : (s.size : Int) ≤ 4096 := by omega
    have H1 := Lib.hid (fun W => low_any s.size 2 W (by omega) (by omega) (by omega))
    obtain ⟨L1, hL1⟩ : ∃ L1, L1 = le 2 s.size ++ s.data.toList := ⟨_, rfl⟩
    have hz : L1.length = s.size + 2 := by rw [hL1, List.length_append, le_length, list_size]; omega
    have hF : frameB s = ⟨(L1 ++ le 4 (crc L1)).toArray⟩ := by unfold frameB frameL; rw [list_size, ← hL1]
    have H2 := Lib.hid (fun W => low_any (crc L1) 4 W (by have := crc_lt L1; omega) (by omega) (by omega))
    have hO : ∀ (p : Nat) (W : World), W.heap[p]? = some (.cells #[.string ⟨(le 2 s.size).toArray⟩, .string s] 9 (0, 0)) → Calls Try.prog 47 #[.slice (some ⟨p, 0, none⟩) 2 2] W fun e w' => e = .returned (.int .i64 ((crc L1 : Nat) : Int)) ∧ w' = W := fun p W hp => by
      have hcat : catL [⟨(le 2 s.size).toArray⟩, s] = L1 := by rw [hL1]; simp [catL]
      have h := of_any (some ⟨p, 0, none⟩) 2 [⟨(le 2 s.size).toArray⟩, s] W (StrsAt.blk hp) (by simp) (by rw [hcat, hz]; omega)
      rw [hcat] at h
      exact h
    have HO := Lib.hid hO
    have e1 : (⟨(le 2 s.size).toArray⟩ : ByteArray) ++ s = ⟨L1.toArray⟩ := by rw [hL1, ← ByteArray.mk_append_mk]
    have z1 : (⟨(le 2 s.size).toArray⟩ : ByteArray).size = 2 := by rw [cat_size, le_length]
    have hadd := fun W => run_string_add_sum (P := Try.prog) W ⟨(le 2 s.size).toArray⟩ s (by rw [z1]; omega)
    rw [e1] at hadd
    have e2 : (⟨L1.toArray⟩ : ByteArray) ++ ⟨(le 4 (crc L1)).toArray⟩ = frameB s := by rw [hF, ← ByteArray.mk_append_mk]
    have z2 : (⟨(le 4 (crc L1)).toArray⟩ : ByteArray).size = 4 := by rw [cat_size, le_length]
    have z3 : (⟨L1.toArray⟩ : ByteArray).size = s.size + 2 := by rw [cat_size, hz]
    have hadd2 := fun W => run_string_add_sum (P := Try.prog) W ⟨L1.toArray⟩ ⟨(le 4 (crc L1)).toArray⟩ (by rw [z2, z3]; omega)
    rw [e2] at hadd2
    have hC := crc_lt L1
    clear hO e1 z1 e2 z2 z3 h hF hz hL1
    generalize (⟨(le 2 s.size).toArray⟩ : ByteArray) = B1 at H1 HO hadd
    generalize (⟨(le 4 (crc L1)).toArray⟩ : ByteArray) = B2 at H2 hadd2
    generalize (⟨L1.toArray⟩ : ByteArray) = S1 at hadd hadd2
    generalize crc L1 = C at H2 HO hC
    go_enter Try.func30, Try.ntmps30
    go_wp2_with fail
    refine (H1.out _).mono ?_
    rintro e w1 ⟨rfl, hb⟩
    have W1 := Lib.hid hb
    clear hb
    go_wp2_with fail
    refine (HO.out _ _ (heap_alloc_new _ _)).mono ?_
    rintro e w2 ⟨rfl, rfl⟩
    have W2 := Lib.hid (W1.out.alloc (o := .cells #[.string B1, .string s] 9) W1.out.size)
    clear W1
    go_wp2_with fail
    refine (H2.out _).mono ?_
    rintro e w3 ⟨rfl, hb⟩
    have W3 := Lib.hid (W2.out.trans (hb.mono W2.out.size))
    clear hb W2
    go_wp2_with fail
    go_ret2
    exact ⟨by rw [E.out]; rfl, W3.out⟩

end Su
end Go.Proofs.Ytjehjbkcdpidbaa

/- What the landed package's All does; the four contracts that the laws stand on. -/
namespace Go.Proofs.Ytjehjbkcdpidbaa
namespace Su
open Go.RowKit Bk

attribute [local go_sem ↓] Go.wp_at_zero Go.wp_at_succ
attribute [local go_sem] floatUpon pick

set_option maxRecDepth 20000 in
set_option maxHeartbeats 2000000 in
theorem all_any (s : ByteArray) (w : World) (hs : s.size ≤ 50000000000000) :
    Calls Try.prog 36 #[.string s] w (AllAns s w) := by
  obtain ⟨i0, hi, hz0, hz1, hz2⟩ := info_parts Try.infoStr
  have hB : (s.size : Int) ≤ 50000000000000 := by omega
  go_enter Try.func36, Try.ntmps36
  go_wp2_with fail
  go_loopw [2, 3] (fun out i wr => ∃ (a : Nat) (O : List ByteArray), a ≤ s.size ∧ O.length * 6 ≤ a ∧ i = .int .i64 (a : Int) ∧ wr.ownsRow w.heap.size 9 1 out O.length (strV O) ∧ Upto s O a ∧ Below w.heap.size w wr) (fun _ i _ => s.size - (intOf i).toNat)
  case atStart => exact ⟨0, [], by omega, by simp, rfl, ⟨rfl, .inl ⟨rfl, rfl⟩⟩, Upto.start s, Below.refl _ _⟩
  case round =>
    obtain ⟨a, O, ha, hO, rfl, hown, hup, hbel⟩ := hrel
    by_cases hlt : a < s.size
    · have pa : (a : Int) < (s.size : Int) := by omega
      have HN := Lib.hid (next_any s (a : Int) wr (by omega) ⟨by omega, by omega⟩)
      have hv := nextV_at (s := s) (a := a) (by omega)
      cases hr : restR (s.data.toList.drop a) with
      | error e =>
        have he := restR_err hr
        have hall := hup.err hlt hr
        rw [hr] at hv
        have hv2 : nextV s (a : Int) = .tuple #[.string ⟨#[]⟩, .int .i64 0, .int .i64 (e : Int)] := hv
        have hne : (((e : Nat) : Int) != 0) = true := by simp; omega
        rw [hv2] at HN
        have HA := Lib.hid hall
        have HU := Lib.hid hown
        have HBl := Lib.hid hbel
        clear hr hup hv hv2 hall hown hbel he
        go_wp2_with fail
        refine HN.out.mono ?_
        rintro e w1 ⟨rfl, hb⟩
        have HU1 := Lib.hid (st_keep HU.out hb)
        have HB1 := Lib.hid (HBl.out.trans (hb.mono HBl.out.size))
        clear hb HU HBl HN
        go_wp2_with fail
        go_ret3
        obtain ⟨A, c, hvv, hst⟩ := strs_of_own HU1.out rfl
        exact ⟨A, c, by rw [HA.out, hvv]; rfl, by rw [HA.out]; exact hst, HB1.out⟩
      | ok t =>
        obtain ⟨hk1, hk2, -⟩ := restR_ok hr
        have hup2 := hup.more hlt hr
        have hle : a + t.length + 6 ≤ s.size := by rw [List.length_drop, list_size] at hk2; omega
        rw [hr] at hv
        have hv2 : nextV s (a : Int) = .tuple #[.string ⟨t.toArray⟩, .int .i64 ((a + t.length + 6 : Nat) : Int), .int .i64 0] := hv
        rw [hv2] at HN
        have HP := Lib.hid hup2
        have HU := Lib.hid hown
        have HBl := Lib.hid hbel
        have hsn := strV_snoc O ⟨t.toArray⟩
        generalize hT : (⟨t.toArray⟩ : ByteArray) = T at HN HP hsn
        have HSn := Lib.hid hsn
        generalize hnx : a + t.length + 6 = nx at HN HP hle
        have hnx2 : a + 6 ≤ nx := by omega
        have hOl : (strV O).length = O.length := strV_len O
        clear hr hup hv hv2 hup2 hown hbel hk1 hk2 hT hnx hsn
        go_wp2_with fail
        refine HN.out.mono ?_
        rintro e w1 ⟨rfl, hb⟩
        have HU1 := Lib.hid (st_keep HU.out hb)
        have HB1 := Lib.hid (HBl.out.trans (hb.mono HBl.out.size))
        clear hb HU HBl HN
        go_wp2_with (at_builtin; refine wpList_append_own _ rfl _ _ 34 rfl w.heap.size 9 i0 (.string ⟨#[]⟩) 1 16 Try.underlying34 hi hz0 hz1 hz2 rfl (by decide) _ _ _ rfl (HU1.out.alloc _) ⟨w1.heap.size, 0, none⟩ 1 1 [.string T] rfl rfl ?c1 ?c2 ?c3 ?c4 ?c5 ?_)
        case c1 => exact cell_one_new _ _ _
        case c2 => intro q hq; simp at hq; subst hq; rfl
        case c3 => unfold maxLen; omega
        case c4 => omega
        case c5 => have := HB1.out.size; simp; omega
        intro v' w5 hown' hgrow _
        have HB5 := Lib.hid (below_append HU1.out HB1.out (Nat.le_refl _) hgrow)
        rw [← HSn.out] at hown'
        have HO5 := Lib.hid hown'
        clear hown' hgrow HU1 HB1
        go_wp2_with fail
        go_roundw
        case rel => exact ⟨nx, O ++ [T], hle, by rw [List.length_append, List.length_singleton]; omega, rfl, by rw [List.length_append, List.length_singleton]; exact HO5.out, HP.out, HB5.out⟩
        case measure => simp [intOf]; omega
    · obtain rfl : a = s.size := by omega
      have HA := Lib.hid (hup.done (Nat.le_refl _))
      have HU := Lib.hid hown
      have HBl := Lib.hid hbel
      clear hup hown hbel
      go_wp2_with fail
      go_ret3
      obtain ⟨A, c, hvv, hst⟩ := strs_of_own HU.out rfl
      exact ⟨A, c, by rw [HA.out, hvv]; rfl, by rw [HA.out]; exact hst, HBl.out⟩

theorem ofAll : OfAll := fun A c l w h _ hn hs => (of_any A c l w h hn hs).mono fun _ _ ⟨he, hw⟩ => ⟨he, by rw [hw]; exact Below.refl _ _⟩

theorem frameAll : FrameAll := fun s w hs => frame_any s w hs

theorem nextAll : NextAll := fun s i w hs hi => next_any s i w hs hi

theorem allAll : AllAll := fun s w hs => all_any s w hs

end Su
end Go.Proofs.Ytjehjbkcdpidbaa

/- A device in plain lists: what is on it, what waits in its cache, its fuse; what each call does; no condition. -/
namespace Go.Proofs.Ytjehjbkcdpidbaa
namespace Sc

/-- a device: of each sector what is on it, and what is in the cache (nothing: empty); its fuse (0: none); is it down? -/
structure Dev where
  on : List ByteArray
  new : List ByteArray
  left : Nat
  down : Bool

def nil0 : ByteArray := ⟨#[]⟩
def zero64 : ByteArray := ⟨(List.replicate 64 (0 : UInt8)).toArray⟩

theorem zero64_size : zero64.size = 64 := by decide
theorem nil0_size : nil0.size = 0 := rfl

/-- a device that may be -/
structure DevOk (D : Dev) : Prop where
  len : D.new.length = D.on.length
  pos : 1 ≤ D.on.length
  max : D.on.length ≤ 2048
  on64 : ∀ s ∈ D.on, s.size = 64
  new64 : ∀ s ∈ D.new, s = nil0 ∨ s.size = 64
  lft : D.left ≤ 1048576

def new0 (n : Nat) : Dev := ⟨List.replicate n zero64, List.replicate n nil0, 0, false⟩

theorem new0_ok {n : Nat} (h1 : 1 ≤ n) (h2 : n ≤ 2048) : DevOk (new0 n) :=
  ⟨by simp [new0], by simpa [new0] using h1, by simpa [new0] using h2, fun s hs => by rw [List.eq_of_mem_replicate hs]; exact zero64_size, fun s hs => .inl (List.eq_of_mem_replicate hs), by simp [new0]⟩

/-- what is read at a place, and the error -/
def rdV (D : Dev) (i : Int) : ByteArray × Int :=
  if D.down = true then (nil0, 90) else if i < 0 ∨ (D.on.length : Int) ≤ i then (nil0, 1) else
  (if D.new.getD i.toNat nil0 = nil0 then D.on.getD i.toNat nil0 else D.new.getD i.toNat nil0, 0)

/-- a write or a flush: is the fuse through? -/
def burn (D : Dev) : Dev × Bool := if D.left = 0 then (D, false) else (⟨D.on, D.new, D.left - 1, D.left == 1⟩, D.left == 1)

/-- a write -/
def wrD (D : Dev) (i : Int) (t : ByteArray) : Dev × Int :=
  if (rdV D i).2 ≠ 0 then (D, (rdV D i).2) else if t.size ≠ 64 then (D, 3) else
  if (burn D).2 = true then ((burn D).1, 90) else (⟨D.on, D.new.set i.toNat t, (burn D).1.left, (burn D).1.down⟩, 0)

/-- a list whose first j places are made anew by f -/
def upd (l : List ByteArray) (j : Nat) (f : Nat → ByteArray) : List ByteArray := (List.range l.length).map fun i => if i < j then f i else l.getD i nil0

theorem upd_len (l : List ByteArray) (j : Nat) (f : Nat → ByteArray) : (upd l j f).length = l.length := by simp [upd]

theorem upd_at {l : List ByteArray} {j : Nat} {f : Nat → ByteArray} {i : Nat} (h : i < (upd l j f).length) (h' : i < l.length) : (upd l j f)[i] = if i < j then f i else l[i] := by
  have e : (upd l j f)[i]? = some (if i < j then f i else l[i]) := by
    unfold upd
    rw [List.getElem?_map, List.getElem?_range h', Option.map_some, List.getD_eq_getElem?_getD, List.getElem?_eq_getElem h']; rfl
  rw [List.getElem?_eq_getElem h] at e
  exact Option.some.inj e

theorem upd_zero (l : List ByteArray) (f : Nat → ByteArray) : upd l 0 f = l := by
  apply List.ext_getElem (upd_len _ _ _)
  intro i h1 h2
  rw [upd_at h1 h2, if_neg (by omega)]

theorem upd_set {l : List ByteArray} {j : Nat} {f : Nat → ByteArray} {t : ByteArray} (_h : j < l.length) (ht : t = f j) : (upd l j f).set j t = upd l (j + 1) f := by
  subst ht
  apply List.ext_getElem (by rw [List.length_set, upd_len, upd_len])
  intro i h1 h2
  rw [List.length_set] at h1
  have h3 : i < l.length := by rw [upd_len] at h1; exact h1
  rw [List.getElem_set, upd_at h1 h3, upd_at h2 h3]
  by_cases e : j = i
  · subst e; rw [if_pos rfl, if_pos (by omega)]
  · rw [if_neg e]
    by_cases e2 : i < j
    · rw [if_pos e2, if_pos (by omega)]
    · rw [if_neg e2, if_neg (by omega)]

/-- the place is as it is to be -/
theorem upd_same {l : List ByteArray} {j : Nat} {f : Nat → ByteArray} (h : j < l.length) (hf : f j = l[j]) : upd l (j + 1) f = upd l j f := by
  rw [← upd_set h rfl, hf]
  apply List.ext_getElem (by rw [List.length_set])
  intro i h1 h2
  have h3 : i < l.length := by rw [upd_len] at h2; exact h2
  rw [List.getElem_set, upd_at h2 h3]
  by_cases e : j = i
  · subst e; rw [if_pos rfl, if_neg (by omega)]
  · rw [if_neg e]

theorem upd_mem {l : List ByteArray} {j : Nat} {f : Nat → ByteArray} {s : ByteArray} (h : s ∈ upd l j f) : (∃ i, i < l.length ∧ i < j ∧ s = f i) ∨ s ∈ l := by
  obtain ⟨i, hi, rfl⟩ := List.mem_iff_getElem.1 h
  have h3 : i < l.length := by rw [upd_len] at hi; exact hi
  rw [upd_at hi h3]
  by_cases e : i < j
  · rw [if_pos e]; exact .inl ⟨i, h3, e, rfl⟩
  · rw [if_neg e]; exact .inr (List.getElem_mem h3)

theorem upd_all (l : List ByteArray) (x : ByteArray) : upd l l.length (fun _ => x) = List.replicate l.length x := by
  apply List.ext_getElem (by rw [upd_len, List.length_replicate])
  intro i h1 h2
  have h3 : i < l.length := by rw [upd_len] at h1; exact h1
  rw [upd_at h1 h3, if_pos h3, List.getElem_replicate]

/-- what lies on the device behind a flush -/
def flushF (D : Dev) (i : Nat) : ByteArray := if D.new.getD i nil0 = nil0 then D.on.getD i nil0 else D.new.getD i nil0

def flD (D : Dev) : Dev × Int :=
  if D.down = true then (D, 90) else if (burn D).2 = true then ((burn D).1, 90) else
  (⟨upd D.on D.on.length (flushF D), upd D.new D.on.length (fun _ => nil0), (burn D).1.left, (burn D).1.down⟩, 0)

def fuD (D : Dev) (n : Int) : Dev × Int :=
  if D.down = true then (D, 90) else if n < 0 ∨ 1048576 < n then (D, 1) else (⟨D.on, D.new, n.toNat, D.down⟩, 0)

/-- how many sectors ahead of a place are in the cache -/
def cnt (new : List ByteArray) (i : Nat) : Nat := ((new.take i).filter fun s => decide (s ≠ nil0)).length

/-- how many bytes of a sector get through -/
def cutN (p : Int) : Nat := if p = 0 then 0 else if p = 1 then 64 else (p % 64).toNat

def torn (o n : ByteArray) (p : Int) : ByteArray := ⟨(n.data.toList.take (cutN p) ++ o.data.toList.drop (cutN p)).toArray⟩

/-- what lies on the device behind a crash -/
def tearF (D : Dev) (ps : List Int) (i : Nat) : ByteArray :=
  if D.new.getD i nil0 = nil0 then D.on.getD i nil0 else torn (D.on.getD i nil0) (D.new.getD i nil0) (ps.getD (cnt D.new i) 0)

def crD (D : Dev) (ps : List Int) : Dev := ⟨upd D.on D.on.length (tearF D ps), upd D.new D.on.length (fun _ => nil0), 0, false⟩

def dirtyN (D : Dev) : Nat := cnt D.new D.new.length

def wiD (D : Dev) : Dev := ⟨upd D.on D.on.length (fun _ => zero64), upd D.new D.on.length (fun _ => nil0), 0, false⟩

theorem cnt_succ {l : List ByteArray} {i : Nat} (h : i < l.length) : cnt l (i + 1) = cnt l i + if l[i] = nil0 then 0 else 1 := by
  unfold cnt
  rw [List.take_add_one, List.getElem?_eq_getElem h, List.filter_append, List.length_append]
  congr 1
  by_cases e : l[i] = nil0
  · simp [e]
  · simp [e]

theorem cnt_le (l : List ByteArray) (i : Nat) : cnt l i ≤ i := by
  unfold cnt
  refine Nat.le_trans (List.length_filter_le _ _) ?_
  rw [List.length_take]; omega

theorem cut_le (p : Int) : cutN p ≤ 64 := by
  unfold cutN
  split
  · omega
  split
  · omega
  omega

theorem torn_size {o n : ByteArray} (ho : o.size = 64) (hn : n.size = 64) (p : Int) : (torn o n p).size = 64 := by
  have h := cut_le p
  show (n.data.toList.take (cutN p) ++ o.data.toList.drop (cutN p)).toArray.size = 64
  have h1 : n.data.toList.length = 64 := hn
  have h2 : o.data.toList.length = 64 := ho
  rw [List.size_toArray, List.length_append, List.length_take, List.length_drop]
  omega

theorem getD_mem {l : List ByteArray} {i : Nat} (h : i < l.length) : l.getD i nil0 ∈ l := by
  rw [List.getD_eq_getElem?_getD, List.getElem?_eq_getElem h]
  exact List.getElem_mem h

theorem getD_at {l : List ByteArray} {i : Nat} (h : i < l.length) : l.getD i nil0 = l[i] := by
  rw [List.getD_eq_getElem?_getD, List.getElem?_eq_getElem h]; rfl

theorem burn_parts (D : Dev) : (burn D).1.on = D.on ∧ (burn D).1.new = D.new ∧ (burn D).1.left ≤ D.left := by
  unfold burn
  split
  · exact ⟨rfl, rfl, Nat.le_refl _⟩
  · exact ⟨rfl, rfl, Nat.sub_le _ _⟩

theorem burn_ok {D : Dev} (h : DevOk D) : DevOk (burn D).1 := by
  obtain ⟨b1, b2, b3⟩ := burn_parts D
  exact ⟨by rw [b1, b2]; exact h.len, by rw [b1]; exact h.pos, by rw [b1]; exact h.max, by rw [b1]; exact h.on64, by rw [b2]; exact h.new64, Nat.le_trans b3 h.lft⟩

theorem wrD_ok {D : Dev} (h : DevOk D) (i : Int) (t : ByteArray) : DevOk (wrD D i t).1 := by
  unfold wrD
  split
  · exact h
  split
  · exact h
  next ht =>
  split
  · exact burn_ok h
  · refine ⟨by rw [List.length_set]; exact h.len, h.pos, h.max, h.on64, fun s hs => ?_, Nat.le_trans (burn_parts D).2.2 h.lft⟩
    rcases List.mem_or_eq_of_mem_set hs with hs | rfl
    · exact h.new64 s hs
    · exact .inr (by simpa using ht)

theorem flush64 {D : Dev} (h : DevOk D) {i : Nat} (hi : i < D.on.length) : (flushF D i).size = 64 := by
  unfold flushF
  have hi2 : i < D.new.length := by rw [h.len]; exact hi
  split
  · exact h.on64 _ (getD_mem hi)
  next hn => exact (h.new64 _ (getD_mem hi2)).resolve_left hn

theorem tear64 {D : Dev} (h : DevOk D) (ps : List Int) {i : Nat} (hi : i < D.on.length) : (tearF D ps i).size = 64 := by
  unfold tearF
  have hi2 : i < D.new.length := by rw [h.len]; exact hi
  split
  · exact h.on64 _ (getD_mem hi)
  next hn => exact torn_size (h.on64 _ (getD_mem hi)) ((h.new64 _ (getD_mem hi2)).resolve_left hn) _

theorem cleared {D : Dev} (h : DevOk D) : ∀ s ∈ upd D.new D.on.length (fun _ => nil0), s = nil0 ∨ s.size = 64 := fun s hs => by
  rcases upd_mem hs with ⟨_, _, _, rfl⟩ | hs
  · exact .inl rfl
  · exact h.new64 s hs

theorem made {D : Dev} (h : DevOk D) {f : Nat → ByteArray} (hf : ∀ i, i < D.on.length → (f i).size = 64) : ∀ s ∈ upd D.on D.on.length f, s.size = 64 := fun s hs => by
  rcases upd_mem hs with ⟨i, hi, _, rfl⟩ | hs
  · exact hf i hi
  · exact h.on64 s hs

theorem flD_ok {D : Dev} (h : DevOk D) : DevOk (flD D).1 := by
  unfold flD
  split
  · exact h
  split
  · exact burn_ok h
  · exact ⟨by rw [upd_len, upd_len]; exact h.len, by rw [upd_len]; exact h.pos, by rw [upd_len]; exact h.max, made h (fun i hi => flush64 h hi), cleared h, Nat.le_trans (burn_parts D).2.2 h.lft⟩

theorem fuD_ok {D : Dev} (h : DevOk D) (n : Int) : DevOk (fuD D n).1 := by
  unfold fuD
  split
  · exact h
  split
  · exact h
  next hn => exact ⟨h.len, h.pos, h.max, h.on64, h.new64, by show n.toNat ≤ 1048576; omega⟩

theorem crD_ok {D : Dev} (h : DevOk D) (ps : List Int) : DevOk (crD D ps) :=
  ⟨by show (upd _ _ _).length = (upd _ _ _).length; rw [upd_len, upd_len]; exact h.len, by show _ ≤ (upd _ _ _).length; rw [upd_len]; exact h.pos, by show (upd _ _ _).length ≤ _; rw [upd_len]; exact h.max, made h (fun i hi => tear64 h ps hi), cleared h, Nat.zero_le _⟩

theorem wiD_ok {D : Dev} (h : DevOk D) : DevOk (wiD D) :=
  ⟨by show (upd _ _ _).length = (upd _ _ _).length; rw [upd_len, upd_len]; exact h.len, by show _ ≤ (upd _ _ _).length; rw [upd_len]; exact h.pos, by show (upd _ _ _).length ≤ _; rw [upd_len]; exact h.max, made h (fun _ _ => zero64_size), cleared h, Nat.zero_le _⟩

end Sc
end Go.Proofs.Ytjehjbkcdpidbaa

/- Heads of a log in plain numbers: eight bytes, the highest first; a head's text; which sector is one; no condition. -/
namespace Go.Proofs.Ytjehjbkcdpidbaa
namespace Rd
open Sc Bk

/-- the first k of a number's eight bytes, the highest first -/
def be (n k : Nat) : List UInt8 := (List.range k).map fun i => UInt8.ofNat (n / 256 ^ (7 - i) % 256)
def be8 (n : Nat) : List UInt8 := be n 8

theorem be_succ (n k : Nat) : be n (k + 1) = be n k ++ [UInt8.ofNat (n / 256 ^ (7 - k) % 256)] := by
  unfold be; rw [List.range_succ, List.map_append]; rfl
theorem be_len (n k : Nat) : (be n k).length = k := by simp [be]
theorem be8_len (n : Nat) : (be8 n).length = 8 := be_len n 8

/-- the number of bytes, the highest first -/
def numB (L : List UInt8) : Nat := L.foldl (fun x b => x * 256 + b.toNat) 0

theorem numB_snoc (L : List UInt8) (b : UInt8) : numB (L ++ [b]) = numB L * 256 + b.toNat := by simp [numB]

theorem numB_lt : ∀ (k : Nat) (L : List UInt8), L.length = k → numB L < 256 ^ k
  | 0, L, h => by rw [List.length_eq_zero_iff.1 h]; decide
  | k + 1, L, h => by
    obtain ⟨M, b, rfl⟩ : ∃ M b, L = M ++ [b] := ⟨L.dropLast, L.getLast (by intro e; rw [e] at h; cases h), (List.dropLast_concat_getLast _).symm⟩
    rw [List.length_append, List.length_singleton] at h
    have := numB_lt k M (by omega)
    have hb := b.toNat_lt
    rw [numB_snoc, Nat.pow_succ]
    omega

theorem num_be (n : Nat) (h : n < 256 ^ 8) : ∀ k, k ≤ 8 → numB (be n k) = n / 256 ^ (8 - k)
  | 0, _ => by rw [Nat.div_eq_of_lt h]; rfl
  | k + 1, hk => by
    rw [be_succ, numB_snoc, num_be n h k (by omega), show 8 - k = (7 - k) + 1 by omega, show 8 - (k + 1) = 7 - k by omega, Nat.pow_succ, ← Nat.div_div_eq_div_mul, UInt8.toNat_ofNat_of_lt' (by show _ < 256; omega)]
    omega

theorem num_be8 {n : Nat} (h : n < 256 ^ 8) : numB (be8 n) = n := by
  have := num_be n h 8 (Nat.le_refl _)
  show numB (be n 8) = n
  simpa using this

/-- a head's text, and its sector -/
def headP (c a l : Nat) : List UInt8 := (([82, 69, 68, 79] ++ be8 c) ++ [UInt8.ofNat (a % 256)]) ++ be8 l
def headL (c a l : Nat) : List UInt8 := ((headP c a l ++ headP c a l) ++ headP c a l) ++ [0]
def headB (c a l : Nat) : ByteArray := ⟨(headL c a l).toArray⟩

theorem headP_len (c a l : Nat) : (headP c a l).length = 21 := by
  unfold headP
  rw [List.length_append, List.length_append, List.length_append, be8_len, be8_len]; rfl
theorem headL_len (c a l : Nat) : (headL c a l).length = 64 := by
  unfold headL
  rw [List.length_append, List.length_append, List.length_append, headP_len]; rfl
theorem headB_size (c a l : Nat) : (headB c a l).size = 64 := by
  show (headL c a l).toArray.size = 64
  rw [List.size_toArray, headL_len]

/-- what a sector's bytes tell -/
def cOf (s : List UInt8) : Nat := numB ((s.drop 4).take 8)
def aOf (s : List UInt8) : Nat := (s.getD 12 0).toNat
def lOf (s : List UInt8) : Nat := numB ((s.drop 13).take 8)

/-- is it a head, of an area of so many bytes? -/
def okH (ab : Nat) (s : List UInt8) : Prop := 1 ≤ cOf s ∧ cOf s ≤ 4611686018427387904 ∧ aOf s ≤ 1 ∧ lOf s ≤ ab ∧ s = headL (cOf s) (aOf s) (lOf s)

instance (ab : Nat) (s : List UInt8) : Decidable (okH ab s) := by unfold okH; exact inferInstance

theorem c_head {c : Nat} (a l : Nat) (h : c < 256 ^ 8) : cOf (headL c a l) = c := by
  have e : ((headL c a l).drop 4).take 8 = be8 c := by
    have h8 := be8_len c
    unfold headL headP
    simp only [List.cons_append, List.nil_append, List.append_assoc, List.drop_succ_cons, List.drop_zero]
    rw [List.take_append_of_le_length (by omega), List.take_of_length_le (by omega)]
  unfold cOf
  rw [e, num_be8 h]

theorem a_head {c a l : Nat} (h : a < 256) : aOf (headL c a l) = a := by
  have e : (headL c a l).getD 12 0 = UInt8.ofNat (a % 256) := by
    have h8 := be8_len c
    unfold headL headP
    simp only [List.cons_append, List.nil_append, List.append_assoc]
    rw [List.getD_eq_getElem?_getD]
    simp only [List.getElem?_cons_succ]
    rw [List.getElem?_append_right (by omega), h8]
    simp
  unfold aOf
  rw [e, UInt8.toNat_ofNat_of_lt' (by show _ < 256; omega)]
  omega

theorem l_head {l : Nat} (c a : Nat) (h : l < 256 ^ 8) : lOf (headL c a l) = l := by
  have e : ((headL c a l).drop 13).take 8 = be8 l := by
    have h8 := be8_len c
    have h9 := be8_len l
    unfold headL headP
    simp only [List.append_assoc]
    rw [← List.append_assoc ([82, 69, 68, 79] : List UInt8), ← List.append_assoc ([82, 69, 68, 79] ++ be8 c : List UInt8)]
    rw [List.drop_append_of_le_length (by simp [h8]), List.drop_of_length_le (by simp [h8]), List.nil_append, List.take_append_of_le_length (by omega), List.take_of_length_le (by omega)]
  unfold lOf
  rw [e, num_be8 h]

theorem ok_head {ab c a l : Nat} (h1 : 1 ≤ c) (h2 : c ≤ 4611686018427387904) (h3 : a ≤ 1) (h4 : l ≤ ab) (h5 : ab < 256 ^ 8) : okH ab (headL c a l) := by
  have e1 := c_head (c := c) a l (by omega)
  have e2 := a_head (c := c) (a := a) (l := l) (by omega)
  have e3 := l_head (l := l) c a (by omega)
  unfold okH
  rw [e1, e2, e3]
  exact ⟨h1, h2, h3, h4, rfl⟩

end Rd
end Go.Proofs.Ytjehjbkcdpidbaa

/- Pieces of a text as steps of a walk; one new cell; no condition but the range. -/
namespace Go.Proofs.Ytjehjbkcdpidbaa
namespace Bk
open Go.RowKit

theorem text_size (L : List UInt8) : (⟨L.toArray⟩ : ByteArray).size = L.length := by
  show L.toArray.size = _
  simp

theorem textL_size (s : ByteArray) : s.data.toList.length = s.size := Array.length_toList

theorem extract_list (s : ByteArray) (a b : Nat) : s.extract a b = ⟨((s.data.toList.drop a).take (b - a)).toArray⟩ := by
  apply ByteArray.ext
  apply Array.toList_inj.1
  simp [ByteArray.data_extract, Array.toList_extract, List.extract_eq_take_drop]

theorem str_from (s : ByteArray) (a : Nat) (h : a ≤ s.size) (i : Int) (hi : i = (a : Int)) (W : World) :
    (Instr.slice 9 (.string s) (some (.int .i64 i)) none none).run Try.prog W = .ok (.string ⟨(s.data.toList.drop a).toArray⟩) W := by
  subst hi
  rw [run_slice_string_l W 9 s Try.underlying9 .i64 _ (by omega) (by omega), extract_list, Int.toNat_natCast, List.take_of_length_le (by rw [List.length_drop, Array.length_toList]; exact Nat.le_refl _)]

theorem str_to (s : ByteArray) (b : Nat) (h : b ≤ s.size) (j : Int) (hj : j = (b : Int)) (W : World) :
    (Instr.slice 9 (.string s) none (some (.int .i64 j)) none).run Try.prog W = .ok (.string ⟨(s.data.toList.take b).toArray⟩) W := by
  subst hj
  rw [run_slice_string_h W 9 s Try.underlying9 .i64 _ (by omega) (by omega), extract_list, Int.toNat_natCast, List.drop_zero, Nat.sub_zero]

theorem str_mid (s : ByteArray) (a b : Nat) (h1 : a ≤ b) (h : b ≤ s.size) (i j : Int) (hi : i = (a : Int)) (hj : j = (b : Int)) (W : World) :
    (Instr.slice 9 (.string s) (some (.int .i64 i)) (some (.int .i64 j)) none).run Try.prog W = .ok (.string ⟨((s.data.toList.drop a).take (b - a)).toArray⟩) W := by
  subst hi hj
  rw [run_slice_string W 9 s .i64 .i64 _ _ Try.underlying9 (by omega) (by omega) (by omega), extract_list, Int.toNat_natCast, Int.toNat_natCast]

theorem str_at (s : ByteArray) (a : Nat) (b : UInt8) (h : s.data.toList[a]? = some b) (i : Int) (hi : i = (a : Int)) (W : World) :
    (Instr.index 9 (.string s) (.int .i64 i)).run Try.prog W = .ok (.int .u8 (b.toNat : Int)) W := by
  subst hi
  have hl : a < s.data.toList.length := (List.getElem?_eq_some_iff.1 h).1
  have hl2 : a < s.size := by rw [Array.length_toList] at hl; exact hl
  rw [run_index_string W 9 s .i64 _ Try.underlying9, dif_pos (by omega)]
  congr 3
  rw [List.getElem?_eq_getElem hl] at h
  rw [← Option.some.inj h]
  simp only [Int.toNat_natCast]
  rfl

theorem str_one {w : World} {g : Nat} {t : TypeId} {u : Value} (h : w.heap[g]? = some (.cells #[u] t (0, 0))) : ∀ j v, [u][j]? = some v → w.cell? ((⟨g, 0, none⟩ : Addr).add j) = some v := fun j v hv => by
  match j with
  | 0 => simp at hv; subst hv; rw [addr_head]; exact blk_cell h rfl
  | j + 1 => simp at hv

end Bk
end Go.Proofs.Ytjehjbkcdpidbaa

/- What the document's own numbers and heads are; contracts; no condition but the range. -/
namespace Go.Proofs.Ytjehjbkcdpidbaa
namespace Rd
open Go.RowKit Sc Bk

attribute [local go_sem ↓] Go.wp_at_zero Go.wp_at_succ
attribute [local go_sem] floatUpon pick

theorem wrap_dec {j : Nat} (h : j ≤ 7) : IntKind.i64.wrap ((j : Int) - 1) = (j : Int) - 1 := by
  simp only [IntKind.wrap, IntKind.bits, IntKind.signed]; simp; omega

theorem wrap_step (x : Nat) (b : UInt8) : IntKind.i64.wrap (IntKind.i64.wrap (IntKind.i64.wrap (x : Int) * 256) + (b.toNat : Int)) = IntKind.i64.wrap ((x * 256 + b.toNat : Nat) : Int) := by
  simp only [IntKind.wrap, IntKind.bits, IntKind.signed]; simp; omega

theorem back_one {w : World} {g : Nat} {b : UInt8} (h : w.heap[g]? = some (.cells #[.int .u8 (b.toNat : Int)] 5 (0, 0))) :
    (convert 52 9 (.slice (some ⟨g, 0, none⟩) 1 1)).run Try.prog w = .ok (.string ⟨[b].toArray⟩) w := by
  have := run_convert_bytes_back (P := Try.prog) w 52 9 5 ⟨g, 0, none⟩ 1 [b] Try.underlying52 Try.underlying5 Try.underlying9 (fun j hj => by
    rw [addr_head]
    refine blk_cell h ?_
    match j, hj with
    | 0, _ => rfl)
  exact this

theorem list_sum (X Y : List UInt8) (h : X.length + Y.length ≤ 1000) (W : World) : (Op.stringOp .add ⟨X.toArray⟩ ⟨Y.toArray⟩).run Try.prog W = .ok (.string ⟨(X ++ Y).toArray⟩) W := by
  have h1 : (⟨X.toArray⟩ : ByteArray).size = X.length := text_size X
  have h2 : (⟨Y.toArray⟩ : ByteArray).size = Y.length := text_size Y
  rw [run_string_add_sum W _ _ (by omega), ByteArray.mk_append_mk]

end Rd
end Go.Proofs.Ytjehjbkcdpidbaa
