/- Frames in plain lists: found again, cut short, turned; sums of texts unlike in one byte. -/
import Derived.Test.YtlamjkagjkmbeaaSuRef4
namespace Go.Proofs.Ytlamjkagjkmbeaa
namespace Su
open Go.RowKit Bk

/-! ### what stands at the head of a frame -/

theorem take2_frame (t : List UInt8) (n : Nat) (h : 2 ≤ n) (r : List UInt8) : ((frameL t ++ r).take n).take 2 = le 2 t.length := by
  rw [List.take_take, Nat.min_eq_left h]
  unfold frameL
  rw [List.append_assoc, List.append_assoc, List.take_append_of_le_length (by rw [le_length]; omega), List.take_of_length_le (by rw [le_length]; omega)]

theorem num_frame (t : List UInt8) (ht : t.length ≤ 4096) : num (le 2 t.length) = t.length := num_le 2 _ (by show _ < 65536; omega)

theorem restR_cut (t : List UInt8) (ht : t.length ≤ 4096) (n : Nat) (hn : n < t.length + 6) : restR ((frameL t).take n) = .error 50 := by
  have hl : ((frameL t).take n).length = n := by rw [List.length_take, frameL_len]; omega
  unfold restR
  by_cases h : n < 2
  · rw [if_pos (by rw [hl]; exact h)]
  · have h2 := take2_frame t n (by omega) []
    rw [List.append_nil] at h2
    rw [if_neg (by rw [hl]; exact h), h2, num_frame t ht, if_neg (by omega), if_pos (by rw [hl]; exact hn)]

theorem restR_frame (t r : List UInt8) (ht : t.length ≤ 4096) : restR (frameL t ++ r) = .ok t := by
  have hl : (frameL t ++ r).length = t.length + 6 + r.length := by rw [List.length_append, frameL_len]
  have h2 := take2_frame t (frameL t ++ r).length (by omega) r
  rw [List.take_of_length_le (Nat.le_refl _)] at h2
  have h3 : (frameL t ++ r).take (t.length + 6) = frameL t := by
    rw [List.take_append_of_le_length (by rw [frameL_len]; omega), List.take_of_length_le (by rw [frameL_len]; omega)]
  have h4 : ((frameL t ++ r).drop 2).take t.length = t := by
    unfold frameL
    rw [List.append_assoc, List.append_assoc, List.drop_append_of_le_length (by rw [le_length]; omega), List.drop_eq_nil_of_le (by rw [le_length]; omega), List.nil_append, List.take_append_of_le_length (Nat.le_refl _), List.take_of_length_le (Nat.le_refl _)]
  unfold restR
  rw [if_neg (by omega), h2, num_frame t ht, if_neg (by omega), if_neg (by omega), h4, if_pos h3]

/-! ### many frames -/

/-- frames one behind the other -/
def framesL (l : List (List UInt8)) : List UInt8 := l.flatMap frameL

theorem framesL_cons (t : List UInt8) (l : List (List UInt8)) : framesL (t :: l) = frameL t ++ framesL l := rfl

theorem walkR_frames : ∀ (l : List (List UInt8)) (f a : Nat), (∀ t ∈ l, t.length ≤ 4096) → (framesL l).length ≤ f → walkR f (framesL l) a = (l.map (fun t => ⟨t.toArray⟩), a + (framesL l).length, 0)
  | [], f, a, _, _ => by
    show walkR f [] a = _
    rw [walkR_nil]; rfl
  | t :: l, f, a, hl, hf => by
    have ht := hl t (List.mem_cons_self ..)
    rw [framesL_cons, List.length_append, frameL_len] at hf
    obtain ⟨f, rfl⟩ : ∃ k, f = k + 1 := ⟨f - 1, by omega⟩
    have hr := restR_frame t (framesL l) ht
    rw [framesL_cons, walkR_ok (by intro h; have := congrArg List.length h; rw [List.length_append, frameL_len] at this; simp at this) hr]
    rw [List.drop_append_of_le_length (by rw [frameL_len]; omega), List.drop_eq_nil_of_le (by rw [frameL_len]; omega), List.nil_append, walkR_frames l f _ (fun x hx => hl x (List.mem_cons_of_mem _ hx)) (by omega), List.length_append, frameL_len]
    simp only [List.map_cons]
    congr 2
    omega

/-! ### a bit turned -/

theorem toNat_xor8 (a b : UInt8) : (a ^^^ b).toNat = a.toNat ^^^ b.toNat := rfl

theorem mul256_xor (a b : Nat) : 256 * (a ^^^ b) = (256 * a) ^^^ (256 * b) := by
  have h := Nat.shiftLeft_xor_distrib (a := a) (b := b) (i := 8)
  simp only [Nat.shiftLeft_eq] at h
  rw [Nat.mul_comm 256, Nat.mul_comm 256, Nat.mul_comm 256]
  exact h

theorem num_set_xor : ∀ (L : List UInt8) (j : Nat) (v : UInt8) (h : j < L.length), num (L.set j (L[j] ^^^ v)) = num L ^^^ (v.toNat * 256 ^ j)
  | b :: L, 0, v, _ => by
    show (b ^^^ v).toNat + 256 * num L = (b.toNat + 256 * num L) ^^^ (v.toNat * 1)
    rw [byte_add, byte_add, toNat_xor8, Nat.mul_one, Nat.xor_assoc, Nat.xor_assoc, Nat.xor_comm v.toNat]
  | b :: L, j + 1, v, h => by
    have hj : j < L.length := by simpa using h
    have ih := num_set_xor L j v hj
    show b.toNat + 256 * num (L.set j (L[j]'hj ^^^ v)) = (b.toNat + 256 * num L) ^^^ (v.toNat * 256 ^ (j + 1))
    rw [ih, byte_add, byte_add, mul256_xor, Nat.xor_assoc, Nat.pow_succ, show v.toNat * (256 ^ j * 256) = 256 * (v.toNat * 256 ^ j) by rw [← Nat.mul_assoc, Nat.mul_comm]]

theorem num_frameL (t : List UInt8) : num (le 4 (crc (le 2 t.length ++ t))) = crc (le 2 t.length ++ t) := num_le 4 _ (crc_lt _)

/-- a frame with bits turned behind its length, all within 32: refused -/
theorem restR_turned {t F : List UInt8} {q first : Nat} (ht : t.length ≤ 4096) (hl : F.length = t.length + 6) (h2 : F.take 2 = (frameL t).take 2) (hq : q < 4294967296) (hx : num (frameL t) ^^^ num F = q * 2 ^ first) (hne : F ≠ frameL t) : restR F = .error 51 := by
  have e2 := take2_frame t (frameL t ++ []).length (by rw [List.append_nil, frameL_len]; omega) []
  rw [List.take_of_length_le (Nat.le_refl _), List.append_nil] at e2
  unfold restR
  rw [if_neg (by omega), h2, e2, num_frame t ht, if_neg (by omega), if_neg (by omega)]
  rw [List.take_of_length_le (by omega)]
  split
  · next h =>
    exfalso
    have hl2 : ((F.drop 2).take t.length).length = t.length := by rw [List.length_take, List.length_drop]; omega
    generalize (F.drop 2).take t.length = t' at h hl2
    subst h
    refine hne ?_
    have hq0 : q = 0 := by
      refine turned_seen (A := le 2 t.length ++ t) (B := le 4 (crc (le 2 t.length ++ t))) (A' := le 2 t'.length ++ t') (B' := le 4 (crc (le 2 t'.length ++ t'))) (first := first) ?_ (num_frameL t) (num_frameL t') hq hx
      rw [List.length_append, List.length_append, le_length, le_length, hl2]
    rw [hq0, Nat.zero_mul] at hx
    have hE : num (frameL t) = num (frameL t') := by
      have h3 := congrArg (num (frameL t) ^^^ ·) hx
      simp only [← Nat.xor_assoc, Nat.xor_self, Nat.zero_xor, Nat.xor_zero] at h3
      exact h3.symm
    exact (num_inj (by rw [frameL_len, frameL_len, hl2]) hE).symm
  · rfl

/-- texts of one length, unlike in one byte: unlike sums -/
theorem crc_set (A : List UInt8) (j : Nat) (v : UInt8) (h : j < A.length) (hv : v ≠ 0) : crc (A.set j (A[j] ^^^ v)) ≠ crc A := by
  intro he
  have hv0 : v.toNat ≠ 0 := fun h0 => hv (UInt8.toNat.inj h0)
  have hx : num (A ++ le 4 (crc A)) ^^^ num (A.set j (A[j] ^^^ v) ++ le 4 (crc A)) = v.toNat * 2 ^ (8 * j) := by
    rw [← List.set_append_left _ _ h, show A[j] = (A ++ le 4 (crc A))[j]'(by rw [List.length_append]; omega) from (List.getElem_append_left ..).symm, num_set_xor, ← Nat.xor_assoc, Nat.xor_self, Nat.zero_xor, pow256]
  have := v.toNat_lt
  exact hv0 (turned_seen (q := v.toNat) (first := 8 * j) (by rw [List.length_set]) (num_le 4 _ (crc_lt A)) (by rw [he]; exact num_le 4 _ (crc_lt A)) (by omega) hx)

end Su
end Go.Proofs.Ytlamjkagjkmbeaa
