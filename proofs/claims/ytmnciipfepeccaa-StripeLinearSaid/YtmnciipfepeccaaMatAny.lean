/- Any k unlike rows of a generator send nothing but 0 to 0, in plain functions; no condition but that rows and columns are below 256. -/
import Derived.Test.YtmnciipfepeccaaMatInv
namespace Go.Proofs.Ytmnciipfepeccaa.GfU

/-- a sum over a list -/
def sumL (L : List Nat) (f : Nat → UInt8) : UInt8 := match L with
  | [] => 0
  | a :: L => f a ^^^ sumL L f

theorem sumL_append (L K : List Nat) (f : Nat → UInt8) : sumL (L ++ K) f = sumL L f ^^^ sumL K f := by
  induction L with
  | nil => exact (UInt8.zero_xor).symm
  | cons a L ih => show f a ^^^ sumL (L ++ K) f = _; rw [ih, ← UInt8.xor_assoc]; rfl

theorem sum_range (n : Nat) (f : Nat → UInt8) : sum n f = sumL (List.range n) f := by
  induction n with
  | zero => rfl
  | succ n ih => rw [sum_succ, List.range_succ, sumL_append, ih]; show _ = _ ^^^ (f n ^^^ 0); rw [UInt8.xor_zero]

theorem sumL_filter (p : Nat → Bool) (L : List Nat) (f : Nat → UInt8) (h : ∀ a, a ∈ L → p a = false → f a = 0) : sumL L f = sumL (L.filter p) f := by
  induction L with
  | nil => rfl
  | cons a L ih =>
    have hL := ih fun b hb => h b (List.mem_cons_of_mem _ hb)
    by_cases e : p a = true
    · rw [List.filter_cons_of_pos e]; show f a ^^^ _ = f a ^^^ _; rw [hL]
    · rw [List.filter_cons_of_neg e]; show f a ^^^ _ = _
      rw [h a (List.mem_cons_self ..) (by simpa using e), UInt8.zero_xor, hL]

theorem sumL_get (L : List Nat) (f : Nat → UInt8) : sumL L f = sum L.length (fun t => f (L.getD t 0)) := by
  have key : ∀ (K L : List Nat), sumL L f = sum L.length (fun t => f ((K ++ L).getD (K.length + t) 0)) := by
    intro K L
    induction L generalizing K with
    | nil => rfl
    | cons a L ih =>
      have h1 : ∀ n (g : Nat → UInt8), sum (n + 1) g = g 0 ^^^ sum n (fun t => g (t + 1)) := by
        intro n g
        induction n with
        | zero => show 0 ^^^ g 0 = g 0 ^^^ 0; rw [UInt8.zero_xor, UInt8.xor_zero]
        | succ n ihn => rw [sum_succ, ihn, sum_succ, UInt8.xor_assoc]
      rw [List.length_cons, h1]
      show f a ^^^ sumL L f = _
      rw [ih (K ++ [a])]
      congr 1
      · congr 1; simp
      · refine sum_congr _ fun t _ => ?_
        congr 1
        rw [List.append_assoc, List.length_append, List.length_singleton, show K.length + 1 + t = K.length + (t + 1) from by omega]
        rfl
  have := key [] L
  simpa using this

/-- the generator of k: the identity, below it Cauchy's rows -/
def gen (k : Nat) (i j : Nat) : UInt8 := if i < k then one i j else iv (UInt8.ofNat (i ^^^ j))

theorem byte_inj {a b : Nat} (ha : a < 256) (hb : b < 256) (h : UInt8.ofNat a = UInt8.ofNat b) : a = b := by
  have := congrArg UInt8.toNat h
  rwa [toNat_ofNat (by omega), toNat_ofNat (by omega)] at this

theorem byte_xor (a b : Nat) (ha : a < 256) (hb : b < 256) : UInt8.ofNat (a ^^^ b) = UInt8.ofNat a ^^^ UInt8.ofNat b := by
  apply eq_of
  have := GfM.xor_le (b := a) (c := b) (by omega) (by omega)
  rw [UInt8.toNat_xor, toNat_ofNat this, toNat_ofNat (by omega), toNat_ofNat (by omega)]

theorem nodup_getD {L : List Nat} (h : L.Nodup) {i j : Nat} (hi : i < L.length) (hj : j < L.length) (e : L.getD i 0 = L.getD j 0) : i = j := by
  rw [List.getD_eq_getElem?_getD, List.getD_eq_getElem?_getD, List.getElem?_eq_getElem hi, List.getElem?_eq_getElem hj] at e
  have e' : L[i] = L[j] := by simpa using e
  have hp := List.pairwise_iff_getElem.1 h
  rcases Nat.lt_trichotomy i j with h1 | h1 | h1
  · exact absurd e' (hp i j hi hj h1)
  · exact h1
  · exact absurd e'.symm (hp j i hj hi h1)

theorem getD_mem {L : List Nat} {i : Nat} (hi : i < L.length) : L.getD i 0 ∈ L := by
  rw [List.getD_eq_getElem?_getD, List.getElem?_eq_getElem hi]
  exact List.getElem_mem hi

theorem filter_split (L : List Nat) (p : Nat → Bool) : L.length = (L.filter p).length + (L.filter fun a => !p a).length := by
  induction L with
  | nil => rfl
  | cons a L ih =>
    cases h : p a with
    | true => rw [List.filter_cons_of_pos h, List.filter_cons_of_neg (by simp [h]), List.length_cons, List.length_cons]; omega
    | false => rw [List.filter_cons_of_neg (by simp [h]), List.filter_cons_of_pos (by simp [h]), List.length_cons, List.length_cons]; omega

/-- rows of numbers that are unlike: as many columns are left as there are rows of Cauchy -/
theorem left_length (k : Nat) (L : List Nat) (hn : L.Nodup) (hl : L.length = k) : ((List.range k).filter fun j => !(L.contains j)).length = (L.filter fun i => !(decide (i < k))).length := by
  have e1 : ((List.range k).filter fun j => L.contains j).length = (L.filter fun i => decide (i < k)).length := by
    apply List.Perm.length_eq
    apply (List.perm_ext_iff_of_nodup (List.Pairwise.filter _ List.nodup_range) (List.Pairwise.filter _ hn)).2
    intro a
    simp only [List.mem_filter, List.mem_range, List.contains_iff_mem, decide_eq_true_eq]
    exact ⟨fun h => ⟨h.2, h.1⟩, fun h => ⟨h.2, h.1⟩⟩
  have a1 := filter_split (List.range k) (fun j => L.contains j)
  have a2 := filter_split L (fun i => decide (i < k))
  rw [List.length_range] at a1
  omega

theorem gen_any (k : Nat) (L : List Nat) (hn : L.Nodup) (hl : L.length = k) (hm : ∀ i, i ∈ L → i < 256) (hk : k < 256) (v : Nat → UInt8)
    (h0 : ∀ t, t < k → sum k (fun j => ml (gen k (L.getD t 0) j) (v j)) = 0) : ∀ j, j < k → v j = 0 := by
  -- what the rows of the identity say
  have hid : ∀ j, j < k → L.contains j = true → v j = 0 := by
    intro j hj hc
    have hmem : j ∈ L := by simpa using hc
    obtain ⟨t, ht, e⟩ := List.getElem_of_mem hmem
    have h := h0 t (by omega)
    have e2 : L.getD t 0 = j := by rw [List.getD_eq_getElem?_getD, List.getElem?_eq_getElem ht]; simpa using e
    rw [e2, sum_single k j hj] at h
    · unfold gen one at h; rw [if_pos hj, if_pos rfl, one_ml] at h; exact h
    · intro i _ hi
      unfold gen one; rw [if_pos hj, if_neg (fun x => hi x.symm), zero_ml]
  have hlen := left_length k L hn hl
  generalize hC : (L.filter fun i => !(decide (i < k))) = C at hlen
  generalize hJ : ((List.range k).filter fun j => !(L.contains j)) = J at hlen
  have hCn : C.Nodup := by rw [← hC]; exact List.Pairwise.filter _ hn
  have hJn : J.Nodup := by rw [← hJ]; exact List.Pairwise.filter _ List.nodup_range
  have hCm : ∀ i, i ∈ C → i ∈ L ∧ k ≤ i := by
    intro i hi; rw [← hC] at hi
    simp only [List.mem_filter, Bool.not_eq_true', decide_eq_false_iff_not] at hi
    exact ⟨hi.1, by omega⟩
  have hJm : ∀ j, j ∈ J → j < k ∧ L.contains j = false := by
    intro j hj; rw [← hJ] at hj
    simp only [List.mem_filter, List.mem_range, Bool.not_eq_true'] at hj
    exact hj
  have hrow : ∀ i, i ∈ C → sum J.length (fun t => ml (iv (UInt8.ofNat i ^^^ UInt8.ofNat (J.getD t 0))) (v (J.getD t 0))) = 0 := by
    intro i hi
    obtain ⟨hiL, hik⟩ := hCm i hi
    obtain ⟨t, ht, e⟩ := List.getElem_of_mem hiL
    have h := h0 t (by omega)
    have e2 : L.getD t 0 = i := by rw [List.getD_eq_getElem?_getD, List.getElem?_eq_getElem ht]; simpa using e
    rw [e2, sum_range, sumL_filter (fun j => !(L.contains j)), hJ, sumL_get] at h
    · rw [← h]
      refine sum_congr _ fun s hs => ?_
      have hj := (hJm _ (getD_mem hs)).1
      unfold gen; rw [if_neg (by omega), byte_xor _ _ (hm i hiL) (by omega)]
    · intro j hj hc
      rw [hid j (List.mem_range.1 hj) (by simpa using hc), ml_zero]
  have hz := cauchy J.length (fun t => UInt8.ofNat (C.getD t 0)) (fun t => UInt8.ofNat (J.getD t 0)) (fun t => v (J.getD t 0))
    (fun i j hi hj e => nodup_getD hCn (by omega) (by omega) (byte_inj (hm _ (hCm _ (getD_mem (by omega))).1) (hm _ (hCm _ (getD_mem (by omega))).1) e))
    (fun i j hi hj e => nodup_getD hJn hi hj (byte_inj (by have := (hJm _ (getD_mem hi)).1; omega) (by have := (hJm _ (getD_mem hj)).1; omega) e))
    (fun i j hi hj e => by
      have h1 := (hCm _ (getD_mem (L := C) (i := i) (by omega)))
      have h2 := (hJm _ (getD_mem hj)).1
      have := byte_inj (hm _ h1.1) (by omega) e
      omega)
    (fun i hi => hrow _ (getD_mem (by omega)))
  intro j hj
  by_cases hc : L.contains j = true
  · exact hid j hj hc
  · have hmem : j ∈ J := by rw [← hJ]; simp only [List.mem_filter, List.mem_range, Bool.not_eq_true']; exact ⟨hj, by simpa using hc⟩
    obtain ⟨t, ht, e⟩ := List.getElem_of_mem hmem
    have h := hz t ht
    have e2 : J.getD t 0 = j := by rw [List.getD_eq_getElem?_getD, List.getElem?_eq_getElem ht]; simpa using e
    simpa only [e2] using h

theorem gen_not_sing (k : Nat) (L : List Nat) (hn : L.Nodup) (hl : L.length = k) (hm : ∀ i, i ∈ L → i < 256) (hk : k < 256) : ¬ Sing k (fun i j => gen k (L.getD i 0) j) := by
  rintro ⟨v, c, hc, hv, h0⟩
  exact hv (gen_any k L hn hl hm hk v h0 c hc)
end Go.Proofs.Ytmnciipfepeccaa.GfU
