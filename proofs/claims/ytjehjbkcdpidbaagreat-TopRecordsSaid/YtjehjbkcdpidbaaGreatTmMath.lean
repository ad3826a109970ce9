/- Frames of texts, and a turned one behind them; no condition. -/
import Derived.Test.YtjehjbkcdpidbaaGreatB15
namespace Go.Proofs.YtjehjbkcdpidbaaGreat
namespace Tm
open Bk Su

theorem walkR_stop {X : List UInt8} {e : Nat} (hX : X ≠ []) (hr : restR X = .error e) : ∀ (l : List (List UInt8)) (f a : Nat), (∀ t ∈ l, t.length ≤ 4096) → (framesL l).length + 1 ≤ f → walkR f (framesL l ++ X) a = (l.map (fun t => ⟨t.toArray⟩), a + (framesL l).length, e)
  | [], f, a, _, hf => by
    obtain ⟨f, rfl⟩ : ∃ k, f = k + 1 := ⟨f - 1, by omega⟩
    show walkR (f + 1) X a = _
    rw [walkR_err hX hr]; rfl
  | t :: l, f, a, hl, hf => by
    have ht := hl t (List.mem_cons_self ..)
    rw [framesL_cons, List.length_append, frameL_len] at hf
    obtain ⟨f, rfl⟩ : ∃ k, f = k + 1 := ⟨f - 1, by omega⟩
    have hrr := restR_frame t (framesL l ++ X) ht
    rw [framesL_cons, List.append_assoc, walkR_ok (by intro h; have := congrArg List.length h; rw [List.length_append, frameL_len] at this; simp at this) hrr]
    rw [List.drop_append_of_le_length (by rw [frameL_len]; omega), List.drop_eq_nil_of_le (by rw [frameL_len]; omega), List.nil_append, walkR_stop hX hr l f _ (fun x hx => hl x (List.mem_cons_of_mem _ hx)) (by omega), List.length_append, frameL_len]
    simp only [List.map_cons]
    congr 2
    omega

theorem all_frames {l : List (List UInt8)} (h : ∀ t ∈ l, t.length ≤ 4096) : allR ⟨(framesL l).toArray⟩ = (l.map (fun t => ⟨t.toArray⟩), (framesL l).length, 0) := by
  unfold allR
  rw [show (⟨(framesL l).toArray⟩ : ByteArray).data.toList = framesL l from rfl, walkR_frames _ _ _ h (by rw [cat_size]; exact Nat.le_refl _), Nat.zero_add]

theorem all_stop {l : List (List UInt8)} {X : List UInt8} {e : Nat} (h : ∀ t ∈ l, t.length ≤ 4096) (hX : X ≠ []) (hr : restR X = .error e) : allR ⟨(framesL l ++ X).toArray⟩ = (l.map (fun t => ⟨t.toArray⟩), (framesL l).length, e) := by
  have h1 : 0 < X.length := List.length_pos_iff.2 hX
  unfold allR
  rw [show (⟨(framesL l ++ X).toArray⟩ : ByteArray).data.toList = framesL l ++ X from rfl, walkR_stop hX hr _ _ _ h (by rw [cat_size, List.length_append]; omega), Nat.zero_add]

theorem framesL_snoc (l : List (List UInt8)) (t : List UInt8) : framesL (l ++ [t]) = framesL l ++ frameL t := by
  unfold framesL
  rw [List.flatMap_append]
  simp

/-- a frame with a byte of its text turned by 16 -/
theorem turn16 {t : List UInt8} (ht : t.length ≤ 4096) {k : Nat} (h : 2 + k < (frameL t).length) : restR ((frameL t).set (2 + k) ((frameL t)[2 + k] ^^^ 16)) = .error 51 := by
  have hl := frameL_len t
  refine restR_turned (t := t) (q := 16) (first := 8 * (2 + k)) ht (by rw [List.length_set, hl]) ?_ (by decide) ?_ ?_
  · rw [List.take_set_of_le (by omega)]
  · rw [num_set_xor _ _ _ h, ← Nat.xor_assoc, Nat.xor_self, Nat.zero_xor, pow256]
    rfl
  · intro e
    have h1 := congrArg (fun l : List UInt8 => l[2 + k]?) e
    simp only [List.getElem?_set_self h, List.getElem?_eq_getElem h, Option.some.injEq] at h1
    have h2 := congrArg (fun x : UInt8 => x ^^^ (frameL t)[2 + k]) h1
    simp only [UInt8.xor_self] at h2
    have h3 : (frameL t)[2 + k] ^^^ 16 ^^^ (frameL t)[2 + k] = 16 := by
      rw [UInt8.xor_comm ((frameL t)[2 + k]) 16, UInt8.xor_assoc, UInt8.xor_self, UInt8.xor_zero]
    rw [h3] at h2
    exact absurd h2 (by decide)

end Tm
end Go.Proofs.YtjehjbkcdpidbaaGreat
