/- Which numbers and texts say a letter; no condition. -/
import Derived.Test.YtmllaighjhpbmaaLtCand
namespace Go.Proofs.Ytmllaighjhpbmaa
namespace Lt
open Go.RowKit Bk

def Shape (ns : List Int) (ts : List ByteArray) : Prop := 7 ≤ ns.length ∧ 0 ≤ ns.getD 6 0 ∧ (ts.length : Int) = 1 + ns.getD 6 0 + 2 * ((ns.length - 7 : Nat) : Int) ∧ ∀ f ∈ ns.drop 7, f = 0 ∨ f = 1

theorem shape_of (l : Let) : Shape (numsOf l) (textsOf l) := by
  refine ⟨by rw [nums_len]; omega, by rw [six_of]; omega, by rw [six_of, nums_len, texts_len]; omega, fun f hf => ?_⟩
  have e3 : (numsOf l).drop 7 = l.ws.map fun x => if x.dead then 1 else 0 := rfl
  rw [e3] at hf
  obtain ⟨x, _, rfl⟩ := List.mem_map.1 hf
  split
  · exact .inr rfl
  · exact .inl rfl

theorem pair_flags : ∀ (fs : List Int) (us : List ByteArray), us.length = 2 * fs.length → (∀ f ∈ fs, f = 0 ∨ f = 1) → ((pairL fs us).map fun x => if x.dead then (1 : Int) else 0) = fs ∧ ((pairL fs us).flatMap fun x => [x.key, x.shard]) = us
  | [], [], _, _ => ⟨rfl, rfl⟩
  | [], _ :: _, h, _ => by simp at h
  | f :: fs, [], h, _ => by simp at h
  | f :: fs, [k], h, _ => by simp at h; omega
  | f :: fs, k :: s :: r, h, h1 => by
    obtain ⟨i1, i2⟩ := pair_flags fs r (by simp at h; omega) (fun g hg => h1 g (by simp [hg]))
    have hf : (if (f == 1) = true then (1 : Int) else 0) = f := by
      rcases h1 f (by simp) with rfl | rfl <;> rfl
    constructor
    · show (if (f == 1) = true then (1 : Int) else 0) :: ((pairL fs r).map _) = _
      rw [hf, i1]
    · show k :: s :: ((pairL fs r).flatMap _) = _
      rw [i2]

theorem seven {ns : List Int} (h : 7 ≤ ns.length) : ns = [ns.getD 0 0, ns.getD 1 0, ns.getD 2 0, ns.getD 3 0, ns.getD 4 0, ns.getD 5 0, ns.getD 6 0] ++ ns.drop 7 := by
  match ns, h with
  | a :: b :: c :: d :: e :: f :: g :: r, _ => rfl

theorem shape_cand {ns : List Int} {ts : List ByteArray} (h : Shape ns ts) : numsOf (cand ns ts) = ns ∧ textsOf (cand ns ts) = ts := by
  obtain ⟨h1, h2, h3, h4⟩ := h
  have hm : ((manyOf ns : Nat) : Int) = ns.getD 6 0 := by unfold manyOf; omega
  have hp := pair_flags (ns.drop 7) (ts.drop (1 + manyOf ns)) (by rw [List.length_drop, List.length_drop]; omega) h4
  have hkl : ((ts.drop 1).take (manyOf ns)).length = manyOf ns := by rw [List.length_take, List.length_drop]; omega
  constructor
  · show [ns.getD 0 0, ns.getD 1 0, ns.getD 2 0, ns.getD 3 0, ns.getD 4 0, ns.getD 5 0, (((ts.drop 1).take (manyOf ns)).length : Int)] ++ (pairL (ns.drop 7) (ts.drop (1 + manyOf ns))).map _ = ns
    rw [hp.1, hkl, hm]
    exact (seven h1).symm
  · show ts.getD 0 ⟨#[]⟩ :: ((ts.drop 1).take (manyOf ns) ++ (pairL (ns.drop 7) (ts.drop (1 + manyOf ns))).flatMap _) = ts
    rw [hp.2, show ts.drop (1 + manyOf ns) = (ts.drop 1).drop (manyOf ns) by rw [List.drop_drop], List.take_append_drop]
    match ts, h3 with
    | [], h3 => rw [List.length_nil] at h3; omega
    | t :: r, _ => rfl

theorem shape_keys {ns : List Int} {ts : List ByteArray} (h : Shape ns ts) : (cand ns ts).keys.length = manyOf ns ∧ (cand ns ts).ws.length = ns.length - 7 := by
  obtain ⟨h1, h2, h3, h4⟩ := h
  have hm : ((manyOf ns : Nat) : Int) = ns.getD 6 0 := by unfold manyOf; omega
  constructor
  · show ((ts.drop 1).take (manyOf ns)).length = _
    rw [List.length_take, List.length_drop]; omega
  · show (pairL _ _).length = _
    rw [pairL_len _ _ (by rw [List.length_drop, List.length_drop]; omega), List.length_drop]

/-- bytes whose numbers and texts have not that shape are no letter's -/
theorem NoLet.shape {s : ByteArray} {ns : List Int} {ts : List ByteArray} (h : Pk.decL s.data.toList = .ok (ns, ts)) (hn : ¬ Shape ns ts) : NoLet s := NoLet.of h fun l _ e1 e2 _ => hn (by rw [e1, e2]; exact shape_of l)

theorem NoLet.bad {s : ByteArray} {ns : List Int} {ts : List ByteArray} (h : Pk.decL s.data.toList = .ok (ns, ts)) (hn : ¬ LetOk (cand ns ts)) : NoLet s := NoLet.of h fun l hl e1 e2 _ => hn (by rw [e1, e2, cand_of]; exact hl)

theorem cand_bytes {s : ByteArray} {ns : List Int} {ts : List ByteArray} (h : Pk.decL s.data.toList = .ok (ns, ts)) (hs : Shape ns ts) : s.data.toList = letL (cand ns ts) := by
  obtain ⟨e1, e2⟩ := shape_cand hs
  unfold letL
  rw [e1, e2]
  exact (Pk.decL_ok h).2

end Lt
end Go.Proofs.Ytmllaighjhpbmaa
