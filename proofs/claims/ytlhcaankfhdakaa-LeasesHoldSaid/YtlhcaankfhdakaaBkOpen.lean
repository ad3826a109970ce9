/- Fields of a struct that comes as an argument: a row of numbers, a row of texts: what its reading says. -/
import Derived.Test.YtlhcaankfhdakaaBkInts
import Derived.WalkKit
import Derived.ProofKit
import Derived.SizedLaws
import Derived.ChangeSlices
import Derived.SliceStrings
import Derived.Carry
import Derived.Lib.SmallJoins
namespace Go.Proofs.Ytlhcaankfhdakaa
namespace Bk
open Go.ChangeShapes Go.WideShapes Go.ChangeAt Go.RowKit Go.Joins

section
variable {H : Type} {enc : TypeId × Value → H} {W : World}

set_option maxRecDepth 20000 in
theorem field_ints {t e : TypeId} {v : Value} {fuel : Nat} {y : DataW H × List MemPlace} (ht : Try.prog.underlying t = some (.slice e)) (he : Try.prog.underlying e = some (.int .i64)) (hc : Try.prog.cellsOf e = 1) (hb8 : Try.prog.bytesOf e = 8)
    (hf : DataW.trod enc Try.prog W 0 (fun _ => true) true fuel t [v] = some y) (hwt : ∀ k ∈ y.1.weights Try.prog t, k ≤ reachBytes) (hl : ∀ x ∈ y.2, x.block < W.heap.size) :
    ∃ (A : Option Addr) (c : Nat) (L : List Int), v = .slice A L.length c ∧ IntsAt W A L ∧ L.length * 8 ≤ reachBytes ∧ L.length ≤ c ∧ c ≤ maxLen ∧ (∀ n ∈ L, -9223372036854775808 ≤ n ∧ n ≤ 9223372036854775807) ∧ (A = none → L = [] ∧ c = 0) := by
  rcases open_ints ht he hc hf with ⟨hcs, hx⟩ | ⟨a, len, cap, zs, hcs, _, hl', hm, hz, hx, hcell, hwz⟩
  · obtain rfl : v = .slice none 0 0 := by simpa using hcs
    exact ⟨none, 0, [], rfl, fun h => absurd h (by simp), by simp, by simp, Nat.zero_le _, by simp, fun _ => ⟨rfl, rfl⟩⟩
  · obtain rfl : v = .slice (some a) len cap := by simpa using hcs
    subst hx
    simp only [if_true] at hz
    have hlen : (zs.take len).length = len := by rw [List.length_take]; omega
    have hs := hwt (((lits (H := H) .i64 (zs.take len)).length + (lits (H := H) .i64 (zs.drop len)).length) * Try.prog.bytesOf e) (by simp [DataW.weights, ht])
    rw [hb8] at hs
    have hs2 : (zs.take len).length * 8 ≤ reachBytes := by
      refine Nat.le_trans (Nat.mul_le_mul_right 8 ?_) hs
      simp only [lits, List.length_map]
      omega
    refine ⟨some a, cap, zs.take len, by rw [hlen], fun hpos => ⟨a, rfl, ?_, fun i hi => ?_⟩, hs2, by rw [hlen]; exact hl', hm, fun n hn => ?_, fun h => by cases h⟩
    · obtain ⟨b, off, spot⟩ := a
      exact hl (.cell b off) (MemPlace.mem_row.2 ⟨0, by omega, by simp⟩)
    · have h1 := hcell i (by omega)
      rw [h1]
      congr 2
      rw [List.getElem_take, List.getD_eq_getElem?_getD, List.getElem?_eq_getElem (by omega), Option.getD_some]
    · have := hwz n (List.mem_of_mem_take hn)
      exact show IntKind.i64.min ≤ n ∧ n ≤ 9223372036854775807 by simpa [Lit.wf] using this

set_option maxRecDepth 20000 in
theorem field_texts {t e : TypeId} {v : Value} {fuel : Nat} {y : DataW H × List MemPlace} (ht : Try.prog.underlying t = some (.slice e)) (he : Try.prog.underlying e = some .string) (hc : Try.prog.cellsOf e = 1) (hb16 : Try.prog.bytesOf e = 16)
    (hf : DataW.trod enc Try.prog W 0 (fun _ => true) true fuel t [v] = some y) (hwt : ∀ k ∈ y.1.weights Try.prog t, k ≤ reachBytes) (hl : ∀ x ∈ y.2, x.block < W.heap.size) :
    ∃ (A : Option Addr) (c : Nat) (L : List ByteArray), v = .slice A L.length c ∧ StrsAt W A L ∧ L.length * 16 ≤ reachBytes ∧ L.length ≤ c ∧ c ≤ maxLen ∧ (∀ s ∈ L, s.size ≤ reachBytes) ∧ (A = none → L = [] ∧ c = 0) := by
  rcases open_strings ht he hc hf with ⟨hcs, hx⟩ | ⟨a, len, cap, zs, hcs, _, hl', hm, hz, hx, hcell, hwz⟩
  · obtain rfl : v = .slice none 0 0 := by simpa using hcs
    exact ⟨none, 0, [], rfl, fun h => absurd h (by simp), by simp, by simp, Nat.zero_le _, by simp, fun _ => ⟨rfl, rfl⟩⟩
  · obtain rfl : v = .slice (some a) len cap := by simpa using hcs
    subst hx
    simp only [if_true] at hz
    have hlen : (zs.take len).length = len := by rw [List.length_take]; omega
    have hs := hwt (((strs (H := H) (zs.take len)).length + (strs (H := H) (zs.drop len)).length) * Try.prog.bytesOf e) (by simp [DataW.weights, ht])
    rw [hb16] at hs
    have hs2 : (zs.take len).length * 16 ≤ reachBytes := by
      refine Nat.le_trans (Nat.mul_le_mul_right 16 ?_) hs
      simp only [strs, List.length_map]
      omega
    refine ⟨some a, cap, zs.take len, by rw [hlen], fun hpos => ⟨a, rfl, ?_, fun i hi => ?_⟩, hs2, by rw [hlen]; exact hl', hm, fun s hs' => ?_, fun h => by cases h⟩
    · obtain ⟨b, off, spot⟩ := a
      exact hl (.cell b off) (MemPlace.mem_row.2 ⟨0, by omega, by simp⟩)
    · have h1 := hcell i (by omega)
      rw [h1]
      congr 2
      rw [List.getElem_take, List.getD_eq_getElem?_getD, List.getElem?_eq_getElem (by omega), Option.getD_some]
    · exact hwt s.size (by
        simp only [DataW.weights, ht, List.mem_cons, List.mem_append]
        exact .inr (.inl (weights_strs _ _ _ _ hs')))

/-- what an argument's reading holds is within the reach -/
theorem arg_weights {ts : List TypeId} {ds : List (DataW H)} {j : Nat} {t : TypeId} {d : DataW H} (hsz : (DataW.weightsEach Try.prog ts ds).all (· ≤ reachBytes) = true) (hj : ts[j]? = some t) (hd : ds[j]? = some d) : ∀ k ∈ d.weights Try.prog t, k ≤ reachBytes := fun k hk => by
  have h1 := List.all_eq_true.1 hsz _ (DataW.weights_mem_each hj hd k hk)
  simpa using h1

theorem agg2_weights {t : TypeId} {f0 f1 : Field} (hs : Try.prog.underlying t = some (.struct #[f0, f1])) (d0 d1 : DataW H) : (DataW.agg [d0, d1]).weights Try.prog t = d0.weights Try.prog f0.type ++ (d1.weights Try.prog f1.type ++ []) := by
  simp only [DataW.weights, hs]
  rfl

end

end Bk
end Go.Proofs.Ytlhcaankfhdakaa
