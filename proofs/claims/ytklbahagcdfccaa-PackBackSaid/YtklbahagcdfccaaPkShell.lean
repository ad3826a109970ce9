/- A pack as a law's argument: what its reading says. -/
import Derived.Test.YtklbahagcdfccaaBkOpen
import Derived.Test.YtklbahagcdfccaaPkLaw
namespace Go.Proofs.Ytklbahagcdfccaa
namespace Pk
open Go.ChangeShapes Go.WideShapes Go.ChangeAt Go.RowKit Go.Joins Bk

/-- the value is a pack that holds these -/
def PackArg (w : World) (v : Value) (ns : List Int) (ts : List ByteArray) : Prop :=
  ∃ (A B : Option Addr) (c d : Nat), v = .agg #[.slice A ns.length c, .slice B ts.length d] ∧ IntsAt w A ns ∧ StrsAt w B ts ∧ ArgOk c d ns ts ∧ (B = none → ts = [] ∧ d = 0) ∧ (A = none → ns = [] ∧ c = 0)

set_option maxRecDepth 20000 in
theorem open_pack {H : Type} {enc : TypeId × Value → H} {W : World} {base : Nat} {v : Value} {d : DataW H} {p : List MemPlace} {ts : List TypeId} {ds : List (DataW H)} {j : Nat}
    (hsz : (DataW.weightsEach Try.prog ts ds).all (· ≤ reachBytes) = true) (hj : ts[j]? = some 25) (hd : ds[j]? = some d)
    (hv : Value.okWide Try.prog W .any base 25 v) (h : DataW.Trod enc Try.prog W 0 (fun _ => true) true 25 v d p) (hl : ∀ x ∈ p, x.block < W.heap.size) : ∃ ns ts, PackArg W v ns ts := by
  obtain ⟨v0, v1, y0, y1, n, rfl, rfl, rfl, h0, h1⟩ := open_agg2 Try.underlying25 (by kernel_rfl) (by kernel_rfl) hv h
  have hw := arg_weights hsz hj hd
  rw [agg2_weights Try.underlying25] at hw
  obtain ⟨A, c, L, rfl, a1, a2, a3, a4, a5, a6⟩ := field_ints Try.underlying22 Try.underlying3 (by kernel_rfl) (by kernel_rfl) h0 (fun k hk => hw k (List.mem_append_left _ hk)) (fun x hx => hl x (List.mem_append_left _ hx))
  obtain ⟨B, d, M, rfl, b1, b2, b3, b4, b5, b6⟩ := field_texts Try.underlying23 Try.underlying9 (by kernel_rfl) (by kernel_rfl) h1 (fun k hk => hw k (List.mem_append_right _ (List.mem_append_left _ hk))) (fun x hx => hl x (List.mem_append_right _ hx))
  exact ⟨L, M, A, B, c, d, rfl, a1, b1, ⟨a2, b2, a5, b5, a3, b3, a4, b4⟩, b6, a6⟩

end Pk
end Go.Proofs.Ytklbahagcdfccaa
