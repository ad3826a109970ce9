/- Parts of the proof, joined: ShOpenP; their conditions stand with each. -/
import Derived.Test.YtbkanoblcojdfaaGreatM32

namespace Go.Proofs.YtbkanoblcojdfaaGreat
namespace Sh
open Go.ChangeShapes Go.WideShapes Go.ChangeAt Go.RowKit Go.Joins Go.Deep Bk Ch
section
variable {H : Type} {enc : TypeId × Value → H} {W : World}
set_option maxRecDepth 20000 in
theorem open_ask2 {base j : Nat} {v : Value} {d : DataW H} {p : List MemPlace} {ts : List TypeId} {ds : List (DataW H)}
    (hsz : (DataW.weightsEach Tryz.prog ts ds).all (· ≤ reachBytes) = true) (hj : ts[j]? = some 26) (hd : ds[j]? = some d)
    (hv : Value.okWide Tryz.prog W .any base 26 v) (h : DataW.Trod enc Tryz.prog W 0 (fun _ => true) true 26 v d p) (hl : ∀ x ∈ p, x.block < W.heap.size) :
    ∃ ks tx ms, AskArg2 W v ks tx ms := by
  obtain ⟨cs, xs, n, rfl, hcl, rfl, rfl, hxl, hall⟩ := Ch.open_agg_any Tryz.underlying26 (by kernel_rfl) (by kernel_rfl) hv h
  have hw := arg_weights hsz hj hd
  match cs, hcl, xs, hxl with
  | [v0, v1, v2], _, [y0, y1, y2], _ =>
    obtain ⟨A, a, K, rfl, a1, a2, -, -, a5, -⟩ := field_texts Tryz.underlying23 Tryz.underlying9 (by kernel_rfl) (by kernel_rfl) (hall 0 _ _ _ rfl rfl rfl) (Ch.agg_weights (i := 0) Tryz.underlying26 rfl rfl hw) (fun x hx => hl x (by simp [hx]))
    obtain ⟨B, b, T, rfl, b1, b2, -, -, b5, -⟩ := field_ints Tryz.underlying24 Tryz.underlying3 (by kernel_rfl) (by kernel_rfl) (hall 1 _ _ _ rfl rfl rfl) (Ch.agg_weights (i := 1) Tryz.underlying26 rfl rfl hw) (fun x hx => hl x (by simp [hx]))
    obtain ⟨C, c, M, rfl, c1, c2, -, -, -, -⟩ := field_ints Tryz.underlying24 Tryz.underlying3 (by kernel_rfl) (by kernel_rfl) (hall 2 _ _ _ rfl rfl rfl) (Ch.agg_weights (i := 2) Tryz.underlying26 rfl rfl hw) (fun x hx => hl x (by simp [hx]))
    exact ⟨K, T, M, ⟨⟨A, B, C, a, b, c, rfl, a1, b1, c1⟩, a5, by omega, by omega, by omega⟩, b5⟩
end
end Sh
end Go.Proofs.YtbkanoblcojdfaaGreat
