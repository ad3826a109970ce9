/- A key and a time, as an argument; the law of what stays, as it is asked; no condition but the range. -/
import Derived.Test.YtiobhbagjokpcaaShStays
namespace Go.Proofs.Ytiobhbagjokpcaa
namespace Sh
open Go.ChangeShapes Go.WideShapes Go.ChangeAt Go.RowKit Go.Joins Go.Deep Bk Ch

section
variable {H : Type} {enc : TypeId × Value → H} {W : World}

set_option maxRecDepth 20000 in
theorem open_place {base j : Nat} {v : Value} {d : DataW H} {p : List MemPlace} {ts : List TypeId} {ds : List (DataW H)}
    (hsz : (DataW.weightsEach Try.prog ts ds).all (· ≤ reachBytes) = true) (hj : ts[j]? = some 44) (hd : ds[j]? = some d)
    (hv : Value.okWide Try.prog W .any base 44 v) (h : DataW.Trod enc Try.prog W 0 (fun _ => true) true 44 v d p) :
    ∃ (k : ByteArray) (t : Int), v = .agg #[.string k, .int .i64 t] ∧ k.size ≤ reachBytes ∧ (-9223372036854775808 ≤ t ∧ t ≤ 9223372036854775807) := by
  obtain ⟨cs, xs, n, rfl, hcl, rfl, rfl, hxl, hall⟩ := Ch.open_agg_any Try.underlying44 (by kernel_rfl) (by kernel_rfl) hv h
  have hw := arg_weights hsz hj hd
  match cs, hcl, xs, hxl with
  | [v0, v1], _, [y0, y1], _ =>
    obtain ⟨k, rfl, r0⟩ := field_text Try.underlying9 (hall 0 _ _ _ rfl rfl rfl) (agg_weights (i := 0) Try.underlying44 rfl rfl hw)
    obtain ⟨t, rfl, r1⟩ := field_int Try.underlying3 (hall 1 _ _ _ rfl rfl rfl)
    exact ⟨k, t, rfl, r0, r1⟩

end

end Sh
end Go.Proofs.Ytiobhbagjokpcaa
