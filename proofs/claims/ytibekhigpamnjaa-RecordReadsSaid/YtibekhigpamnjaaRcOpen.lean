/- A record as an argument: what its reading says. -/
import Derived.Test.YtibekhigpamnjaaA2
import Derived.Test.YtibekhigpamnjaaRcMath
namespace Go.Proofs.Ytibekhigpamnjaa
namespace Rc
open Go.ChangeShapes Go.WideShapes Go.ChangeAt Go.RowKit Go.Joins Go.Deep Bk Lt

section
variable {H : Type} {enc : TypeId × Value → H} {W : World}

/-- the ranges of what a record holds -/
structure RecRng (r : Rec) : Prop where
  kind : -9223372036854775808 ≤ r.kind ∧ r.kind ≤ 9223372036854775807
  txn : -9223372036854775808 ≤ r.txn ∧ r.txn ≤ 9223372036854775807
  ts : -9223372036854775808 ≤ r.ts ∧ r.ts ≤ 9223372036854775807
  coord : -9223372036854775808 ≤ r.coord ∧ r.coord ≤ 9223372036854775807
  key : r.key.size ≤ reachBytes
  text : r.text.size ≤ reachBytes
  k16 : r.keys.length * 16 ≤ reachBytes
  w40 : r.ws.length * 40 ≤ reachBytes
  kr : ∀ s ∈ r.keys, s.size ≤ reachBytes
  wr : ∀ x ∈ r.ws, x.key.size ≤ reachBytes ∧ x.shard.size ≤ reachBytes

/-- .. and of its slices -/
structure RecRange (r : Rec) (c d : Nat) : Prop extends RecRng r where
  kc : r.keys.length ≤ c
  wd : r.ws.length ≤ d
  c63 : c ≤ maxLen
  d63 : d ≤ maxLen

/-- the value of a record -/
def recV (r : Rec) (A B : Option Addr) (c d : Nat) : Value := .agg #[.int .i64 r.kind, .int .i64 r.txn, .int .i64 r.ts, .int .i64 r.coord, .string r.key, .string r.text, .bool r.dead, .slice A r.keys.length c, .slice B r.ws.length d]

/-- the value is a record that holds these -/
def RecArg (w : World) (v : Value) (r : Rec) : Prop :=
  ∃ (A B : Option Addr) (c d : Nat), v = recV r A B c d ∧ StrsAt w A r.keys ∧ WrsAt w B r.ws ∧ RecRange r c d ∧ (A = none → r.keys = [] ∧ c = 0) ∧ (B = none → r.ws = [] ∧ d = 0)

set_option maxRecDepth 20000 in
theorem open_record {base : Nat} {v : Value} {d : DataW H} {p : List MemPlace} {ts : List TypeId} {ds : List (DataW H)} {j : Nat}
    (hsz : (DataW.weightsEach Try.prog ts ds).all (· ≤ reachBytes) = true) (hj : ts[j]? = some 25) (hd : ds[j]? = some d)
    (hv : Value.okWide Try.prog W .any base 25 v) (h : DataW.Trod enc Try.prog W 0 (fun _ => true) true 25 v d p) (hl : ∀ x ∈ p, x.block < W.heap.size) : ∃ r, RecArg W v r := by
  obtain ⟨cs, xs, n, rfl, hcl, rfl, rfl, hxl, hall⟩ := open_agg_any Try.underlying25 (by kernel_rfl) (by kernel_rfl) hv h
  have hw := arg_weights hsz hj hd
  match cs, hcl, xs, hxl with
  | [v0, v1, v2, v3, v4, v5, v6, v7, v8], _, [y0, y1, y2, y3, y4, y5, y6, y7, y8], _ =>
    obtain ⟨kind, rfl, r0⟩ := field_int Try.underlying3 (hall 0 _ _ _ rfl rfl rfl)
    obtain ⟨txn, rfl, r1⟩ := field_int Try.underlying3 (hall 1 _ _ _ rfl rfl rfl)
    obtain ⟨ts', rfl, r2⟩ := field_int Try.underlying3 (hall 2 _ _ _ rfl rfl rfl)
    obtain ⟨coord, rfl, r3⟩ := field_int Try.underlying3 (hall 3 _ _ _ rfl rfl rfl)
    obtain ⟨key, rfl, r4⟩ := field_text Try.underlying9 (hall 4 _ _ _ rfl rfl rfl) (agg_weights (i := 4) Try.underlying25 rfl rfl hw)
    obtain ⟨text, rfl, r5⟩ := field_text Try.underlying9 (hall 5 _ _ _ rfl rfl rfl) (agg_weights (i := 5) Try.underlying25 rfl rfl hw)
    obtain ⟨dead, rfl⟩ := field_bool Try.underlying4 (hall 6 _ _ _ rfl rfl rfl)
    obtain ⟨A, c, K, rfl, a1, a2, a3, a4, a5, a6⟩ := field_texts Try.underlying22 Try.underlying9 (by kernel_rfl) (by kernel_rfl) (hall 7 _ _ _ rfl rfl rfl) (agg_weights (i := 7) Try.underlying25 rfl rfl hw) (fun x hx => hl x (List.mem_flatMap.2 ⟨y7, by simp, hx⟩))
    obtain ⟨B, d, L, rfl, b1, b2, b3, b4, b5, b6⟩ := field_writes40 Try.underlying23 Try.underlying79 (by kernel_rfl) (by kernel_rfl) Try.underlying9 Try.underlying9 Try.underlying4 (of_decide_eq_true (by kernel_rfl)) (hall 8 _ _ _ rfl rfl rfl) (agg_weights (i := 8) Try.underlying25 rfl rfl hw) (fun x hx => hl x (List.mem_flatMap.2 ⟨y8, by simp, hx⟩))
    exact ⟨⟨kind, txn, ts', coord, key, text, dead, K, L⟩, A, B, c, d, rfl, a1, b1, ⟨⟨r0, r1, r2, r3, r4, r5, a2, b2, a5, b5⟩, a3, b3, a4, b4⟩, a6, b6⟩

end

end Rc
end Go.Proofs.Ytibekhigpamnjaa
