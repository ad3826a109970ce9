/- Stamps go up to the greatest one, and no further, behind a crash, too; for any two numbers. -/
import Derived.Test.YtmidncclndongaaGreatRows
import Derived.Test.YtmidncclndongaaGreatC35
import Derived.WalkKit
import Derived.ProofKit
import Derived.OpenShut
import Derived.ShutString
import Derived.SizedLaws
import Derived.ChangeOld
import Derived.Below
import Derived.Carry
import Derived.Lib.SmallJoins
namespace Go.Proofs.YtmidncclndongaaGreat.clockEnds
open Go.ChangeShapes Go.WideShapes Go.ChangeAt Go.RowKit Go.Joins
open Go.ChangeMaps (open_string shut_string)
set_option linter.unusedVariables false

theorem own : ownKnob Tryz.prog.godebug = none := by kernel_rfl

theorem walk (w : World) (a0 : Int) (c0 : -9223372036854775808 ≤ a0 ∧ a0 ≤ 9223372036854775807) (a1 : Int) (c1 : -9223372036854775808 ≤ a1 ∧ a1 ≤ 9223372036854775807) :
    Calls Tryz.prog 6 #[.int .i64 a0, .int .i64 a1] w fun e w' => e = .returned (.bool true) ∧ Below w.heap.size w w' :=
  Ck.ends_any a0 a1 w

set_option maxRecDepth 100000 in
set_option maxHeartbeats 2000000 in
theorem lifted (os : Os) (started : os.Started) (H : Type) (enc : TypeId × Value → H) :
    ReturnsInHanded {} Tryz.checked os 6 .any (Rows.clockEndsSpec.pre6 enc Tryz.prog Tryz.f6 Rows.clockEndsRow.domain false) (Rows.clockEndsSpec.post enc Tryz.prog Tryz.f6 false true false false) := by
  refine returnsInHanded_of_change_sized (C := Tryz.checked) own started (by kernel_rfl) Tryz.func6
    (ChangeSpec.witness6 (enc := enc) (C := Tryz.checked) false ⟨#[], #[.int .i64 0, .int .i64 0], []⟩ 8 (by kernel_rfl) (by kernel_rfl) (by kernel_rfl) (by kernel_rfl)) ?_
  intro W base args ds gs before hval0 hW hcnd hsz0 _
  have hval : ∀ (j : Nat) t v, Tryz.f6.params[j]? = some t → args[j]? = some v → Value.okWide Tryz.prog W .any base t v := hval0
  have hW' := hW
  obtain ⟨p, q, hA0, hV, rfl, hfz, hnd⟩ := hW
  have hA : DataW.TrodAll enc Tryz.prog W 0 (fun _ => true) true Tryz.f6.params.toList args.toList ds p := hA0
  have hsz : (DataW.weightsEach Tryz.prog (Tryz.f6.params.toList ++ Rows.clockEndsSpec.plain.varTypes Tryz.prog) (ds ++ gs)).all (· ≤ reachBytes) = true := hsz0
  rw [Tryz.params6] at hA hval hsz
  obtain ⟨v0, vs0, d0, ds0, p0, q0, hargs, rfl, rfl, h0, rr0⟩ := trodAll_cons hA
  obtain ⟨v1, vs1, d1, ds1, p1, q1, rfl, rfl, rfl, h1, rr1⟩ := trodAll_cons rr0
  obtain ⟨rfl, rfl, rfl⟩ := trodAll_nil rr1
  obtain rfl : args = #[v0, v1] := by cases args; simp_all
  obtain ⟨rfl, rfl⟩ := trodVars_none hV
  clear hA0 hval0
  simp only [List.append_nil] at hW'
  have hlt : ∀ x ∈ p0 ++ (p1 ++ []), x.block < W.heap.size := fun x hx => by simpa using hW'.lt x (by simpa using hx)
  have hl0 : ∀ x ∈ p0, x.block < W.heap.size := fun x hx => hlt x (by simp [hx])
  have k0 : ∀ W', Below W.heap.size W W' → DataW.Trod enc Tryz.prog W' 0 (fun b => decide (b < W.heap.size)) true 3 v0 d0 p0 := fun W' hb => Below.trod (by kernel_rfl) (by kernel_rfl) (of_decide_eq_true (by kernel_rfl)) h0 hb hl0
  have hl1 : ∀ x ∈ p1, x.block < W.heap.size := fun x hx => hlt x (by simp [hx])
  have k1 : ∀ W', Below W.heap.size W W' → DataW.Trod enc Tryz.prog W' 0 (fun b => decide (b < W.heap.size)) true 3 v1 d1 p1 := fun W' hb => Below.trod (by kernel_rfl) (by kernel_rfl) (of_decide_eq_true (by kernel_rfl)) h1 hb hl1
  obtain ⟨a0, rfl, rfl, rfl, w0⟩ := open_int Tryz.underlying3 (hval 0 3 v0 rfl rfl) h0
  have c0 : -9223372036854775808 ≤ a0 ∧ a0 ≤ 9223372036854775807 := show IntKind.i64.min ≤ a0 ∧ a0 ≤ 9223372036854775807 by simpa [Lit.wf] using w0
  obtain ⟨a1, rfl, rfl, rfl, w1⟩ := open_int Tryz.underlying3 (hval 1 3 v1 rfl rfl) h1
  have c1 : -9223372036854775808 ≤ a1 ∧ a1 ≤ 9223372036854775807 := show IntKind.i64.min ≤ a1 ∧ a1 ≤ 9223372036854775807 by simpa [Lit.wf] using w1
  refine (walk W a0 c0 a1 c1).mono fun e W' ⟨he, bel⟩ => ?_
  subst he
  exact ⟨_, rfl, _, _, _, [], _, [], hW', (trodAll_cons_mk (shut_bool Tryz.underlying4 _) trodAll_mk0), (trodAll_cons_mk (k0 W' bel) (trodAll_cons_mk (k1 W' bel) trodAll_mk0)), rfl, bel.frame _, fun h => by cases h⟩

theorem and2 {a b : Bool} (h : a = true) (k : b = true) : (a && b) = true := by rw [h, k]; rfl

set_option maxRecDepth 100000 in
theorem fact0 : (Rows.clockEndsRow.wf (OpenSpec.ofChange Rows.clockEndsSpec)) = true := by kernel_rfl

set_option maxRecDepth 100000 in
theorem fact1 : (laidOutB Tryz.pinned.checked.prog) = true := by kernel_rfl

set_option maxRecDepth 100000 in
theorem fact2 : (mapsRowed Tryz.pinned.checked.prog) = true := by kernel_rfl

set_option maxRecDepth 100000 in
theorem fact3 : (Tryz.f6.params.all (Tryz.pinned.checked.prog.readableRec ·)) = true := by kernel_rfl

set_option maxRecDepth 100000 in
theorem fact4 : (namedTie Tryz.pinned.checked.prog Rows.clockEndsRow.named Rows.clockEndsSpec.vars) = true := by kernel_rfl

set_option maxRecDepth 100000 in
theorem fact5 : (Rows.clockEndsRow.stops == []) = true := by kernel_rfl

set_option maxRecDepth 100000 in
theorem fact6 : (Tryz.pinned.checked.prog.stops == []) = true := by kernel_rfl

set_option maxRecDepth 100000 in
theorem fact7 : (Rows.clockEndsRow.knobs == []) = true := by kernel_rfl

set_option maxRecDepth 100000 in
theorem fact8 : (Tryz.pinned.checked.prog.stopKnobs == []) = true := by kernel_rfl

set_option maxRecDepth 100000 in
theorem fact9 : (Rows.clockEndsRow.inPlace == Tryz.pinned.checked.prog.inPlace 6) = true := by kernel_rfl

set_option maxRecDepth 100000 in
theorem fact10 : (Rows.clockEndsRow.unfollowed == Tryz.pinned.checked.prog.unfollowed 6) = true := by kernel_rfl

set_option maxRecDepth 100000 in
theorem fact11 : (Rows.clockEndsRow.recurses == Tryz.pinned.checked.prog.recurses 6) = true := by kernel_rfl

set_option maxRecDepth 100000 in
theorem fact12 : (Rows.clockEndsRow.named == Tryz.pinned.checked.prog.varsNamed 6) = true := by kernel_rfl

set_option maxRecDepth 100000 in
theorem fact13 : (Rows.clockEndsRow.maps == (Tryz.f6.params.toList ++ Rows.clockEndsSpec.plain.varTypes Tryz.pinned.checked.prog).any (Tryz.pinned.checked.prog.mapsRec ·)) = true := by kernel_rfl

set_option maxRecDepth 100000 in
theorem fact14 : (Rows.clockEndsRow.ifaces == (Tryz.f6.params.toList ++ Rows.clockEndsSpec.plain.varTypes Tryz.pinned.checked.prog).any (Tryz.pinned.checked.prog.ifacesRec ·)) = true := by kernel_rfl

set_option maxRecDepth 100000 in
theorem fact15 : (Rows.clockEndsRow.mapsOut == Tryz.pinned.checked.prog.mapsAmong Tryz.f6.resultTypes.toList) = true := by kernel_rfl

set_option maxRecDepth 100000 in
theorem fact16 : (Rows.clockEndsRow.loops == (Tryz.f6.params.toList ++ Rows.clockEndsSpec.plain.varTypes Tryz.pinned.checked.prog).any (Tryz.pinned.checked.prog.loopsFrom ·)) = true := by kernel_rfl

set_option maxRecDepth 100000 in
theorem fact17 : (Rows.clockEndsRow.wideKeys == (Tryz.f6.params.toList ++ Rows.clockEndsSpec.plain.varTypes Tryz.pinned.checked.prog ++ Tryz.f6.resultTypes.toList).any (Tryz.pinned.checked.prog.wideKeysFrom ·)) = true := by kernel_rfl

set_option maxRecDepth 100000 in
theorem fact18 : (Rows.clockEndsSpec.vars.all (Tryz.pinned.checked.prog.varReadable ·)) = true := by kernel_rfl

set_option maxRecDepth 100000 in
theorem fact19 : (Tryz.f6.resultTypes.all (fun t => Tryz.pinned.checked.prog.readableRec t && decide (t < Tryz.pinned.checked.prog.types.size))) = true := by kernel_rfl

set_option maxRecDepth 100000 in
theorem fact20 : (Rows.clockEndsRow.ifacesOut == Tryz.f6.resultTypes.toList.any (Tryz.pinned.checked.prog.ifacesRec ·)) = true := by kernel_rfl

set_option maxRecDepth 100000 in
theorem fact21 : (Rows.clockEndsRow.loopsOut == Tryz.f6.resultTypes.toList.any (Tryz.pinned.checked.prog.loopsFrom ·)) = true := by kernel_rfl

set_option maxRecDepth 100000 in
theorem fact22 : (Rows.clockEndsRow.plainKeys == Tryz.pinned.checked.prog.plainKeys) = true := by kernel_rfl

set_option maxRecDepth 100000 in
theorem fact23 : (Rows.clockEndsRow.shortTexts.isNone) = true := by kernel_rfl

set_option maxRecDepth 100000 in
theorem fact24 : (Tryz.pinned.checked.prog.stopsHeard) = true := by kernel_rfl

set_option maxRecDepth 100000 in
theorem fact25 : (Tryz.pinned.checked.prog.mayEnter) = true := by kernel_rfl

set_option maxRecDepth 100000 in
theorem fact26 : (Rows.clockEndsRow.lifted == Tryz.pinned.checked.prog.liftsFinal) = true := by kernel_rfl

set_option maxRecDepth 100000 in
theorem fact27 : (Tryz.pinned.checked.prog.make == some Rows.clockEndsRow.make) = true := by kernel_rfl

set_option maxRecDepth 100000 in
theorem fact28 : (Rows.clockEndsRow.kinds == (if Rows.clockEndsRow.domain.isEmpty then [] else Tryz.f6.params.toList.map fun t => match Tryz.pinned.checked.prog.underlying t with | some (.int k) => some k | _ => none)) = true := by kernel_rfl

set_option maxRecDepth 100000 in
theorem fact29 : (Rows.clockEndsRow.pinned == Rows.clockEndsRow.pinnedBy) = true := by kernel_rfl

set_option maxRecDepth 100000 in
theorem fact30 : (Rows.clockEndsRow.veiled == (Tryz.f6.params.toList ++ Rows.clockEndsSpec.plain.varTypes Tryz.pinned.checked.prog ++ Tryz.f6.resultTypes.toList).any (Tryz.pinned.checked.prog.veiledRec ·)) = true := by kernel_rfl

set_option maxRecDepth 100000 in
theorem fact31 : (Rows.clockEndsRow.veiledFits Tryz.pinned.checked.prog Tryz.f6.params.toList (Tryz.f6.params.toList ++ Rows.clockEndsSpec.plain.varTypes Tryz.pinned.checked.prog ++ Tryz.f6.resultTypes.toList)) = true := by kernel_rfl

set_option maxRecDepth 100000 in
theorem closed : joinedFacts Tryz.pinned.checked.prog 6 Tryz.f6 Rows.clockEndsSpec Rows.clockEndsRow = true := by
  unfold joinedFacts
  exact (and2 (and2 (and2 (and2 (and2 (and2 (and2 (and2 (and2 (and2 (and2 (and2 (and2 (and2 (and2 (and2 (and2 (and2 (and2 (and2 (and2 (and2 (and2 (and2 (and2 (and2 (and2 (and2 (and2 (and2 (and2 fact0 fact1) fact2) fact3) fact4) fact5) fact6) fact7) fact8) fact9) fact10) fact11) fact12) fact13) fact14) fact15) fact16) fact17) fact18) fact19) fact20) fact21) fact22) fact23) fact24) fact25) fact26) fact27) fact28) fact29) fact30) fact31)

theorem over : Rows.clockEndsRow.holds Tryz.pinned (OpenSpec.ofChange Rows.clockEndsSpec) :=
  OpenClaim.holds_of_wide 6 Tryz.f6 rfl rfl rfl rfl rfl rfl rfl ⟨rfl, rfl, rfl, rfl, rfl⟩ rfl rfl rfl rfl rfl (by kernel_rfl) Tryz.func6 closed
    (of_decide_eq_true (by kernel_rfl)) (by unfold Func.isWrapper; first | (rw [if_pos (by decide +kernel)]; kernel_rfl) | (rw [if_neg (by decide +kernel)]; exact ⟨rfl, rfl⟩))
    (fun os started H enc _ => lifted os started H enc)

theorem proved : Rows.ClockEndsSaid :=
  over
#print axioms proved
end Go.Proofs.YtmidncclndongaaGreat.clockEnds
