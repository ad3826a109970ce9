/- Stamps rise, whatever crashes between, and no more than a block is passed over by each crash; for any block and any row of stretches that can be handed in. -/
import Derived.Test.YtmidncclndongaaGreatRows
import Derived.Test.YtmidncclndongaaGreatC34
import Derived.WalkKit
import Derived.ProofKit
import Derived.OpenShut
import Derived.ShutString
import Derived.SizedLaws
import Derived.ChangeOld
import Derived.Below
import Derived.Carry
import Derived.Lib.SmallJoins
namespace Go.Proofs.YtmidncclndongaaGreat.clockRises
open Go.ChangeShapes Go.WideShapes Go.ChangeAt Go.RowKit Go.Joins
open Go.ChangeMaps (open_string shut_string)
set_option linter.unusedVariables false

theorem own : ownKnob Tryz.prog.godebug = none := by kernel_rfl

theorem walk (w : World) (a0 : Int) (c0 : -9223372036854775808 ≤ a0 ∧ a0 ≤ 9223372036854775807) (v1 : Value) (L1 : List Ck.GoI) (hv1 : Ck.gosOf w v1 L1) :
    Calls Tryz.prog 5 #[.int .i64 a0, v1] w fun e w' => e = .returned (.bool true) ∧ Below w.heap.size w w' :=
  Ck.rises_any a0 v1 L1 w hv1

set_option maxRecDepth 100000 in
set_option maxHeartbeats 2000000 in
theorem lifted (os : Os) (started : os.Started) (H : Type) (enc : TypeId × Value → H) :
    ReturnsInHanded {} Tryz.checked os 5 .any (Rows.clockRisesSpec.pre6 enc Tryz.prog Tryz.f5 Rows.clockRisesRow.domain false) (Rows.clockRisesSpec.post enc Tryz.prog Tryz.f5 false true false false) := by
  refine returnsInHanded_of_change_sized (C := Tryz.checked) own started (by kernel_rfl) Tryz.func5
    (ChangeSpec.witness6 (enc := enc) (C := Tryz.checked) false ⟨#[], #[.int .i64 0, .slice none 0 0], []⟩ 8 (by kernel_rfl) (by kernel_rfl) (by kernel_rfl) (by kernel_rfl)) ?_
  intro W base args ds gs before hval0 hW hcnd hsz0 _
  have hval : ∀ (j : Nat) t v, Tryz.f5.params[j]? = some t → args[j]? = some v → Value.okWide Tryz.prog W .any base t v := hval0
  have hW' := hW
  obtain ⟨p, q, hA0, hV, rfl, hfz, hnd⟩ := hW
  have hA : DataW.TrodAll enc Tryz.prog W 0 (fun _ => true) true Tryz.f5.params.toList args.toList ds p := hA0
  have hsz : (DataW.weightsEach Tryz.prog (Tryz.f5.params.toList ++ Rows.clockRisesSpec.plain.varTypes Tryz.prog) (ds ++ gs)).all (· ≤ reachBytes) = true := hsz0
  rw [Tryz.params5] at hA hval hsz
  obtain ⟨v0, vs0, d0, ds0, p0, q0, hargs, rfl, rfl, h0, rr0⟩ := trodAll_cons hA
  obtain ⟨v1, vs1, d1, ds1, p1, q1, rfl, rfl, rfl, h1, rr1⟩ := trodAll_cons rr0
  obtain ⟨rfl, rfl, rfl⟩ := trodAll_nil rr1
  obtain rfl : args = #[v0, v1] := by cases args; simp_all
  obtain ⟨rfl, rfl⟩ := trodVars_none hV
  clear hA0 hval0
  simp only [List.append_nil] at hW'
  have hlt : ∀ x ∈ p0 ++ (p1 ++ []), x.block < W.heap.size := fun x hx => by simpa using hW'.lt x (by simpa using hx)
  have hl0 : ∀ x ∈ p0, x.block < W.heap.size := fun x hx => hlt x (by simp [hx])
  have k0 : ∀ W', Below W.heap.size W W' → DataW.Trod enc Tryz.prog W' 0 (fun b => decide (b < W.heap.size)) true 3 v0 d0 p0 := fun W' hb => Below.trod (by kernel_rfl) (by kernel_rfl) (of_decide_eq_true (by kernel_rfl)) h0 hb hl0
  have hl1 : ∀ x ∈ p1, x.block < W.heap.size := fun x hx => hlt x (by simp [hx])
  have k1 : ∀ W', Below W.heap.size W W' → DataW.Trod enc Tryz.prog W' 0 (fun b => decide (b < W.heap.size)) true 66 v1 d1 p1 := fun W' hb => Below.trod (by kernel_rfl) (by kernel_rfl) (of_decide_eq_true (by kernel_rfl)) h1 hb hl1
  obtain ⟨a0, rfl, rfl, rfl, w0⟩ := open_int Tryz.underlying3 (hval 0 3 v0 rfl rfl) h0
  have c0 : -9223372036854775808 ≤ a0 ∧ a0 ≤ 9223372036854775807 := show IntKind.i64.min ≤ a0 ∧ a0 ≤ 9223372036854775807 by simpa [Lit.wf] using w0
  obtain ⟨L1, hv1⟩ := Ck.open_gos hsz (j := 1) rfl rfl (hval 1 66 v1 rfl rfl) h1 hl1
  refine (walk W a0 c0 v1 L1 hv1).mono fun e W' ⟨he, bel⟩ => ?_
  subst he
  exact ⟨_, rfl, _, _, _, [], _, [], hW', (trodAll_cons_mk (shut_bool Tryz.underlying4 _) trodAll_mk0), (trodAll_cons_mk (k0 W' bel) (trodAll_cons_mk (k1 W' bel) trodAll_mk0)), rfl, bel.frame _, fun h => by cases h⟩

theorem and2 {a b : Bool} (h : a = true) (k : b = true) : (a && b) = true := by rw [h, k]; rfl

set_option maxRecDepth 100000 in
theorem fact0 : (Rows.clockRisesRow.wf (OpenSpec.ofChange Rows.clockRisesSpec)) = true := by kernel_rfl

set_option maxRecDepth 100000 in
theorem fact1 : (laidOutB Tryz.pinned.checked.prog) = true := by kernel_rfl

set_option maxRecDepth 100000 in
theorem fact2 : (mapsRowed Tryz.pinned.checked.prog) = true := by kernel_rfl

set_option maxRecDepth 100000 in
theorem fact3 : (Tryz.f5.params.all (Tryz.pinned.checked.prog.readableRec ·)) = true := by kernel_rfl

set_option maxRecDepth 100000 in
theorem fact4 : (namedTie Tryz.pinned.checked.prog Rows.clockRisesRow.named Rows.clockRisesSpec.vars) = true := by kernel_rfl

set_option maxRecDepth 100000 in
theorem fact5 : (Rows.clockRisesRow.stops == []) = true := by kernel_rfl

set_option maxRecDepth 100000 in
theorem fact6 : (Tryz.pinned.checked.prog.stops == []) = true := by kernel_rfl

set_option maxRecDepth 100000 in
theorem fact7 : (Rows.clockRisesRow.knobs == []) = true := by kernel_rfl

set_option maxRecDepth 100000 in
theorem fact8 : (Tryz.pinned.checked.prog.stopKnobs == []) = true := by kernel_rfl

set_option maxRecDepth 100000 in
theorem fact9 : (Rows.clockRisesRow.inPlace == Tryz.pinned.checked.prog.inPlace 5) = true := by kernel_rfl

set_option maxRecDepth 100000 in
theorem fact10 : (Rows.clockRisesRow.unfollowed == Tryz.pinned.checked.prog.unfollowed 5) = true := by kernel_rfl

set_option maxRecDepth 100000 in
theorem fact11 : (Rows.clockRisesRow.recurses == Tryz.pinned.checked.prog.recurses 5) = true := by kernel_rfl

set_option maxRecDepth 100000 in
theorem fact12 : (Rows.clockRisesRow.named == Tryz.pinned.checked.prog.varsNamed 5) = true := by kernel_rfl

set_option maxRecDepth 100000 in
theorem fact13 : (Rows.clockRisesRow.maps == (Tryz.f5.params.toList ++ Rows.clockRisesSpec.plain.varTypes Tryz.pinned.checked.prog).any (Tryz.pinned.checked.prog.mapsRec ·)) = true := by kernel_rfl

set_option maxRecDepth 100000 in
theorem fact14 : (Rows.clockRisesRow.ifaces == (Tryz.f5.params.toList ++ Rows.clockRisesSpec.plain.varTypes Tryz.pinned.checked.prog).any (Tryz.pinned.checked.prog.ifacesRec ·)) = true := by kernel_rfl

set_option maxRecDepth 100000 in
theorem fact15 : (Rows.clockRisesRow.mapsOut == Tryz.pinned.checked.prog.mapsAmong Tryz.f5.resultTypes.toList) = true := by kernel_rfl

set_option maxRecDepth 100000 in
theorem fact16 : (Rows.clockRisesRow.loops == (Tryz.f5.params.toList ++ Rows.clockRisesSpec.plain.varTypes Tryz.pinned.checked.prog).any (Tryz.pinned.checked.prog.loopsFrom ·)) = true := by kernel_rfl

set_option maxRecDepth 100000 in
theorem fact17 : (Rows.clockRisesRow.wideKeys == (Tryz.f5.params.toList ++ Rows.clockRisesSpec.plain.varTypes Tryz.pinned.checked.prog ++ Tryz.f5.resultTypes.toList).any (Tryz.pinned.checked.prog.wideKeysFrom ·)) = true := by kernel_rfl

set_option maxRecDepth 100000 in
theorem fact18 : (Rows.clockRisesSpec.vars.all (Tryz.pinned.checked.prog.varReadable ·)) = true := by kernel_rfl

set_option maxRecDepth 100000 in
theorem fact19 : (Tryz.f5.resultTypes.all (fun t => Tryz.pinned.checked.prog.readableRec t && decide (t < Tryz.pinned.checked.prog.types.size))) = true := by kernel_rfl

set_option maxRecDepth 100000 in
theorem fact20 : (Rows.clockRisesRow.ifacesOut == Tryz.f5.resultTypes.toList.any (Tryz.pinned.checked.prog.ifacesRec ·)) = true := by kernel_rfl

set_option maxRecDepth 100000 in
theorem fact21 : (Rows.clockRisesRow.loopsOut == Tryz.f5.resultTypes.toList.any (Tryz.pinned.checked.prog.loopsFrom ·)) = true := by kernel_rfl

set_option maxRecDepth 100000 in
theorem fact22 : (Rows.clockRisesRow.plainKeys == Tryz.pinned.checked.prog.plainKeys) = true := by kernel_rfl

set_option maxRecDepth 100000 in
theorem fact23 : (Rows.clockRisesRow.shortTexts.isNone) = true := by kernel_rfl

set_option maxRecDepth 100000 in
theorem fact24 : (Tryz.pinned.checked.prog.stopsHeard) = true := by kernel_rfl

set_option maxRecDepth 100000 in
theorem fact25 : (Tryz.pinned.checked.prog.mayEnter) = true := by kernel_rfl

set_option maxRecDepth 100000 in
theorem fact26 : (Rows.clockRisesRow.lifted == Tryz.pinned.checked.prog.liftsFinal) = true := by kernel_rfl

set_option maxRecDepth 100000 in
theorem fact27 : (Tryz.pinned.checked.prog.make == some Rows.clockRisesRow.make) = true := by kernel_rfl

set_option maxRecDepth 100000 in
theorem fact28 : (Rows.clockRisesRow.kinds == (if Rows.clockRisesRow.domain.isEmpty then [] else Tryz.f5.params.toList.map fun t => match Tryz.pinned.checked.prog.underlying t with | some (.int k) => some k | _ => none)) = true := by kernel_rfl

set_option maxRecDepth 100000 in
theorem fact29 : (Rows.clockRisesRow.pinned == Rows.clockRisesRow.pinnedBy) = true := by kernel_rfl

set_option maxRecDepth 100000 in
theorem fact30 : (Rows.clockRisesRow.veiled == (Tryz.f5.params.toList ++ Rows.clockRisesSpec.plain.varTypes Tryz.pinned.checked.prog ++ Tryz.f5.resultTypes.toList).any (Tryz.pinned.checked.prog.veiledRec ·)) = true := by kernel_rfl

set_option maxRecDepth 100000 in
theorem fact31 : (Rows.clockRisesRow.veiledFits Tryz.pinned.checked.prog Tryz.f5.params.toList (Tryz.f5.params.toList ++ Rows.clockRisesSpec.plain.varTypes Tryz.pinned.checked.prog ++ Tryz.f5.resultTypes.toList)) = true := by kernel_rfl

set_option maxRecDepth 100000 in
theorem closed : joinedFacts Tryz.pinned.checked.prog 5 Tryz.f5 Rows.clockRisesSpec Rows.clockRisesRow = true := by
  unfold joinedFacts
  exact (and2 (and2 (and2 (and2 (and2 (and2 (and2 (and2 (and2 (and2 (and2 (and2 (and2 (and2 (and2 (and2 (and2 (and2 (and2 (and2 (and2 (and2 (and2 (and2 (and2 (and2 (and2 (and2 (and2 (and2 (and2 fact0 fact1) fact2) fact3) fact4) fact5) fact6) fact7) fact8) fact9) fact10) fact11) fact12) fact13) fact14) fact15) fact16) fact17) fact18) fact19) fact20) fact21) fact22) fact23) fact24) fact25) fact26) fact27) fact28) fact29) fact30) fact31)

theorem over : Rows.clockRisesRow.holds Tryz.pinned (OpenSpec.ofChange Rows.clockRisesSpec) :=
  OpenClaim.holds_of_wide 5 Tryz.f5 rfl rfl rfl rfl rfl rfl rfl ⟨rfl, rfl, rfl, rfl, rfl⟩ rfl rfl rfl rfl rfl (by kernel_rfl) Tryz.func5 closed
    (of_decide_eq_true (by kernel_rfl)) (by unfold Func.isWrapper; first | (rw [if_pos (by decide +kernel)]; kernel_rfl) | (rw [if_neg (by decide +kernel)]; exact ⟨rfl, rfl⟩))
    (fun os started H enc _ => lifted os started H enc)

theorem proved : Rows.ClockRisesSaid :=
  over
#print axioms proved
end Go.Proofs.YtmidncclndongaaGreat.clockRises
