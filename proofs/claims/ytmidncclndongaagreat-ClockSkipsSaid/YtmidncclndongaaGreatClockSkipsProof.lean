/- What is passed over is never handed out, and a skip back is refused and changes nothing; for any row of numbers that can be handed in. -/
import Derived.Test.YtmidncclndongaaGreatRows
import Derived.Test.YtmidncclndongaaGreatC35
import Derived.WalkKit
import Derived.ProofKit
import Derived.OpenShut
import Derived.ShutString
import Derived.SizedLaws
import Derived.ChangeOld
import Derived.Below
import Derived.Carry
import Derived.Lib.SmallJoins
namespace Go.Proofs.YtmidncclndongaaGreat.clockSkips
open Go.ChangeShapes Go.WideShapes Go.ChangeAt Go.RowKit Go.Joins
open Go.ChangeMaps (open_string shut_string)
set_option linter.unusedVariables false

theorem own : ownKnob Tryz.prog.godebug = none := by kernel_rfl

theorem walk (w : World) (v0 : Value) (l0 : List Int) (hv0 : Sc.IntsOf w v0 l0) :
    Calls Tryz.prog 7 #[v0] w fun e w' => e = .returned (.bool true) ∧ Below w.heap.size w w' :=
  Ck.skips_any v0 l0 w hv0

set_option maxRecDepth 100000 in
set_option maxHeartbeats 2000000 in
theorem lifted (os : Os) (started : os.Started) (H : Type) (enc : TypeId × Value → H) :
    ReturnsInHanded {} Tryz.checked os 7 .any (Rows.clockSkipsSpec.pre6 enc Tryz.prog Tryz.f7 Rows.clockSkipsRow.domain false) (Rows.clockSkipsSpec.post enc Tryz.prog Tryz.f7 false true false false) := by
  refine returnsInHanded_of_change_sized (C := Tryz.checked) own started (by kernel_rfl) Tryz.func7
    (ChangeSpec.witness6 (enc := enc) (C := Tryz.checked) false ⟨#[], #[.slice none 0 0], []⟩ 8 (by kernel_rfl) (by kernel_rfl) (by kernel_rfl) (by kernel_rfl)) ?_
  intro W base args ds gs before hval0 hW hcnd hsz0 _
  have hval : ∀ (j : Nat) t v, Tryz.f7.params[j]? = some t → args[j]? = some v → Value.okWide Tryz.prog W .any base t v := hval0
  have hW' := hW
  obtain ⟨p, q, hA0, hV, rfl, hfz, hnd⟩ := hW
  have hA : DataW.TrodAll enc Tryz.prog W 0 (fun _ => true) true Tryz.f7.params.toList args.toList ds p := hA0
  have hsz : (DataW.weightsEach Tryz.prog (Tryz.f7.params.toList ++ Rows.clockSkipsSpec.plain.varTypes Tryz.prog) (ds ++ gs)).all (· ≤ reachBytes) = true := hsz0
  rw [Tryz.params7] at hA hval hsz
  obtain ⟨v0, vs0, d0, ds0, p0, q0, hargs, rfl, rfl, h0, rr0⟩ := trodAll_cons hA
  obtain ⟨rfl, rfl, rfl⟩ := trodAll_nil rr0
  obtain rfl : args = #[v0] := by cases args; simp_all
  obtain ⟨rfl, rfl⟩ := trodVars_none hV
  clear hA0 hval0
  simp only [List.append_nil] at hW'
  have hlt : ∀ x ∈ p0 ++ [], x.block < W.heap.size := fun x hx => by simpa using hW'.lt x (by simpa using hx)
  have hl0 : ∀ x ∈ p0, x.block < W.heap.size := fun x hx => hlt x (by simp [hx])
  have k0 : ∀ W', Below W.heap.size W W' → DataW.Trod enc Tryz.prog W' 0 (fun b => decide (b < W.heap.size)) true 41 v0 d0 p0 := fun W' hb => Below.trod (by kernel_rfl) (by kernel_rfl) (of_decide_eq_true (by kernel_rfl)) h0 hb hl0
  obtain ⟨l0, hv0⟩ := Sc.open_intsOf hsz (j := 0) rfl rfl (hval 0 41 v0 rfl rfl) h0 hl0
  refine (walk W v0 l0 hv0).mono fun e W' ⟨he, bel⟩ => ?_
  subst he
  exact ⟨_, rfl, _, _, _, [], _, [], hW', (trodAll_cons_mk (shut_bool Tryz.underlying4 _) trodAll_mk0), (trodAll_cons_mk (k0 W' bel) trodAll_mk0), rfl, bel.frame _, fun h => by cases h⟩

theorem and2 {a b : Bool} (h : a = true) (k : b = true) : (a && b) = true := by rw [h, k]; rfl

set_option maxRecDepth 100000 in
theorem fact0 : (Rows.clockSkipsRow.wf (OpenSpec.ofChange Rows.clockSkipsSpec)) = true := by kernel_rfl

set_option maxRecDepth 100000 in
theorem fact1 : (laidOutB Tryz.pinned.checked.prog) = true := by kernel_rfl

set_option maxRecDepth 100000 in
theorem fact2 : (mapsRowed Tryz.pinned.checked.prog) = true := by kernel_rfl

set_option maxRecDepth 100000 in
theorem fact3 : (Tryz.f7.params.all (Tryz.pinned.checked.prog.readableRec ·)) = true := by kernel_rfl

set_option maxRecDepth 100000 in
theorem fact4 : (namedTie Tryz.pinned.checked.prog Rows.clockSkipsRow.named Rows.clockSkipsSpec.vars) = true := by kernel_rfl

set_option maxRecDepth 100000 in
theorem fact5 : (Rows.clockSkipsRow.stops == []) = true := by kernel_rfl

set_option maxRecDepth 100000 in
theorem fact6 : (Tryz.pinned.checked.prog.stops == []) = true := by kernel_rfl

set_option maxRecDepth 100000 in
theorem fact7 : (Rows.clockSkipsRow.knobs == []) = true := by kernel_rfl

set_option maxRecDepth 100000 in
theorem fact8 : (Tryz.pinned.checked.prog.stopKnobs == []) = true := by kernel_rfl

set_option maxRecDepth 100000 in
theorem fact9 : (Rows.clockSkipsRow.inPlace == Tryz.pinned.checked.prog.inPlace 7) = true := by kernel_rfl

set_option maxRecDepth 100000 in
theorem fact10 : (Rows.clockSkipsRow.unfollowed == Tryz.pinned.checked.prog.unfollowed 7) = true := by kernel_rfl

set_option maxRecDepth 100000 in
theorem fact11 : (Rows.clockSkipsRow.recurses == Tryz.pinned.checked.prog.recurses 7) = true := by kernel_rfl

set_option maxRecDepth 100000 in
theorem fact12 : (Rows.clockSkipsRow.named == Tryz.pinned.checked.prog.varsNamed 7) = true := by kernel_rfl

set_option maxRecDepth 100000 in
theorem fact13 : (Rows.clockSkipsRow.maps == (Tryz.f7.params.toList ++ Rows.clockSkipsSpec.plain.varTypes Tryz.pinned.checked.prog).any (Tryz.pinned.checked.prog.mapsRec ·)) = true := by kernel_rfl

set_option maxRecDepth 100000 in
theorem fact14 : (Rows.clockSkipsRow.ifaces == (Tryz.f7.params.toList ++ Rows.clockSkipsSpec.plain.varTypes Tryz.pinned.checked.prog).any (Tryz.pinned.checked.prog.ifacesRec ·)) = true := by kernel_rfl

set_option maxRecDepth 100000 in
theorem fact15 : (Rows.clockSkipsRow.mapsOut == Tryz.pinned.checked.prog.mapsAmong Tryz.f7.resultTypes.toList) = true := by kernel_rfl

set_option maxRecDepth 100000 in
theorem fact16 : (Rows.clockSkipsRow.loops == (Tryz.f7.params.toList ++ Rows.clockSkipsSpec.plain.varTypes Tryz.pinned.checked.prog).any (Tryz.pinned.checked.prog.loopsFrom ·)) = true := by kernel_rfl

set_option maxRecDepth 100000 in
theorem fact17 : (Rows.clockSkipsRow.wideKeys == (Tryz.f7.params.toList ++ Rows.clockSkipsSpec.plain.varTypes Tryz.pinned.checked.prog ++ Tryz.f7.resultTypes.toList).any (Tryz.pinned.checked.prog.wideKeysFrom ·)) = true := by kernel_rfl

set_option maxRecDepth 100000 in
theorem fact18 : (Rows.clockSkipsSpec.vars.all (Tryz.pinned.checked.prog.varReadable ·)) = true := by kernel_rfl

set_option maxRecDepth 100000 in
theorem fact19 : (Tryz.f7.resultTypes.all (fun t => Tryz.pinned.checked.prog.readableRec t && decide (t < Tryz.pinned.checked.prog.types.size))) = true := by kernel_rfl

set_option maxRecDepth 100000 in
theorem fact20 : (Rows.clockSkipsRow.ifacesOut == Tryz.f7.resultTypes.toList.any (Tryz.pinned.checked.prog.ifacesRec ·)) = true := by kernel_rfl

set_option maxRecDepth 100000 in
theorem fact21 : (Rows.clockSkipsRow.loopsOut == Tryz.f7.resultTypes.toList.any (Tryz.pinned.checked.prog.loopsFrom ·)) = true := by kernel_rfl

set_option maxRecDepth 100000 in
theorem fact22 : (Rows.clockSkipsRow.plainKeys == Tryz.pinned.checked.prog.plainKeys) = true := by kernel_rfl

set_option maxRecDepth 100000 in
theorem fact23 : (Rows.clockSkipsRow.shortTexts.isNone) = true := by kernel_rfl

set_option maxRecDepth 100000 in
theorem fact24 : (Tryz.pinned.checked.prog.stopsHeard) = true := by kernel_rfl

set_option maxRecDepth 100000 in
theorem fact25 : (Tryz.pinned.checked.prog.mayEnter) = true := by kernel_rfl

set_option maxRecDepth 100000 in
theorem fact26 : (Rows.clockSkipsRow.lifted == Tryz.pinned.checked.prog.liftsFinal) = true := by kernel_rfl

set_option maxRecDepth 100000 in
theorem fact27 : (Tryz.pinned.checked.prog.make == some Rows.clockSkipsRow.make) = true := by kernel_rfl

set_option maxRecDepth 100000 in
theorem fact28 : (Rows.clockSkipsRow.kinds == (if Rows.clockSkipsRow.domain.isEmpty then [] else Tryz.f7.params.toList.map fun t => match Tryz.pinned.checked.prog.underlying t with | some (.int k) => some k | _ => none)) = true := by kernel_rfl

set_option maxRecDepth 100000 in
theorem fact29 : (Rows.clockSkipsRow.pinned == Rows.clockSkipsRow.pinnedBy) = true := by kernel_rfl

set_option maxRecDepth 100000 in
theorem fact30 : (Rows.clockSkipsRow.veiled == (Tryz.f7.params.toList ++ Rows.clockSkipsSpec.plain.varTypes Tryz.pinned.checked.prog ++ Tryz.f7.resultTypes.toList).any (Tryz.pinned.checked.prog.veiledRec ·)) = true := by kernel_rfl

set_option maxRecDepth 100000 in
theorem fact31 : (Rows.clockSkipsRow.veiledFits Tryz.pinned.checked.prog Tryz.f7.params.toList (Tryz.f7.params.toList ++ Rows.clockSkipsSpec.plain.varTypes Tryz.pinned.checked.prog ++ Tryz.f7.resultTypes.toList)) = true := by kernel_rfl

set_option maxRecDepth 100000 in
theorem closed : joinedFacts Tryz.pinned.checked.prog 7 Tryz.f7 Rows.clockSkipsSpec Rows.clockSkipsRow = true := by
  unfold joinedFacts
  exact (and2 (and2 (and2 (and2 (and2 (and2 (and2 (and2 (and2 (and2 (and2 (and2 (and2 (and2 (and2 (and2 (and2 (and2 (and2 (and2 (and2 (and2 (and2 (and2 (and2 (and2 (and2 (and2 (and2 (and2 (and2 fact0 fact1) fact2) fact3) fact4) fact5) fact6) fact7) fact8) fact9) fact10) fact11) fact12) fact13) fact14) fact15) fact16) fact17) fact18) fact19) fact20) fact21) fact22) fact23) fact24) fact25) fact26) fact27) fact28) fact29) fact30) fact31)

theorem over : Rows.clockSkipsRow.holds Tryz.pinned (OpenSpec.ofChange Rows.clockSkipsSpec) :=
  OpenClaim.holds_of_wide 7 Tryz.f7 rfl rfl rfl rfl rfl rfl rfl ⟨rfl, rfl, rfl, rfl, rfl⟩ rfl rfl rfl rfl rfl (by kernel_rfl) Tryz.func7 closed
    (of_decide_eq_true (by kernel_rfl)) (by unfold Func.isWrapper; first | (rw [if_pos (by decide +kernel)]; kernel_rfl) | (rw [if_neg (by decide +kernel)]; exact ⟨rfl, rfl⟩))
    (fun os started H enc _ => lifted os started H enc)

theorem proved : Rows.ClockSkipsSaid :=
  over
#print axioms proved
end Go.Proofs.YtmidncclndongaaGreat.clockSkips
