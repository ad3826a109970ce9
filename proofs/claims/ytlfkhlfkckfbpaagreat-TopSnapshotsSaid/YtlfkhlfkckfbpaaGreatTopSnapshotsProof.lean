/- Each snapshot reads, as long as its lease runs, what it read at first; no condition. -/
import Derived.Test.YtlfkhlfkckfbpaaGreatRows
import Derived.Test.YtlfkhlfkckfbpaaGreatC31
import Derived.WalkKit
import Derived.ProofKit
import Derived.OpenShut
import Derived.ShutString
import Derived.SizedLaws
import Derived.ChangeOld
import Derived.Below
import Derived.Carry
import Derived.Lib.SmallJoins
namespace Go.Proofs.YtlfkhlfkckfbpaaGreat.topSnapshots
open Go.ChangeShapes Go.WideShapes Go.ChangeAt Go.RowKit Go.Joins
open Go.ChangeMaps (open_string shut_string)
set_option linter.unusedVariables false

theorem own : ownKnob Tryz.prog.godebug = none := by kernel_rfl

theorem walk (w : World) (v0 : Value) (l0 : List Int) (hv0 : Sc.IntsOf w v0 l0) (a1 : Int) (c1 : -9223372036854775808 ≤ a1 ∧ a1 ≤ 9223372036854775807) :
    Calls Tryz.prog 3 #[v0, .int .i64 a1] w fun e w' => e = .returned (.bool true) ∧ Below w.heap.size w w' :=
  Tp.snaps_walk Tp.begins_any v0 l0 a1 w hv0

set_option maxRecDepth 100000 in
set_option maxHeartbeats 2000000 in
theorem lifted (os : Os) (started : os.Started) (H : Type) (enc : TypeId × Value → H) :
    ReturnsInHanded {} Tryz.checked os 3 .any (Rows.topSnapshotsSpec.pre6 enc Tryz.prog Tryz.f3 Rows.topSnapshotsRow.domain false) (Rows.topSnapshotsSpec.post enc Tryz.prog Tryz.f3 false true false false) := by
  refine returnsInHanded_of_change_sized (C := Tryz.checked) own started (by kernel_rfl) Tryz.func3
    (ChangeSpec.witness6 (enc := enc) (C := Tryz.checked) false ⟨#[], #[.slice none 0 0, .int .i64 0], []⟩ 8 (by kernel_rfl) (by kernel_rfl) (by kernel_rfl) (by kernel_rfl)) ?_
  intro W base args ds gs before hval0 hW hcnd hsz0 _
  have hval : ∀ (j : Nat) t v, Tryz.f3.params[j]? = some t → args[j]? = some v → Value.okWide Tryz.prog W .any base t v := hval0
  have hW' := hW
  obtain ⟨p, q, hA0, hV, rfl, hfz, hnd⟩ := hW
  have hA : DataW.TrodAll enc Tryz.prog W 0 (fun _ => true) true Tryz.f3.params.toList args.toList ds p := hA0
  have hsz : (DataW.weightsEach Tryz.prog (Tryz.f3.params.toList ++ Rows.topSnapshotsSpec.plain.varTypes Tryz.prog) (ds ++ gs)).all (· ≤ reachBytes) = true := hsz0
  rw [Tryz.params3] at hA hval hsz
  obtain ⟨v0, vs0, d0, ds0, p0, q0, hargs, rfl, rfl, h0, rr0⟩ := trodAll_cons hA
  obtain ⟨v1, vs1, d1, ds1, p1, q1, rfl, rfl, rfl, h1, rr1⟩ := trodAll_cons rr0
  obtain ⟨rfl, rfl, rfl⟩ := trodAll_nil rr1
  obtain rfl : args = #[v0, v1] := by cases args; simp_all
  obtain ⟨rfl, rfl⟩ := trodVars_none hV
  clear hA0 hval0
  simp only [List.append_nil] at hW'
  have hlt : ∀ x ∈ p0 ++ (p1 ++ []), x.block < W.heap.size := fun x hx => by simpa using hW'.lt x (by simpa using hx)
  have hl0 : ∀ x ∈ p0, x.block < W.heap.size := fun x hx => hlt x (by simp [hx])
  have k0 : ∀ W', Below W.heap.size W W' → DataW.Trod enc Tryz.prog W' 0 (fun b => decide (b < W.heap.size)) true 22 v0 d0 p0 := fun W' hb => Below.trod (by kernel_rfl) (by kernel_rfl) (of_decide_eq_true (by kernel_rfl)) h0 hb hl0
  have hl1 : ∀ x ∈ p1, x.block < W.heap.size := fun x hx => hlt x (by simp [hx])
  have k1 : ∀ W', Below W.heap.size W W' → DataW.Trod enc Tryz.prog W' 0 (fun b => decide (b < W.heap.size)) true 3 v1 d1 p1 := fun W' hb => Below.trod (by kernel_rfl) (by kernel_rfl) (of_decide_eq_true (by kernel_rfl)) h1 hb hl1
  obtain ⟨l0, hv0⟩ := Sc.open_intsOf hsz (j := 0) rfl rfl (hval 0 22 v0 rfl rfl) h0 hl0
  obtain ⟨a1, rfl, rfl, rfl, w1⟩ := open_int Tryz.underlying3 (hval 1 3 v1 rfl rfl) h1
  have c1 : -9223372036854775808 ≤ a1 ∧ a1 ≤ 9223372036854775807 := show IntKind.i64.min ≤ a1 ∧ a1 ≤ 9223372036854775807 by simpa [Lit.wf] using w1
  refine (walk W v0 l0 hv0 a1 c1).mono fun e W' ⟨he, bel⟩ => ?_
  subst he
  exact ⟨_, rfl, _, _, _, [], _, [], hW', (trodAll_cons_mk (shut_bool Tryz.underlying4 _) trodAll_mk0), (trodAll_cons_mk (k0 W' bel) (trodAll_cons_mk (k1 W' bel) trodAll_mk0)), rfl, bel.frame _, fun h => by cases h⟩

theorem and2 {a b : Bool} (h : a = true) (k : b = true) : (a && b) = true := by rw [h, k]; rfl

set_option maxRecDepth 100000 in
theorem fact0 : (Rows.topSnapshotsRow.wf (OpenSpec.ofChange Rows.topSnapshotsSpec)) = true := by kernel_rfl

set_option maxRecDepth 100000 in
theorem fact1 : (laidOutB Tryz.pinned.checked.prog) = true := by kernel_rfl

set_option maxRecDepth 100000 in
theorem fact2 : (mapsRowed Tryz.pinned.checked.prog) = true := by kernel_rfl

set_option maxRecDepth 100000 in
theorem fact3 : (Tryz.f3.params.all (Tryz.pinned.checked.prog.readableRec ·)) = true := by kernel_rfl

set_option maxRecDepth 100000 in
theorem fact4 : (namedTie Tryz.pinned.checked.prog Rows.topSnapshotsRow.named Rows.topSnapshotsSpec.vars) = true := by kernel_rfl

set_option maxRecDepth 100000 in
theorem fact5 : (Rows.topSnapshotsRow.stops == []) = true := by kernel_rfl

set_option maxRecDepth 100000 in
theorem fact6 : (Tryz.pinned.checked.prog.stops == []) = true := by kernel_rfl

set_option maxRecDepth 100000 in
theorem fact7 : (Rows.topSnapshotsRow.knobs == []) = true := by kernel_rfl

set_option maxRecDepth 100000 in
theorem fact8 : (Tryz.pinned.checked.prog.stopKnobs == []) = true := by kernel_rfl

set_option maxRecDepth 100000 in
theorem fact9 : (Rows.topSnapshotsRow.inPlace == Tryz.pinned.checked.prog.inPlace 3) = true := by kernel_rfl

set_option maxRecDepth 100000 in
theorem fact10 : (Rows.topSnapshotsRow.unfollowed == Tryz.pinned.checked.prog.unfollowed 3) = true := by kernel_rfl

set_option maxRecDepth 100000 in
theorem fact11 : (Rows.topSnapshotsRow.recurses == Tryz.pinned.checked.prog.recurses 3) = true := by kernel_rfl

set_option maxRecDepth 100000 in
theorem fact12 : (Rows.topSnapshotsRow.named == Tryz.pinned.checked.prog.varsNamed 3) = true := by kernel_rfl

set_option maxRecDepth 100000 in
theorem fact13 : (Rows.topSnapshotsRow.maps == (Tryz.f3.params.toList ++ Rows.topSnapshotsSpec.plain.varTypes Tryz.pinned.checked.prog).any (Tryz.pinned.checked.prog.mapsRec ·)) = true := by kernel_rfl

set_option maxRecDepth 100000 in
theorem fact14 : (Rows.topSnapshotsRow.ifaces == (Tryz.f3.params.toList ++ Rows.topSnapshotsSpec.plain.varTypes Tryz.pinned.checked.prog).any (Tryz.pinned.checked.prog.ifacesRec ·)) = true := by kernel_rfl

set_option maxRecDepth 100000 in
theorem fact15 : (Rows.topSnapshotsRow.mapsOut == Tryz.pinned.checked.prog.mapsAmong Tryz.f3.resultTypes.toList) = true := by kernel_rfl

set_option maxRecDepth 100000 in
theorem fact16 : (Rows.topSnapshotsRow.loops == (Tryz.f3.params.toList ++ Rows.topSnapshotsSpec.plain.varTypes Tryz.pinned.checked.prog).any (Tryz.pinned.checked.prog.loopsFrom ·)) = true := by kernel_rfl

set_option maxRecDepth 100000 in
theorem fact17 : (Rows.topSnapshotsRow.wideKeys == (Tryz.f3.params.toList ++ Rows.topSnapshotsSpec.plain.varTypes Tryz.pinned.checked.prog ++ Tryz.f3.resultTypes.toList).any (Tryz.pinned.checked.prog.wideKeysFrom ·)) = true := by kernel_rfl

set_option maxRecDepth 100000 in
theorem fact18 : (Rows.topSnapshotsSpec.vars.all (Tryz.pinned.checked.prog.varReadable ·)) = true := by kernel_rfl

set_option maxRecDepth 100000 in
theorem fact19 : (Tryz.f3.resultTypes.all (fun t => Tryz.pinned.checked.prog.readableRec t && decide (t < Tryz.pinned.checked.prog.types.size))) = true := by kernel_rfl

set_option maxRecDepth 100000 in
theorem fact20 : (Rows.topSnapshotsRow.ifacesOut == Tryz.f3.resultTypes.toList.any (Tryz.pinned.checked.prog.ifacesRec ·)) = true := by kernel_rfl

set_option maxRecDepth 100000 in
theorem fact21 : (Rows.topSnapshotsRow.loopsOut == Tryz.f3.resultTypes.toList.any (Tryz.pinned.checked.prog.loopsFrom ·)) = true := by kernel_rfl

set_option maxRecDepth 100000 in
theorem fact22 : (Rows.topSnapshotsRow.plainKeys == Tryz.pinned.checked.prog.plainKeys) = true := by kernel_rfl

set_option maxRecDepth 100000 in
theorem fact23 : (Rows.topSnapshotsRow.shortTexts.isNone) = true := by kernel_rfl

set_option maxRecDepth 100000 in
theorem fact24 : (Tryz.pinned.checked.prog.stopsHeard) = true := by kernel_rfl

set_option maxRecDepth 100000 in
theorem fact25 : (Tryz.pinned.checked.prog.mayEnter) = true := by kernel_rfl

set_option maxRecDepth 100000 in
theorem fact26 : (Rows.topSnapshotsRow.lifted == Tryz.pinned.checked.prog.liftsFinal) = true := by kernel_rfl

set_option maxRecDepth 100000 in
theorem fact27 : (Tryz.pinned.checked.prog.make == some Rows.topSnapshotsRow.make) = true := by kernel_rfl

set_option maxRecDepth 100000 in
theorem fact28 : (Rows.topSnapshotsRow.kinds == (if Rows.topSnapshotsRow.domain.isEmpty then [] else Tryz.f3.params.toList.map fun t => match Tryz.pinned.checked.prog.underlying t with | some (.int k) => some k | _ => none)) = true := by kernel_rfl

set_option maxRecDepth 100000 in
theorem fact29 : (Rows.topSnapshotsRow.pinned == Rows.topSnapshotsRow.pinnedBy) = true := by kernel_rfl

set_option maxRecDepth 100000 in
theorem fact30 : (Rows.topSnapshotsRow.veiled == (Tryz.f3.params.toList ++ Rows.topSnapshotsSpec.plain.varTypes Tryz.pinned.checked.prog ++ Tryz.f3.resultTypes.toList).any (Tryz.pinned.checked.prog.veiledRec ·)) = true := by kernel_rfl

set_option maxRecDepth 100000 in
theorem fact31 : (Rows.topSnapshotsRow.veiledFits Tryz.pinned.checked.prog Tryz.f3.params.toList (Tryz.f3.params.toList ++ Rows.topSnapshotsSpec.plain.varTypes Tryz.pinned.checked.prog ++ Tryz.f3.resultTypes.toList)) = true := by kernel_rfl

set_option maxRecDepth 100000 in
theorem closed : joinedFacts Tryz.pinned.checked.prog 3 Tryz.f3 Rows.topSnapshotsSpec Rows.topSnapshotsRow = true := by
  unfold joinedFacts
  exact (and2 (and2 (and2 (and2 (and2 (and2 (and2 (and2 (and2 (and2 (and2 (and2 (and2 (and2 (and2 (and2 (and2 (and2 (and2 (and2 (and2 (and2 (and2 (and2 (and2 (and2 (and2 (and2 (and2 (and2 (and2 fact0 fact1) fact2) fact3) fact4) fact5) fact6) fact7) fact8) fact9) fact10) fact11) fact12) fact13) fact14) fact15) fact16) fact17) fact18) fact19) fact20) fact21) fact22) fact23) fact24) fact25) fact26) fact27) fact28) fact29) fact30) fact31)

theorem over : Rows.topSnapshotsRow.holds Tryz.pinned (OpenSpec.ofChange Rows.topSnapshotsSpec) :=
  OpenClaim.holds_of_wide 3 Tryz.f3 rfl rfl rfl rfl rfl rfl rfl ⟨rfl, rfl, rfl, rfl, rfl⟩ rfl rfl rfl rfl rfl (by kernel_rfl) Tryz.func3 closed
    (of_decide_eq_true (by kernel_rfl)) (by unfold Func.isWrapper; first | (rw [if_pos (by decide +kernel)]; kernel_rfl) | (rw [if_neg (by decide +kernel)]; exact ⟨rfl, rfl⟩))
    (fun os started H enc _ => lifted os started H enc)

theorem proved : Rows.TopSnapshotsSaid :=
  over
#print axioms proved
end Go.Proofs.YtlfkhlfkckfbpaaGreat.topSnapshots
