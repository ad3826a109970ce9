/- A vault that is filled with another's records has its shelf, now and behind a crash, whatever it had; and if they are refused it has what it had; where what is read is of bulk at most 1048576. -/
import Derived.Test.YtbkanoblcojdfaaGreatRows
import Derived.Test.YtbkanoblcojdfaaGreatV44
import Derived.WalkKit
import Derived.ProofKit
import Derived.OpenShut
import Derived.ShutString
import Derived.SizedLaws
import Derived.ChangeOld
import Derived.Below
import Derived.Carry
import Derived.Lib.SmallJoins
import Derived.Deep.CondSized
import Derived.JoinedCond
namespace Go.Proofs.YtbkanoblcojdfaaGreat.vaultFills
open Go.ChangeShapes Go.WideShapes Go.ChangeAt Go.RowKit Go.Joins
open Go.ChangeMaps (open_string shut_string)
set_option linter.unusedVariables false

theorem own : ownKnob Tryz.prog.godebug = none := by kernel_rfl

theorem walk (w : World) (v0 : Value) (L0 : List Tr.RI) (hv0 : Tr.RecsOf w v0 L0) (q0 : L0.length ≤ 1048576) (v1 : Value) (L1 : List Tr.RI) (hv1 : Tr.RecsOf w v1 L1) (q1 : L1.length ≤ 1048576) :
    Calls Tryz.prog 5 #[v0, v1] w fun e w' => e = .returned (.bool true) ∧ Below w.heap.size w w' :=
  Vt.vfills_any w v0 v1 L0 L1 hv0 hv1 (by omega)

theorem bulk_part {H : Type} {d : DataW H} {l : List (DataW H)} (h : d ∈ l) : Rows.uptoBulk d ≤ Rows.uptoBulkAll l := by
  induction l with
  | nil => cases h
  | cons x r ih =>
    simp only [Rows.uptoBulkAll]
    cases List.mem_cons.1 h with
    | inl e => subst e; omega
    | inr e => have := ih e; omega

theorem bulk_string {H : Type} {l : List (DataW H)} (s : ByteArray) (h : DataW.lit (.string s.data.toList) ∈ l) : s.size ≤ Rows.uptoBulkAll l := by
  refine Nat.le_trans ?_ (bulk_part h)
  simp only [Rows.uptoBulk, Array.length_toList]
  exact Nat.le_succ _

theorem bulk_strs {H : Type} : ∀ (L : List ByteArray), (L.flatMap fun s => s.data.toList).length ≤ Rows.uptoBulkAll (strs (H := H) L)
  | [] => Nat.zero_le _
  | s :: r => by
    have ih := bulk_strs (H := H) r
    show ((s.data.toList) ++ r.flatMap fun s => s.data.toList).length ≤ Rows.uptoBulk (DataW.lit (H := H) (.string s.data.toList)) + Rows.uptoBulkAll (strs r)
    rw [List.length_append]
    simp only [Rows.uptoBulk]
    omega

theorem bulk_texts {H : Type} {d : DataW H} {L : List ByteArray} {l : List (DataW H)} (hd : (d = .nil ∧ L = []) ∨ ∃ r, d = .slice (strs L) r) (h : d ∈ l) : (L.flatMap fun s => s.data.toList).length ≤ Rows.uptoBulkAll l := by
  rcases hd with ⟨_, rfl⟩ | ⟨r, rfl⟩
  · exact Nat.zero_le _
  · have h1 := bulk_strs (H := H) L
    have h2 := bulk_part h
    simp only [Rows.uptoBulk] at h2
    omega

set_option maxRecDepth 100000 in
set_option maxHeartbeats 2000000 in
theorem lifted (os : Os) (started : os.Started) (H : Type) (enc : TypeId × Value → H) (Fi : Stop.Interp) :
    ReturnsInHanded {} Tryz.checked os 5 .any ((Rows.OpenSpec.upto Rows.vaultFillsSpec).pre6 enc Tryz.prog Tryz.f5 Rows.vaultFillsUptoRow.domain false) (((Rows.OpenSpec.upto Rows.vaultFillsSpec).at Fi).post enc Tryz.prog Tryz.f5 false true false false) := by
  refine returnsInHanded_of_cond_sized (C := Tryz.checked) (s := (Rows.OpenSpec.upto Rows.vaultFillsSpec)) (k := Rows.uptoSmall) rfl own started (by kernel_rfl) Tryz.func5
    (OpenSpec.witness (enc := enc) (C := Tryz.checked) (s := (Rows.OpenSpec.upto Rows.vaultFillsSpec)) (k := Rows.uptoSmall) rfl false ⟨#[], #[.slice none 0 0, .slice none 0 0], []⟩ 8 (by kernel_rfl) (by kernel_rfl) (by kernel_rfl)
      (x := ([.nil, .nil], [], [])) (by kernel_rfl) rfl (by kernel_rfl)) ?_
  intro W base args ds gs before hval0 hW hcnd hk hsz0 _
  have hval : ∀ (j : Nat) t v, Tryz.f5.params[j]? = some t → args[j]? = some v → Value.okWide Tryz.prog W .any base t v := hval0
  have hW' := hW
  obtain ⟨p, q, hA0, hV, rfl, hfz, hnd⟩ := hW
  have hA : DataW.TrodAll enc Tryz.prog W 0 (fun _ => true) true Tryz.f5.params.toList args.toList ds p := hA0
  have hsz : (DataW.weightsEach Tryz.prog (Tryz.f5.params.toList ++ Rows.vaultFillsSpec.plain.varTypes Tryz.prog) (ds ++ gs)).all (· ≤ reachBytes) = true := hsz0
  rw [Tryz.params5] at hA hval hsz
  obtain ⟨v0, vs0, d0, ds0, p0, q0, hargs, rfl, rfl, h0, rr0⟩ := trodAll_cons hA
  obtain ⟨v1, vs1, d1, ds1, p1, q1, rfl, rfl, rfl, h1, rr1⟩ := trodAll_cons rr0
  obtain ⟨rfl, rfl, rfl⟩ := trodAll_nil rr1
  obtain rfl : args = #[v0, v1] := by cases args; simp_all
  obtain ⟨rfl, rfl⟩ := trodVars_none hV
  clear hA0 hval0
  simp only [List.append_nil] at hW' hk
  have hkb : Rows.uptoBulkAll _ ≤ 1048576 := of_decide_eq_true hk
  have hlt : ∀ x ∈ p0 ++ (p1 ++ []), x.block < W.heap.size := fun x hx => by simpa using hW'.lt x (by simpa using hx)
  have hl0 : ∀ x ∈ p0, x.block < W.heap.size := fun x hx => hlt x (by simp [hx])
  have k0 : ∀ W', Below W.heap.size W W' → DataW.Trod enc Tryz.prog W' 0 (fun b => decide (b < W.heap.size)) true 22 v0 d0 p0 := fun W' hb => Below.trod (by kernel_rfl) (by kernel_rfl) (of_decide_eq_true (by kernel_rfl)) h0 hb hl0
  have hl1 : ∀ x ∈ p1, x.block < W.heap.size := fun x hx => hlt x (by simp [hx])
  have k1 : ∀ W', Below W.heap.size W W' → DataW.Trod enc Tryz.prog W' 0 (fun b => decide (b < W.heap.size)) true 22 v1 d1 p1 := fun W' hb => Below.trod (by kernel_rfl) (by kernel_rfl) (of_decide_eq_true (by kernel_rfl)) h1 hb hl1
  obtain ⟨L0, hv0⟩ := Tr.open_recs hsz (j := 0) rfl rfl (hval 0 22 v0 rfl rfl) h0 hl0
  have q0 : L0.length ≤ 1048576 := Vt.few_of hv0 h0 (Nat.le_trans (bulk_part (by simp)) hkb)
  obtain ⟨L1, hv1⟩ := Tr.open_recs hsz (j := 1) rfl rfl (hval 1 22 v1 rfl rfl) h1 hl1
  have q1 : L1.length ≤ 1048576 := Vt.few_of hv1 h1 (Nat.le_trans (bulk_part (by simp)) hkb)
  refine (walk W v0 L0 hv0 q0 v1 L1 hv1 q1).mono fun e W' ⟨he, bel⟩ => ?_
  subst he
  exact ⟨_, rfl, _, _, _, [], _, [], hW', (trodAll_cons_mk (shut_bool Tryz.underlying4 _) trodAll_mk0), (trodAll_cons_mk (k0 W' bel) (trodAll_cons_mk (k1 W' bel) trodAll_mk0)), rfl, bel.frame _, fun h => by cases h⟩

theorem and2 {a b : Bool} (h : a = true) (k : b = true) : (a && b) = true := by rw [h, k]; rfl

set_option maxRecDepth 100000 in
theorem fact0 : (Rows.vaultFillsUptoRow.wf (OpenSpec.ofChange Rows.vaultFillsSpec)) = true := by kernel_rfl

set_option maxRecDepth 100000 in
theorem fact1 : (laidOutB Tryz.pinned.checked.prog) = true := by kernel_rfl

set_option maxRecDepth 100000 in
theorem fact2 : (mapsRowed Tryz.pinned.checked.prog) = true := by kernel_rfl

set_option maxRecDepth 100000 in
theorem fact3 : (Tryz.f5.params.all (Tryz.pinned.checked.prog.readableRec ·)) = true := by kernel_rfl

set_option maxRecDepth 100000 in
theorem fact4 : (namedTie Tryz.pinned.checked.prog Rows.vaultFillsUptoRow.named Rows.vaultFillsSpec.vars) = true := by kernel_rfl

set_option maxRecDepth 100000 in
theorem fact5 : (Rows.vaultFillsUptoRow.stops == []) = true := by kernel_rfl

set_option maxRecDepth 100000 in
theorem fact6 : (Tryz.pinned.checked.prog.stops == []) = true := by kernel_rfl

set_option maxRecDepth 100000 in
theorem fact7 : (Rows.vaultFillsUptoRow.knobs == []) = true := by kernel_rfl

set_option maxRecDepth 100000 in
theorem fact8 : (Tryz.pinned.checked.prog.stopKnobs == []) = true := by kernel_rfl

set_option maxRecDepth 100000 in
theorem fact9 : (Rows.vaultFillsUptoRow.inPlace == Tryz.pinned.checked.prog.inPlace 5) = true := by kernel_rfl

set_option maxRecDepth 100000 in
theorem fact10 : (Rows.vaultFillsUptoRow.unfollowed == Tryz.pinned.checked.prog.unfollowed 5) = true := by kernel_rfl

set_option maxRecDepth 100000 in
theorem fact11 : (Rows.vaultFillsUptoRow.recurses == Tryz.pinned.checked.prog.recurses 5) = true := by kernel_rfl

set_option maxRecDepth 100000 in
theorem fact12 : (Rows.vaultFillsUptoRow.named == Tryz.pinned.checked.prog.varsNamed 5) = true := by kernel_rfl

set_option maxRecDepth 100000 in
theorem fact13 : (Rows.vaultFillsUptoRow.maps == (Tryz.f5.params.toList ++ Rows.vaultFillsSpec.plain.varTypes Tryz.pinned.checked.prog).any (Tryz.pinned.checked.prog.mapsRec ·)) = true := by kernel_rfl

set_option maxRecDepth 100000 in
theorem fact14 : (Rows.vaultFillsUptoRow.ifaces == (Tryz.f5.params.toList ++ Rows.vaultFillsSpec.plain.varTypes Tryz.pinned.checked.prog).any (Tryz.pinned.checked.prog.ifacesRec ·)) = true := by kernel_rfl

set_option maxRecDepth 100000 in
theorem fact15 : (Rows.vaultFillsUptoRow.mapsOut == Tryz.pinned.checked.prog.mapsAmong Tryz.f5.resultTypes.toList) = true := by kernel_rfl

set_option maxRecDepth 100000 in
theorem fact16 : (Rows.vaultFillsUptoRow.loops == (Tryz.f5.params.toList ++ Rows.vaultFillsSpec.plain.varTypes Tryz.pinned.checked.prog).any (Tryz.pinned.checked.prog.loopsFrom ·)) = true := by kernel_rfl

set_option maxRecDepth 100000 in
theorem fact17 : (Rows.vaultFillsUptoRow.wideKeys == (Tryz.f5.params.toList ++ Rows.vaultFillsSpec.plain.varTypes Tryz.pinned.checked.prog ++ Tryz.f5.resultTypes.toList).any (Tryz.pinned.checked.prog.wideKeysFrom ·)) = true := by kernel_rfl

set_option maxRecDepth 100000 in
theorem fact18 : (Rows.vaultFillsSpec.vars.all (Tryz.pinned.checked.prog.varReadable ·)) = true := by kernel_rfl

set_option maxRecDepth 100000 in
theorem fact19 : (Tryz.f5.resultTypes.all (fun t => Tryz.pinned.checked.prog.readableRec t && decide (t < Tryz.pinned.checked.prog.types.size))) = true := by kernel_rfl

set_option maxRecDepth 100000 in
theorem fact20 : (Rows.vaultFillsUptoRow.ifacesOut == Tryz.f5.resultTypes.toList.any (Tryz.pinned.checked.prog.ifacesRec ·)) = true := by kernel_rfl

set_option maxRecDepth 100000 in
theorem fact21 : (Rows.vaultFillsUptoRow.loopsOut == Tryz.f5.resultTypes.toList.any (Tryz.pinned.checked.prog.loopsFrom ·)) = true := by kernel_rfl

set_option maxRecDepth 100000 in
theorem fact22 : (Rows.vaultFillsUptoRow.plainKeys == Tryz.pinned.checked.prog.plainKeys) = true := by kernel_rfl

set_option maxRecDepth 100000 in
theorem fact23 : (Rows.vaultFillsUptoRow.shortTexts.isNone) = true := by kernel_rfl

set_option maxRecDepth 100000 in
theorem fact24 : (Tryz.pinned.checked.prog.stopsHeard) = true := by kernel_rfl

set_option maxRecDepth 100000 in
theorem fact25 : (Tryz.pinned.checked.prog.mayEnter) = true := by kernel_rfl

set_option maxRecDepth 100000 in
theorem fact26 : (Rows.vaultFillsUptoRow.lifted == Tryz.pinned.checked.prog.liftsFinal) = true := by kernel_rfl

set_option maxRecDepth 100000 in
theorem fact27 : (Tryz.pinned.checked.prog.make == some Rows.vaultFillsUptoRow.make) = true := by kernel_rfl

set_option maxRecDepth 100000 in
theorem fact28 : (Rows.vaultFillsUptoRow.kinds == (if Rows.vaultFillsUptoRow.domain.isEmpty then [] else Tryz.f5.params.toList.map fun t => match Tryz.pinned.checked.prog.underlying t with | some (.int k) => some k | _ => none)) = true := by kernel_rfl

set_option maxRecDepth 100000 in
theorem fact29 : (Rows.vaultFillsUptoRow.pinned == Rows.vaultFillsUptoRow.pinnedBy) = true := by kernel_rfl

set_option maxRecDepth 100000 in
theorem fact30 : (Rows.vaultFillsUptoRow.veiled == (Tryz.f5.params.toList ++ Rows.vaultFillsSpec.plain.varTypes Tryz.pinned.checked.prog ++ Tryz.f5.resultTypes.toList).any (Tryz.pinned.checked.prog.veiledRec ·)) = true := by kernel_rfl

set_option maxRecDepth 100000 in
theorem fact31 : (Rows.vaultFillsUptoRow.veiledFits Tryz.pinned.checked.prog Tryz.f5.params.toList (Tryz.f5.params.toList ++ Rows.vaultFillsSpec.plain.varTypes Tryz.pinned.checked.prog ++ Tryz.f5.resultTypes.toList)) = true := by kernel_rfl

set_option maxRecDepth 100000 in
theorem closed : joinedFacts Tryz.pinned.checked.prog 5 Tryz.f5 Rows.vaultFillsSpec Rows.vaultFillsUptoRow = true := by
  unfold joinedFacts
  exact (and2 (and2 (and2 (and2 (and2 (and2 (and2 (and2 (and2 (and2 (and2 (and2 (and2 (and2 (and2 (and2 (and2 (and2 (and2 (and2 (and2 (and2 (and2 (and2 (and2 (and2 (and2 (and2 (and2 (and2 (and2 fact0 fact1) fact2) fact3) fact4) fact5) fact6) fact7) fact8) fact9) fact10) fact11) fact12) fact13) fact14) fact15) fact16) fact17) fact18) fact19) fact20) fact21) fact22) fact23) fact24) fact25) fact26) fact27) fact28) fact29) fact30) fact31)

theorem over : Rows.vaultFillsUptoRow.holds Tryz.pinned (Rows.OpenSpec.upto Rows.vaultFillsSpec) :=
  OpenClaim.holds_of_cond 5 Tryz.f5 rfl rfl rfl rfl rfl rfl rfl ⟨rfl, rfl, rfl, rfl, rfl⟩ rfl rfl rfl rfl rfl (by kernel_rfl) Tryz.func5 closed
    (of_decide_eq_true (by kernel_rfl)) (by unfold Func.isWrapper; first | (rw [if_pos (by decide +kernel)]; kernel_rfl) | (rw [if_neg (by decide +kernel)]; exact ⟨rfl, rfl⟩))
    (fun os started H enc _ Fi => lifted os started H enc Fi)

theorem proved : Rows.VaultFillsUptoSaid :=
  over
#print axioms proved
end Go.Proofs.YtbkanoblcojdfaaGreat.vaultFills
