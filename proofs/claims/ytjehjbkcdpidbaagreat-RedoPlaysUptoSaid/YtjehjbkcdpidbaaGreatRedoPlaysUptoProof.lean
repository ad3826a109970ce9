/- A log on a device answers, whatever happens to both, as the one of the document, and leaves the same sectors. Conditions: the readings' bulk is at most the bound of the statement. -/
import Derived.Test.YtjehjbkcdpidbaaGreatRows
import Derived.Test.YtjehjbkcdpidbaaGreatRlFinP
import Derived.WalkKit
import Derived.ProofKit
import Derived.OpenShut
import Derived.ShutString
import Derived.SizedLaws
import Derived.ChangeOld
import Derived.Below
import Derived.Carry
import Derived.Lib.SmallJoins
import Derived.Deep.CondSized
import Derived.JoinedCond
namespace Go.Proofs.YtjehjbkcdpidbaaGreat.redoPlays
open Go.ChangeShapes Go.WideShapes Go.ChangeAt Go.RowKit Go.Joins
open Go.ChangeMaps (open_string shut_string)
set_option linter.unusedVariables false

theorem own : ownKnob Tryz.prog.godebug = none := by kernel_rfl

theorem walk (w : World) (a0 : Int) (c0 : -9223372036854775808 ≤ a0 ∧ a0 ≤ 9223372036854775807) (v1 : Value) (L1 : List Rd.RAct) (hv1 : Rd.RActsOf w v1 L1) :
    Calls Tryz.prog 3 #[.int .i64 a0, v1] w fun e w' => e = .returned (.bool true) ∧ Below w.heap.size w w' :=
  Rd.rplays_walk Sc.devBase Rd.logAll a0 c0 v1 L1 w hv1

theorem bulk_part {H : Type} {d : DataW H} {l : List (DataW H)} (h : d ∈ l) : Rows.uptoBulk d ≤ Rows.uptoBulkAll l := by
  induction l with
  | nil => cases h
  | cons x r ih =>
    simp only [Rows.uptoBulkAll]
    cases List.mem_cons.1 h with
    | inl e => subst e; omega
    | inr e => have := ih e; omega

theorem bulk_string {H : Type} {l : List (DataW H)} (s : ByteArray) (h : DataW.lit (.string s.data.toList) ∈ l) : s.size ≤ Rows.uptoBulkAll l := by
  refine Nat.le_trans ?_ (bulk_part h)
  simp only [Rows.uptoBulk, Array.length_toList]
  exact Nat.le_succ _

theorem bulk_strs {H : Type} : ∀ (L : List ByteArray), (L.flatMap fun s => s.data.toList).length ≤ Rows.uptoBulkAll (strs (H := H) L)
  | [] => Nat.zero_le _
  | s :: r => by
    have ih := bulk_strs (H := H) r
    show ((s.data.toList) ++ r.flatMap fun s => s.data.toList).length ≤ Rows.uptoBulk (DataW.lit (H := H) (.string s.data.toList)) + Rows.uptoBulkAll (strs r)
    rw [List.length_append]
    simp only [Rows.uptoBulk]
    omega

theorem bulk_texts {H : Type} {d : DataW H} {L : List ByteArray} {l : List (DataW H)} (hd : (d = .nil ∧ L = []) ∨ ∃ r, d = .slice (strs L) r) (h : d ∈ l) : (L.flatMap fun s => s.data.toList).length ≤ Rows.uptoBulkAll l := by
  rcases hd with ⟨_, rfl⟩ | ⟨r, rfl⟩
  · exact Nat.zero_le _
  · have h1 := bulk_strs (H := H) L
    have h2 := bulk_part h
    simp only [Rows.uptoBulk] at h2
    omega

set_option maxRecDepth 100000 in
set_option maxHeartbeats 2000000 in
theorem lifted (os : Os) (started : os.Started) (H : Type) (enc : TypeId × Value → H) (Fi : Stop.Interp) :
    ReturnsInHanded {} Tryz.checked os 3 .any ((Rows.OpenSpec.upto Rows.redoPlaysSpec).pre6 enc Tryz.prog Tryz.f3 Rows.redoPlaysUptoRow.domain false) (((Rows.OpenSpec.upto Rows.redoPlaysSpec).at Fi).post enc Tryz.prog Tryz.f3 false true false false) := by
  refine returnsInHanded_of_cond_sized (C := Tryz.checked) (s := (Rows.OpenSpec.upto Rows.redoPlaysSpec)) (k := Rows.uptoSmall) rfl own started (by kernel_rfl) Tryz.func3
    (OpenSpec.witness (enc := enc) (C := Tryz.checked) (s := (Rows.OpenSpec.upto Rows.redoPlaysSpec)) (k := Rows.uptoSmall) rfl false ⟨#[], #[.int .i64 0, .slice none 0 0], []⟩ 8 (by kernel_rfl) (by kernel_rfl) (by kernel_rfl)
      (x := ([.lit (.int .i64 0), .nil], [], [])) (by kernel_rfl) rfl (by kernel_rfl)) ?_
  intro W base args ds gs before hval0 hW hcnd hk hsz0 _
  have hval : ∀ (j : Nat) t v, Tryz.f3.params[j]? = some t → args[j]? = some v → Value.okWide Tryz.prog W .any base t v := hval0
  have hW' := hW
  obtain ⟨p, q, hA0, hV, rfl, hfz, hnd⟩ := hW
  have hA : DataW.TrodAll enc Tryz.prog W 0 (fun _ => true) true Tryz.f3.params.toList args.toList ds p := hA0
  have hsz : (DataW.weightsEach Tryz.prog (Tryz.f3.params.toList ++ Rows.redoPlaysSpec.plain.varTypes Tryz.prog) (ds ++ gs)).all (· ≤ reachBytes) = true := hsz0
  rw [Tryz.params3] at hA hval hsz
  obtain ⟨v0, vs0, d0, ds0, p0, q0, hargs, rfl, rfl, h0, rr0⟩ := trodAll_cons hA
  obtain ⟨v1, vs1, d1, ds1, p1, q1, rfl, rfl, rfl, h1, rr1⟩ := trodAll_cons rr0
  obtain ⟨rfl, rfl, rfl⟩ := trodAll_nil rr1
  obtain rfl : args = #[v0, v1] := by cases args; simp_all
  obtain ⟨rfl, rfl⟩ := trodVars_none hV
  clear hA0 hval0
  simp only [List.append_nil] at hW' hk
  have hkb : Rows.uptoBulkAll _ ≤ 1048576 := of_decide_eq_true hk
  have hlt : ∀ x ∈ p0 ++ (p1 ++ []), x.block < W.heap.size := fun x hx => by simpa using hW'.lt x (by simpa using hx)
  have hl0 : ∀ x ∈ p0, x.block < W.heap.size := fun x hx => hlt x (by simp [hx])
  have k0 : ∀ W', Below W.heap.size W W' → DataW.Trod enc Tryz.prog W' 0 (fun b => decide (b < W.heap.size)) true 3 v0 d0 p0 := fun W' hb => Below.trod (by kernel_rfl) (by kernel_rfl) (of_decide_eq_true (by kernel_rfl)) h0 hb hl0
  have hl1 : ∀ x ∈ p1, x.block < W.heap.size := fun x hx => hlt x (by simp [hx])
  have k1 : ∀ W', Below W.heap.size W W' → DataW.Trod enc Tryz.prog W' 0 (fun b => decide (b < W.heap.size)) true 22 v1 d1 p1 := fun W' hb => Below.trod (by kernel_rfl) (by kernel_rfl) (of_decide_eq_true (by kernel_rfl)) h1 hb hl1
  obtain ⟨a0, rfl, rfl, rfl, w0⟩ := open_int Tryz.underlying3 (hval 0 3 v0 rfl rfl) h0
  have c0 : -9223372036854775808 ≤ a0 ∧ a0 ≤ 9223372036854775807 := show IntKind.i64.min ≤ a0 ∧ a0 ≤ 9223372036854775807 by simpa [Lit.wf] using w0
  obtain ⟨L1, hv1⟩ := Rd.open_racts hsz (j := 1) rfl rfl (hval 1 22 v1 rfl rfl) h1 hl1 (Nat.le_trans (bulk_part (by simp)) hkb)
  refine (walk W a0 c0 v1 L1 hv1).mono fun e W' ⟨he, bel⟩ => ?_
  subst he
  exact ⟨_, rfl, _, _, _, [], _, [], hW', (trodAll_cons_mk (shut_bool Tryz.underlying4 _) trodAll_mk0), (trodAll_cons_mk (k0 W' bel) (trodAll_cons_mk (k1 W' bel) trodAll_mk0)), rfl, bel.frame _, fun h => by cases h⟩

theorem over : Rows.redoPlaysUptoRow.holds Tryz.pinned (Rows.OpenSpec.upto Rows.redoPlaysSpec) :=
  OpenClaim.holds_of_cond 3 Tryz.f3 rfl rfl rfl rfl rfl rfl rfl ⟨rfl, rfl, rfl, rfl, rfl⟩ rfl rfl rfl rfl rfl (by kernel_rfl) Tryz.func3 (by kernel_rfl)
    (of_decide_eq_true (by kernel_rfl)) (by unfold Func.isWrapper; first | (rw [if_pos (by decide +kernel)]; kernel_rfl) | (rw [if_neg (by decide +kernel)]; exact ⟨rfl, rfl⟩))
    (fun os started H enc _ Fi => lifted os started H enc Fi)

theorem proved : Rows.RedoPlaysUptoSaid :=
  over
#print axioms proved
end Go.Proofs.YtjehjbkcdpidbaaGreat.redoPlays
