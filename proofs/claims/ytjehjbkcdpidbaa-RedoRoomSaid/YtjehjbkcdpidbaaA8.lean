/- Parts of the proof, joined: BkOpen, ScInts, RdFresh, RdRestarts, RdRoomW; their conditions stand with each. -/
import Derived.WalkKit
import Derived.ProofKit
import Derived.SizedLaws
import Derived.ChangeSlices
import Derived.SliceStrings
import Derived.Carry
import Derived.Lib.SmallJoins
import Derived.Deep.SlicePairs
import Derived.Test.YtjehjbkcdpidbaaA3
import Derived.Test.YtjehjbkcdpidbaaA7

/- Fields of a struct that comes as an argument: a row of numbers, a row of texts: what its reading says. -/
namespace Go.Proofs.Ytjehjbkcdpidbaa
namespace Bk
open Go.ChangeShapes Go.WideShapes Go.ChangeAt Go.RowKit Go.Joins

section
variable {H : Type} {enc : TypeId × Value → H} {W : World}

set_option maxRecDepth 20000 in
theorem field_ints {t e : TypeId} {v : Value} {fuel : Nat} {y : DataW H × List MemPlace} (ht : Try.prog.underlying t = some (.slice e)) (he : Try.prog.underlying e = some (.int .i64)) (hc : Try.prog.cellsOf e = 1) (hb8 : Try.prog.bytesOf e = 8)
    (hf : DataW.trod enc Try.prog W 0 (fun _ => true) true fuel t [v] = some y) (hwt : ∀ k ∈ y.1.weights Try.prog t, k ≤ reachBytes) (hl : ∀ x ∈ y.2, x.block < W.heap.size) :
    ∃ (A : Option Addr) (c : Nat) (L : List Int), v = .slice A L.length c ∧ IntsAt W A L ∧ L.length * 8 ≤ reachBytes ∧ L.length ≤ c ∧ c ≤ maxLen ∧ (∀ n ∈ L, -9223372036854775808 ≤ n ∧ n ≤ 9223372036854775807) ∧ (A = none → L = [] ∧ c = 0) := by
  rcases open_ints ht he hc hf with ⟨hcs, hx⟩ | ⟨a, len, cap, zs, hcs, _, hl', hm, hz, hx, hcell, hwz⟩
  · obtain rfl : v = .slice none 0 0 := by simpa using hcs
    exact ⟨none, 0, [], rfl, fun h => absurd h (by simp), by simp, by simp, Nat.zero_le _, by simp, fun _ => ⟨rfl, rfl⟩⟩
  · obtain rfl : v = .slice (some a) len cap := by simpa using hcs
    subst hx
    simp only [if_true] at hz
    have hlen : (zs.take len).length = len := by rw [List.length_take]; omega
    have hs := hwt (((lits (H := H) .i64 (zs.take len)).length + (lits (H := H) .i64 (zs.drop len)).length) * Try.prog.bytesOf e) (by simp [DataW.weights, ht])
    rw [hb8] at hs
    have hs2 : (zs.take len).length * 8 ≤ reachBytes := by
      refine Nat.le_trans (Nat.mul_le_mul_right 8 ?_) hs
      simp only [lits, List.length_map]
      omega
    refine ⟨some a, cap, zs.take len, by rw [hlen], fun hpos => ⟨a, rfl, ?_, fun i hi => ?_⟩, hs2, by rw [hlen]; exact hl', hm, fun n hn => ?_, fun h => by cases h⟩
    · obtain ⟨b, off, spot⟩ := a
      exact hl (.cell b off) (MemPlace.mem_row.2 ⟨0, by omega, by simp⟩)
    · have h1 := hcell i (by omega)
      rw [h1]
      congr 2
      rw [List.getElem_take, List.getD_eq_getElem?_getD, List.getElem?_eq_getElem (by omega), Option.getD_some]
    · have := hwz n (List.mem_of_mem_take hn)
      exact show IntKind.i64.min ≤ n ∧ n ≤ 9223372036854775807 by simpa [Lit.wf] using this

set_option maxRecDepth 20000 in
theorem field_texts {t e : TypeId} {v : Value} {fuel : Nat} {y : DataW H × List MemPlace} (ht : Try.prog.underlying t = some (.slice e)) (he : Try.prog.underlying e = some .string) (hc : Try.prog.cellsOf e = 1) (hb16 : Try.prog.bytesOf e = 16)
    (hf : DataW.trod enc Try.prog W 0 (fun _ => true) true fuel t [v] = some y) (hwt : ∀ k ∈ y.1.weights Try.prog t, k ≤ reachBytes) (hl : ∀ x ∈ y.2, x.block < W.heap.size) :
    ∃ (A : Option Addr) (c : Nat) (L : List ByteArray), v = .slice A L.length c ∧ StrsAt W A L ∧ L.length * 16 ≤ reachBytes ∧ L.length ≤ c ∧ c ≤ maxLen ∧ (∀ s ∈ L, s.size ≤ reachBytes) ∧ (A = none → L = [] ∧ c = 0) := by
  rcases open_strings ht he hc hf with ⟨hcs, hx⟩ | ⟨a, len, cap, zs, hcs, _, hl', hm, hz, hx, hcell, hwz⟩
  · obtain rfl : v = .slice none 0 0 := by simpa using hcs
    exact ⟨none, 0, [], rfl, fun h => absurd h (by simp), by simp, by simp, Nat.zero_le _, by simp, fun _ => ⟨rfl, rfl⟩⟩
  · obtain rfl : v = .slice (some a) len cap := by simpa using hcs
    subst hx
    simp only [if_true] at hz
    have hlen : (zs.take len).length = len := by rw [List.length_take]; omega
    have hs := hwt (((strs (H := H) (zs.take len)).length + (strs (H := H) (zs.drop len)).length) * Try.prog.bytesOf e) (by simp [DataW.weights, ht])
    rw [hb16] at hs
    have hs2 : (zs.take len).length * 16 ≤ reachBytes := by
      refine Nat.le_trans (Nat.mul_le_mul_right 16 ?_) hs
      simp only [strs, List.length_map]
      omega
    refine ⟨some a, cap, zs.take len, by rw [hlen], fun hpos => ⟨a, rfl, ?_, fun i hi => ?_⟩, hs2, by rw [hlen]; exact hl', hm, fun s hs' => ?_, fun h => by cases h⟩
    · obtain ⟨b, off, spot⟩ := a
      exact hl (.cell b off) (MemPlace.mem_row.2 ⟨0, by omega, by simp⟩)
    · have h1 := hcell i (by omega)
      rw [h1]
      congr 2
      rw [List.getElem_take, List.getD_eq_getElem?_getD, List.getElem?_eq_getElem (by omega), Option.getD_some]
    · exact hwt s.size (by
        simp only [DataW.weights, ht, List.mem_cons, List.mem_append]
        exact .inr (.inl (weights_strs _ _ _ _ hs')))

/-- what an argument's reading holds is within the reach -/
theorem arg_weights {ts : List TypeId} {ds : List (DataW H)} {j : Nat} {t : TypeId} {d : DataW H} (hsz : (DataW.weightsEach Try.prog ts ds).all (· ≤ reachBytes) = true) (hj : ts[j]? = some t) (hd : ds[j]? = some d) : ∀ k ∈ d.weights Try.prog t, k ≤ reachBytes := fun k hk => by
  have h1 := List.all_eq_true.1 hsz _ (DataW.weights_mem_each hj hd k hk)
  simpa using h1

theorem agg2_weights {t : TypeId} {f0 f1 : Field} (hs : Try.prog.underlying t = some (.struct #[f0, f1])) (d0 d1 : DataW H) : (DataW.agg [d0, d1]).weights Try.prog t = d0.weights Try.prog f0.type ++ (d1.weights Try.prog f1.type ++ []) := by
  simp only [DataW.weights, hs]
  rfl

end

end Bk
end Go.Proofs.Ytjehjbkcdpidbaa

/- A slice of numbers as an argument: what its reading says. -/
namespace Go.Proofs.Ytjehjbkcdpidbaa
namespace Sc
open Go.ChangeShapes Go.WideShapes Go.ChangeAt Go.RowKit Go.Joins Go.Deep Bk

/-- the value is a slice of these numbers -/
def IntsOf (w : World) (v : Value) (l : List Int) : Prop :=
  ∃ (A : Option Addr) (c : Nat), v = .slice A l.length c ∧ IntsAt w A l ∧ l.length * 8 ≤ reachBytes ∧ ∀ n ∈ l, -9223372036854775808 ≤ n ∧ n ≤ 9223372036854775807

section
variable {H : Type} {enc : TypeId × Value → H} {W : World}

set_option maxRecDepth 20000 in
theorem open_intsOf {base : Nat} {v : Value} {d : DataW H} {p : List MemPlace} {ts : List TypeId} {ds : List (DataW H)} {j : Nat}
    (hsz : (DataW.weightsEach Try.prog ts ds).all (· ≤ reachBytes) = true) (hj : ts[j]? = some 22) (hd : ds[j]? = some d)
    (hv : Value.okWide Try.prog W .any base 22 v) (h : DataW.Trod enc Try.prog W 0 (fun _ => true) true 22 v d p) (hl : ∀ x ∈ p, x.block < W.heap.size) : ∃ l, IntsOf W v l := by
  obtain ⟨a0, len, cap, rfl⟩ := okWide_slice Try.underlying22 hv
  obtain ⟨fuel, hf⟩ := h
  obtain ⟨A, c, L, e, q1, q2, _, _, q5, _⟩ := field_ints Try.underlying22 Try.underlying3 (by kernel_rfl) (by kernel_rfl) hf (arg_weights hsz hj hd) hl
  exact ⟨L, A, c, e, q1, q2, q5⟩

end

end Sc
end Go.Proofs.Ytjehjbkcdpidbaa

/- A new device whose first opening is cut off opens as a log without texts: the law's walk, over what is asked; no condition but the range. -/
namespace Go.Proofs.Ytjehjbkcdpidbaa
namespace Rd
open Go.RowKit Sc Bk

attribute [local go_sem ↓] Go.wp_at_zero Go.wp_at_succ
attribute [local go_sem] floatUpon pick

variable {Rep : RepT} {LRep : LRepT}

def tX : ByteArray := ⟨#[120]⟩

/-- old numbers stay -/
theorem ints_fr {W W' : World} {F F' : Nat → Prop} {A : Option Addr} {ps : List Int} (h : IntsAt W A ps) (hf : Fr F F' W W') (hn : ∀ x, A = some x → ¬ F x.block) : IntsAt W' A ps := fun hp => by
  obtain ⟨ad, e, hl, hc⟩ := h hp
  refine ⟨ad, e, Nat.lt_of_lt_of_le hl hf.size, fun i hi => ?_⟩
  have hkp := hf.block ad.block hl (hn ad e)
  rw [← st_block ad i] at hkp
  refine Eq.trans ?_ (hc i hi)
  unfold World.cell?
  rw [hkp]

set_option maxRecDepth 20000 in
set_option maxHeartbeats 4000000 in
theorem fresh_walk (HB : DevBase Rep) (HL : LogAll Rep LRep) (a0 : Int) (v1 : Value) (ps : List Int) (w : World) (hv : IntsOf w v1 ps) :
    Calls Try.prog 3 #[.int .i64 a0, v1] w fun e w' => e = .returned (.bool true) ∧ Below w.heap.size w w' := by
  have HD := devF_of HB
  obtain ⟨A, c, rfl, hps, hlen, hrng⟩ := hv
  have HPs := Lib.hid (And.intro hps (And.intro hlen hrng))
  obtain ⟨m, hm⟩ : ∃ m, m = 1 + amongV a0 4 := ⟨_, rfl⟩
  have ham := amongV_lt a0 4 (by omega)
  have hfu : fuD (new0 12) (m : Int) = (⟨(new0 12).on, (new0 12).new, m, false⟩, 0) := fuse_up rfl (by omega)
  obtain ⟨D2, ho2, i2, k2, n2, in2⟩ := fused_open (n := 12) (m := m) (by omega) (by omega) (by omega) ps
  have ha3 : appendP D2 ⟨1, 0, [], [], 0⟩ tX = (⟨1, 0, [], [tX], 0⟩, 0) := app_fits (by decide) (by unfold roomN areaN; rw [n2]; decide)
  have in3 := app_in k2 in2 tX
  rw [ha3] at in3
  obtain ⟨D4, hs4, i4, c4, k4, n4, in4⟩ := sync_idle i2 k2 in3 (by decide) (by decide)
  have H1 := Lib.hid (And.intro hfu (And.intro ho2 (And.intro ha3 hs4)))
  have H2 := Lib.hid (And.intro in2 (And.intro in3 in4))
  have H3 := Lib.hid (And.intro i2.2 i4.2)
  have HW := Lib.hid (fun W => works_any HB HL W)
  have HAm := Lib.hid (fun W => among_any a0 4 W (by omega) (by omega))
  have hsum : (1 : Int) + (amongV a0 4 : Int) = (m : Int) := by omega
  have hm8 : (m : Int) ≤ 8 := by omega
  have hwr : IntKind.i64.wrap (m : Int) = (m : Int) := i64_wrap (by omega) (by omega)
  clear hps hlen hrng hfu ho2 ha3 hs4 in2 in3 in4 i2 k2 n2 i4 c4 k4 n4 hm
  go_enter Try.func3, Try.ntmps3
  go_wp2_with fail
  refine (HB.new 12 w ⟨by omega, by omega⟩).mono ?_
  rintro e w1 (⟨_, _, F1, g, rfl, hr1, hF1, hb1⟩ | ⟨hno, _, _⟩)
  case inr => exact absurd ⟨by omega, by omega⟩ hno
  have O1 : Hid (OneS Rep LRep w w1 F1 g (new0 12) none) := Lib.hid ⟨hr1, hF1, hb1⟩
  clear hr1 hF1 hb1
  go_wp2_with fail
  refine (HW.out _).mono ?_
  rintro e w2 ⟨rfl, hb⟩
  have O2 := Lib.hid (O1.out.step HD HL.log hb)
  clear hb O1
  go_wp2_with fail
  refine (HAm.out _).mono ?_
  rintro e w3 ⟨rfl, rfl⟩
  go_wp2_with fail
  refine (O2.out.s.fuse HD HL.log (m : Int) ⟨by omega, by omega⟩).mono ?_
  rintro e w4 ⟨rfl, F4, hs4, hf4⟩
  rw [H1.out.1] at hs4 ⊢
  have O4 := Lib.hid (O2.out.act hs4 hf4)
  clear hs4 hf4 O2
  go_wp2_with fail
  refine (O4.out.s.opn HL.log).mono ?_
  rintro e w5 ⟨o5, rfl, ho5, F5, hs5, hf5⟩
  have O5 := Lib.hid (O4.out.act hs5 hf5)
  clear ho5 hs5 hf5 O4
  generalize ptrV o5 = pv5
  generalize (openP ⟨(new0 12).on, (new0 12).new, m, false⟩).2.2 = e5
  go_wp2_with fail
  have hpA : ∀ x, A = some x → 0 < ps.length → x.block < w.heap.size := fun x hx hp => by
    obtain ⟨ad, e, hl, _⟩ := HPs.out.1 hp
    rw [hx] at e; cases e; exact hl
  refine (O5.out.s.crash HD A c ps (HPs.out.1.below O5.out.bel) (fun hp x hx hf => by have := hpA x hx hp; have := O5.out.bF _ hf; omega) HPs.out.2.1 HPs.out.2.2).mono ?_
  rintro e w6 ⟨rfl, F6, hs6, hf6⟩
  have O6 := Lib.hid (O5.out.act hs6 hf6)
  clear hs6 hf6 O5 hpA
  go_wp2_with fail
  refine (O6.out.s.opn HL.log).mono ?_
  rintro e w7 ⟨o7, rfl, ho7, F7, hs7, hf7⟩
  rw [H1.out.2.1] at ho7 hs7 ⊢
  obtain ⟨q, rfl⟩ := op_some ho7
  have O7 := Lib.hid (O6.out.act hs7 hf7)
  clear ho7 hs7 hf7 O6
  unfold ptrV
  go_wp2_with fail
  refine (O7.out.s.texts HL H2.out.1 H3.out.1).mono ?_
  rintro e w8 ⟨v, F8, rfl, hrow, hno, hs8, hf8⟩
  have O8 := Lib.hid (O7.out.act hs8 hf8)
  obtain ⟨B, cB, rfl, hst⟩ := strs_of_own2 hrow rfl
  have hlen : ((⟨1, 0, [], [], 0⟩ : Lg).ts).length = 0 := rfl
  rw [hlen]
  clear hrow hno hs8 hf8 O7 hst hlen
  go_wp2_with fail
  refine (O8.out.s.app HL.log H2.out.1 H3.out.1 tX (by decide)).mono ?_
  rintro e w9 ⟨rfl, F9, hs9, hf9⟩
  rw [H1.out.2.2.1] at hs9 ⊢
  have O9 := Lib.hid (O8.out.act hs9 hf9)
  clear hs9 hf9 O8
  go_wp2_with fail
  refine (O9.out.s.syn HL.log H2.out.2.1 H3.out.1).mono ?_
  rintro e w10 ⟨rfl, F10, hs10, hf10⟩
  rw [H1.out.2.2.2] at hs10 ⊢
  have O10 := Lib.hid (O9.out.act hs10 hf10)
  clear hs10 hf10 O9
  go_wp2_with fail
  refine (O10.out.s.synced HL H2.out.2.2 H3.out.2).mono ?_
  rintro e w11 ⟨rfl, F11, hs11, hf11⟩
  have O11 := Lib.hid (O10.out.act hs11 hf11)
  clear hs11 hf11 O10
  go_wp2_with fail
  go_ret
  exact ⟨rfl, O11.out.bel⟩

end Rd
end Go.Proofs.Ytjehjbkcdpidbaa

/- A log that is restarted with its own texts has them: the law's walk, over what is asked; no condition but the range. -/
namespace Go.Proofs.Ytjehjbkcdpidbaa
namespace Rd
open Go.RowKit Sc Bk

attribute [local go_sem ↓] Go.wp_at_zero Go.wp_at_succ
attribute [local go_sem] floatUpon pick

variable {Rep : RepT} {LRep : LRepT}

/-- texts that lie beside a side's blocks -/
structure Held (W : World) (F : Nat → Prop) (A : Option Addr) (ts : List ByteArray) : Prop where
  s : StrsAt W A ts
  n : ∀ x, A = some x → x.block < W.heap.size ∧ ¬ F x.block

theorem Held.act {W W' : World} {F F' : Nat → Prop} {A : Option Addr} {ts : List ByteArray} (h : Held W F A ts) (hf : Fr F F' W W') : Held W' F' A ts :=
  ⟨strs_fr h.s hf (fun x hx => (h.n x hx).2), fun x hx => ⟨Nat.lt_of_lt_of_le (h.n x hx).1 hf.size, fun hF => (hf.foot _ hF).elim (h.n x hx).2 (fun hs => by have := (h.n x hx).1; omega)⟩⟩

theorem Held.step {W W' : World} {F : Nat → Prop} {A : Option Addr} {ts : List ByteArray} (h : Held W F A ts) (hb : Below W.heap.size W W') : Held W' F A ts :=
  ⟨h.s.below hb, fun x hx => ⟨Nat.lt_of_lt_of_le (h.n x hx).1 hb.size, (h.n x hx).2⟩⟩

theorem own_held {W : World} {F : Nat → Prop} {H n : Nat} {v : Value} {ts : List ByteArray} {e : TypeId} (h : W.ownsRow H e 1 v n (strV ts)) (hl : n = ts.length) (hno : ∀ b, v.ownBlock = some b → ¬ F b) : ∃ A c, v = .slice A n c ∧ Held W F A ts ∧ (A = none → c = 0) := by
  obtain ⟨A, c, hv, hst, _, hnc⟩ := strs_own_new h hl
  refine ⟨A, c, hv, ⟨hst, fun x hx => ?_⟩, hnc⟩
  subst hx
  rcases h.2 with ⟨h1, _⟩ | ⟨g', cap', cur, h1, hg, hh, _⟩
  · rw [hv] at h1; cases h1
  · rw [hv] at h1
    simp only [Value.slice.injEq, Option.some.injEq] at h1
    obtain ⟨rfl, -⟩ := h1
    exact ⟨(Array.getElem?_eq_some_iff.1 hh).1, hno g' (by rw [hv]; rfl)⟩

set_option maxRecDepth 20000 in
set_option maxHeartbeats 8000000 in
theorem restarts_walk (HB : DevBase Rep) (HL : LogAll Rep LRep) (v0 : Value) (L0 : List ByteArray) (v1 : Value) (ps : List Int) (w : World) (hv0 : TextsOf w v0 L0) (hv1 : IntsOf w v1 ps) :
    Calls Try.prog 5 #[v0, v1] w fun e w' => e = .returned (.bool true) ∧ Below w.heap.size w w' := by
  have HD := devF_of HB
  obtain ⟨A0, c0, rfl, hst0, hnil0, hn0, hs0, _, _⟩ := hv0
  obtain ⟨A1, c1, rfl, hps, hlen, hrng⟩ := hv1
  have HPs := Lib.hid (And.intro hps (And.intro hlen hrng))
  have HTs := Lib.hid (And.intro hst0 hs0)
  have hnn : L0.length * 16 ≤ 140737488351232 := hn0
  obtain ⟨D1, ho1, i1, _, k1, n1, in1⟩ := fresh_open (n := 60) (by omega) (by omega)
  have HD1 := Lib.hid (And.intro ho1 (And.intro i1 (And.intro k1 n1)))
  have HI0 := Lib.hid in1
  have HW := Lib.hid (fun W => works_any HB HL W)
  clear hps hlen hrng hst0 hs0 hn0 hnil0 ho1 i1 k1 n1 in1
  go_enter Try.func5, Try.ntmps5
  go_wp2_with fail
  refine (HB.new 60 w ⟨by omega, by omega⟩).mono ?_
  rintro e w1 (⟨_, _, F1, g, rfl, hr1, hF1, hb1⟩ | ⟨hno, _, _⟩)
  case inr => exact absurd ⟨by omega, by omega⟩ hno
  have O1 : Hid (OneS Rep LRep w w1 F1 g (new0 60) none) := Lib.hid ⟨hr1, hF1, hb1⟩
  clear hr1 hF1 hb1
  go_wp2_with fail
  refine (HW.out _).mono ?_
  rintro e w2 ⟨rfl, hb⟩
  have O2 := Lib.hid (O1.out.step HD HL.log hb)
  clear hb O1
  go_wp2_with fail
  refine (O2.out.s.opn HL.log).mono ?_
  rintro e w3 ⟨o3, rfl, ho3, F3, hs3, hf3⟩
  rw [HD1.out.1] at ho3 hs3 ⊢
  obtain ⟨p, rfl⟩ := op_some ho3
  have O3 := Lib.hid (O2.out.act hs3 hf3)
  clear ho3 hs3 hf3 O2
  unfold ptrV
  go_wp2_with fail
  go_loopw [8] (fun i wr => ∃ (j : Nat) (F : Nat → Prop) (l : Lg), j ≤ L0.length ∧ i = .int .i64 (j : Int) ∧ Hid (OneS Rep LRep w wr F g D1 (some (p, l)) ∧ LgIn D1 l ∧ l.cnt = 1)) (fun i _ => L0.length - (intOf i).toNat)
  case atStart => exact ⟨0, _, _, by omega, rfl, O3.out, HI0.out, rfl⟩
  case round =>
    obtain ⟨j, F, l, hj, rfl, hE⟩ := hrel
    clear O3
    by_cases hlt : j < L0.length ∧ j < 20
    · obtain ⟨hlt1, hlt2⟩ := hlt
      have pj : (j : Int) < (L0.length : Int) := by omega
      have pj2 : (j : Int) < 20 := by omega
      have wj : IntKind.i64.wrap ((j : Int) + 1) = (j : Int) + 1 := i64_wrap (by omega) (by omega)
      obtain ⟨ad, hAe, hal, hac⟩ := (HTs.out.1.below hE.out.1.bel) (by omega)
      have x1 := hac j hlt1
      have hsz := HTs.out.2 _ (List.getElem_mem hlt1)
      generalize L0[j] = t at x1 hsz
      have HAp := Lib.hid (hE.out.1.s.app HL.log hE.out.2.1 HD1.out.2.1.2 t hsz)
      subst hAe
      clear hac hsz
      go_wp2_with fail
      refine HAp.out.mono ?_
      rintro e w4 ⟨rfl, F4, hs4, hf4⟩
      have HN : Hid (OneS Rep LRep w w4 F4 g D1 (some (p, (appendP D1 l t).1)) ∧ LgIn D1 (appendP D1 l t).1 ∧ (appendP D1 l t).1.cnt = 1) := Lib.hid ⟨hE.out.1.act hs4 hf4, app_in HD1.out.2.2.1 hE.out.2.1 t, by
        have := hE.out.2.2
        unfold appendP
        split
        · exact this
        split
        · exact this
        · exact this⟩
      clear hs4 hf4 HAp hE
      generalize (appendP D1 l t).1 = l2 at HN
      generalize (appendP D1 l t).2 = e2
      go_wp2_with fail
      go_roundw
      case rel => exact ⟨j + 1, F4, l2, by omega, by go_num, HN.out⟩
      case measure => simp [intOf]; omega
    · have HX : Hid (OneS Rep LRep w wr F g D1 (some (p, l)) ∧ LgIn D1 l ∧ l.cnt = 1) := hE
      clear hE
      have hI := HX.out.2.1
      have hrm := hI.ok.room
      have hF : allF l.ts = l.bs ++ waitL l := by rw [hI.bs]; exact (frs_join l.ts hI.ok.mn (Nat.le_refl _)).symm
      have hFl : (allF l.ts).length = l.bs.length + (waitL l).length := by rw [hF, List.length_append]
      obtain ⟨D2, hr2, i2, c2, k2, n2, in2⟩ := rst_idle HD1.out.2.1 HD1.out.2.2.1 hI (by rw [HX.out.2.2]; decide) l.ts hI.small (by rw [hFl]; exact hrm)
      have hrooms : roomN D2 ⟨l.cnt + 1, 1 - l.ar, allF l.ts, l.ts, l.ts.length⟩ = roomN D1 l := by
        have hw0 : waitL ⟨l.cnt + 1, 1 - l.ar, allF l.ts, l.ts, l.ts.length⟩ = [] := frs_same _ _
        unfold roomN
        rw [hw0, areaN_on n2]
        simp only [List.length_nil]
        omega
      have ho4 := reopen_crash k2 in2 c2 (by show l.cnt + 1 ≤ _; rw [HX.out.2.2]; decide) ps
      have htk : l.ts.take l.ts.length = l.ts := List.take_length
      simp only [htk] at ho4
      have in4 : LgIn (crD D2 ps) ⟨l.cnt + 1, 1 - l.ar, allF l.ts, l.ts, l.ts.length⟩ := in2.seen (cr_len D2 ps) fun j hj => cr_view k2.len c2 ps hj
      have hroom4 : roomN (crD D2 ps) ⟨l.cnt + 1, 1 - l.ar, allF l.ts, l.ts, l.ts.length⟩ = roomN D1 l := by
        rw [← hrooms]; unfold roomN; rw [areaN_on (cr_len D2 ps)]
      have HR := Lib.hid (And.intro hr2 (And.intro hrooms (And.intro ho4 hroom4)))
      have HIn := Lib.hid (And.intro in2 in4)
      have HU := Lib.hid (show D2.down = false from i2.2)
      have hsm := hI.small
      have hmany : l.ts.length ≤ 1000000 := hI.ok.many
      have HSm := Lib.hid hsm
      clear hI hrm hF hFl hr2 i2 c2 k2 n2 in2 hrooms ho4 htk in4 hroom4 hsm
      by_cases hj1 : j < L0.length
      · have pj : (j : Int) < (L0.length : Int) := by omega
        have pj2 : ¬ (j : Int) < 20 := by omega
        go_upto_region 11 with fail
        go_wp2_with fail
        refine (HX.out.1.s.texts HL HX.out.2.1 HD1.out.2.1.2).mono ?_
        rintro e w4 ⟨v, F4, rfl, hrow, hno, hs4, hf4⟩
        obtain ⟨B, cB, rfl, hh, hnc⟩ := own_held (n := l.ts.length) (ts := l.ts) hrow rfl hno
        have O4 := Lib.hid (HX.out.1.act hs4 hf4)
        have H4 := Lib.hid hh
        have HNc := Lib.hid hnc
        clear hrow hno hs4 hf4 hh hnc
        go_wp2_with fail
        refine (O4.out.s.room HL.log HX.out.2.1 HD1.out.2.1.2).mono ?_
        rintro e w5 ⟨rfl, F5, hs5, hf5⟩
        have O5 := Lib.hid (O4.out.act hs5 hf5)
        have H5 := Lib.hid (H4.out.act hf5)
        clear hs5 hf5 O4 H4
        go_wp2_with fail
        refine (O5.out.s.rst HL.log HX.out.2.1 HD1.out.2.1.2 B cB l.ts H5.out.s HNc.out (fun _ x hx => H5.out.n x hx) (by show _ ≤ 140737488351232; omega) (fun t ht => by have := HSm.out t ht; show _ ≤ 140737488351232; omega) (HX.out.2.1.all (O5.out.s.ok (devF_of HB)))).mono ?_
        rintro e w6 ⟨rfl, F6, hs6, hf6⟩
        rw [HR.out.1] at hs6 ⊢
        have O6 := Lib.hid (O5.out.act hs6 hf6)
        have H6 := Lib.hid (H5.out.act hf6)
        clear hs6 hf6 O5 H5 HX
        go_wp2_with fail
        refine (O6.out.s.texts HL HIn.out.1 HU.out).mono ?_
        rintro e w7 ⟨v, F7, rfl, hrow, hno, hs7, hf7⟩
        obtain ⟨C, cC, rfl, hh, _⟩ := own_held (n := l.ts.length) (ts := l.ts) hrow rfl hno
        have O7 := Lib.hid (O6.out.act hs7 hf7)
        have H7 := Lib.hid (H6.out.act hf7)
        have hsame := same_any C B cC cB l.ts l.ts w7 hh.s H7.out.s (by omega)
        rw [show decide (l.ts = l.ts) = true from by simp] at hsame
        have HSa := Lib.hid hsame
        clear hrow hno hs7 hf7 hh O6 H6 hsame
        go_wp2_with fail
        refine HSa.out.mono ?_
        rintro e w8 ⟨rfl, n8, rfl⟩
        have O8 := Lib.hid (O7.out.step HD HL.log (below_drew _ _ n8))
        have H8 := Lib.hid (H7.out.step (below_drew _ _ n8))
        generalize w7.drewN n8 = w8 at O8 H8 ⊢
        clear O7 H7 HSa
        go_wp2_with fail
        refine (O8.out.s.synced HL HIn.out.1 HU.out).mono ?_
        rintro e w9 ⟨rfl, F9, hs9, hf9⟩
        have O9 := Lib.hid (O8.out.act hs9 hf9)
        have H9 := Lib.hid (H8.out.act hf9)
        clear hs9 hf9 O8 H8
        go_wp2_with fail
        refine (O9.out.s.room HL.log HIn.out.1 HU.out).mono ?_
        rintro e w10 ⟨rfl, F10, hs10, hf10⟩
        rw [HR.out.2.1]
        have O10 := Lib.hid (O9.out.act hs10 hf10)
        have H10 := Lib.hid (H9.out.act hf10)
        clear hs10 hf10 O9 H9
        go_wp2_with fail
        have hpA : ∀ x, A1 = some x → 0 < ps.length → x.block < w.heap.size := fun x hx hp => by
          obtain ⟨ad, e, hl, _⟩ := HPs.out.1 hp
          rw [hx] at e; cases e; exact hl
        refine (O10.out.s.crash HD A1 c1 ps (HPs.out.1.below O10.out.bel) (fun hp x hx hf => by have := hpA x hx hp; have := O10.out.bF _ hf; omega) HPs.out.2.1 HPs.out.2.2).mono ?_
        rintro e w11 ⟨rfl, F11, hs11, hf11⟩
        have O11 := Lib.hid (O10.out.act hs11 hf11)
        have H11 := Lib.hid (H10.out.act hf11)
        clear hs11 hf11 O10 H10 hpA
        go_wp2_with fail
        refine (O11.out.s.opn HL.log).mono ?_
        rintro e w12 ⟨o12, rfl, ho12, F12, hs12, hf12⟩
        rw [HR.out.2.2.1] at ho12 hs12 ⊢
        obtain ⟨q, rfl⟩ := op_some ho12
        have O12 := Lib.hid (O11.out.act hs12 hf12)
        have H12 := Lib.hid (H11.out.act hf12)
        clear ho12 hs12 hf12 O11 H11
        unfold ptrV
        go_wp2_with fail
        refine (O12.out.s.texts HL HIn.out.2 rfl).mono ?_
        rintro e w13 ⟨v, F13, rfl, hrow, hno, hs13, hf13⟩
        obtain ⟨E, cE, rfl, hh, _⟩ := own_held (n := l.ts.length) (ts := l.ts) hrow rfl hno
        have O13 := Lib.hid (O12.out.act hs13 hf13)
        have H13 := Lib.hid (H12.out.act hf13)
        have hsame := same_any E B cE cB l.ts l.ts w13 hh.s H13.out.s (by omega)
        rw [show decide (l.ts = l.ts) = true from by simp] at hsame
        have HSa := Lib.hid hsame
        clear hrow hno hs13 hf13 hh O12 H12 hsame
        go_wp2_with fail
        refine HSa.out.mono ?_
        rintro e w14 ⟨rfl, n14, rfl⟩
        have O14 := Lib.hid (O13.out.step HD HL.log (below_drew _ _ n14))
        generalize w13.drewN n14 = w14 at O14 ⊢
        clear O13 H13 HSa
        go_wp2_with fail
        refine (O14.out.s.room HL.log HIn.out.2 rfl).mono ?_
        rintro e w15 ⟨rfl, F15, hs15, hf15⟩
        rw [HR.out.2.2.2]
        have O15 := Lib.hid (O14.out.act hs15 hf15)
        clear hs15 hf15 O14
        go_wp2_with fail
        go_ret
        exact ⟨rfl, O15.out.bel⟩
      · have pj : ¬ (j : Int) < (L0.length : Int) := by omega
        go_upto_region 11 with fail
        go_wp2_with fail
        refine (HX.out.1.s.texts HL HX.out.2.1 HD1.out.2.1.2).mono ?_
        rintro e w4 ⟨v, F4, rfl, hrow, hno, hs4, hf4⟩
        obtain ⟨B, cB, rfl, hh, hnc⟩ := own_held (n := l.ts.length) (ts := l.ts) hrow rfl hno
        have O4 := Lib.hid (HX.out.1.act hs4 hf4)
        have H4 := Lib.hid hh
        have HNc := Lib.hid hnc
        clear hrow hno hs4 hf4 hh hnc
        go_wp2_with fail
        refine (O4.out.s.room HL.log HX.out.2.1 HD1.out.2.1.2).mono ?_
        rintro e w5 ⟨rfl, F5, hs5, hf5⟩
        have O5 := Lib.hid (O4.out.act hs5 hf5)
        have H5 := Lib.hid (H4.out.act hf5)
        clear hs5 hf5 O4 H4
        go_wp2_with fail
        refine (O5.out.s.rst HL.log HX.out.2.1 HD1.out.2.1.2 B cB l.ts H5.out.s HNc.out (fun _ x hx => H5.out.n x hx) (by show _ ≤ 140737488351232; omega) (fun t ht => by have := HSm.out t ht; show _ ≤ 140737488351232; omega) (HX.out.2.1.all (O5.out.s.ok (devF_of HB)))).mono ?_
        rintro e w6 ⟨rfl, F6, hs6, hf6⟩
        rw [HR.out.1] at hs6 ⊢
        have O6 := Lib.hid (O5.out.act hs6 hf6)
        have H6 := Lib.hid (H5.out.act hf6)
        clear hs6 hf6 O5 H5 HX
        go_wp2_with fail
        refine (O6.out.s.texts HL HIn.out.1 HU.out).mono ?_
        rintro e w7 ⟨v, F7, rfl, hrow, hno, hs7, hf7⟩
        obtain ⟨C, cC, rfl, hh, _⟩ := own_held (n := l.ts.length) (ts := l.ts) hrow rfl hno
        have O7 := Lib.hid (O6.out.act hs7 hf7)
        have H7 := Lib.hid (H6.out.act hf7)
        have hsame := same_any C B cC cB l.ts l.ts w7 hh.s H7.out.s (by omega)
        rw [show decide (l.ts = l.ts) = true from by simp] at hsame
        have HSa := Lib.hid hsame
        clear hrow hno hs7 hf7 hh O6 H6 hsame
        go_wp2_with fail
        refine HSa.out.mono ?_
        rintro e w8 ⟨rfl, n8, rfl⟩
        have O8 := Lib.hid (O7.out.step HD HL.log (below_drew _ _ n8))
        have H8 := Lib.hid (H7.out.step (below_drew _ _ n8))
        generalize w7.drewN n8 = w8 at O8 H8 ⊢
        clear O7 H7 HSa
        go_wp2_with fail
        refine (O8.out.s.synced HL HIn.out.1 HU.out).mono ?_
        rintro e w9 ⟨rfl, F9, hs9, hf9⟩
        have O9 := Lib.hid (O8.out.act hs9 hf9)
        have H9 := Lib.hid (H8.out.act hf9)
        clear hs9 hf9 O8 H8
        go_wp2_with fail
        refine (O9.out.s.room HL.log HIn.out.1 HU.out).mono ?_
        rintro e w10 ⟨rfl, F10, hs10, hf10⟩
        rw [HR.out.2.1]
        have O10 := Lib.hid (O9.out.act hs10 hf10)
        have H10 := Lib.hid (H9.out.act hf10)
        clear hs10 hf10 O9 H9
        go_wp2_with fail
        have hpA : ∀ x, A1 = some x → 0 < ps.length → x.block < w.heap.size := fun x hx hp => by
          obtain ⟨ad, e, hl, _⟩ := HPs.out.1 hp
          rw [hx] at e; cases e; exact hl
        refine (O10.out.s.crash HD A1 c1 ps (HPs.out.1.below O10.out.bel) (fun hp x hx hf => by have := hpA x hx hp; have := O10.out.bF _ hf; omega) HPs.out.2.1 HPs.out.2.2).mono ?_
        rintro e w11 ⟨rfl, F11, hs11, hf11⟩
        have O11 := Lib.hid (O10.out.act hs11 hf11)
        have H11 := Lib.hid (H10.out.act hf11)
        clear hs11 hf11 O10 H10 hpA
        go_wp2_with fail
        refine (O11.out.s.opn HL.log).mono ?_
        rintro e w12 ⟨o12, rfl, ho12, F12, hs12, hf12⟩
        rw [HR.out.2.2.1] at ho12 hs12 ⊢
        obtain ⟨q, rfl⟩ := op_some ho12
        have O12 := Lib.hid (O11.out.act hs12 hf12)
        have H12 := Lib.hid (H11.out.act hf12)
        clear ho12 hs12 hf12 O11 H11
        unfold ptrV
        go_wp2_with fail
        refine (O12.out.s.texts HL HIn.out.2 rfl).mono ?_
        rintro e w13 ⟨v, F13, rfl, hrow, hno, hs13, hf13⟩
        obtain ⟨E, cE, rfl, hh, _⟩ := own_held (n := l.ts.length) (ts := l.ts) hrow rfl hno
        have O13 := Lib.hid (O12.out.act hs13 hf13)
        have H13 := Lib.hid (H12.out.act hf13)
        have hsame := same_any E B cE cB l.ts l.ts w13 hh.s H13.out.s (by omega)
        rw [show decide (l.ts = l.ts) = true from by simp] at hsame
        have HSa := Lib.hid hsame
        clear hrow hno hs13 hf13 hh O12 H12 hsame
        go_wp2_with fail
        refine HSa.out.mono ?_
        rintro e w14 ⟨rfl, n14, rfl⟩
        have O14 := Lib.hid (O13.out.step HD HL.log (below_drew _ _ n14))
        generalize w13.drewN n14 = w14 at O14 ⊢
        clear O13 H13 HSa
        go_wp2_with fail
        refine (O14.out.s.room HL.log HIn.out.2 rfl).mono ?_
        rintro e w15 ⟨rfl, F15, hs15, hf15⟩
        rw [HR.out.2.2.2]
        have O15 := Lib.hid (O14.out.act hs15 hf15)
        clear hs15 hf15 O14
        go_wp2_with fail
        go_ret
        exact ⟨rfl, O15.out.bel⟩

end Rd
end Go.Proofs.Ytjehjbkcdpidbaa

/- How much room a log has: the law's walk, over what is asked; no condition but the range. -/
namespace Go.Proofs.Ytjehjbkcdpidbaa
namespace Rd
open Go.RowKit Sc Bk

attribute [local go_sem ↓] Go.wp_at_zero Go.wp_at_succ
attribute [local go_sem] floatUpon pick

variable {Rep : RepT} {LRep : LRepT}

/-- a log on a device of twelve sectors without a fuse -/
structure Easy (D : Dev) (l : Lg) (m : Nat) : Prop where
  i : Idle D
  k : DevOk D
  n : D.on.length = 12
  h : LgIn D l
  c : l.cnt ≤ m

theorem sync_easy {D : Dev} {l : Lg} {m : Nat} (h : Easy D l m) (hm : m < 4611686018427388000) : ∃ D2 l2, syncP D l = (D2, l2, 0) ∧ Easy D2 l2 (m + 1) ∧ roomN D2 l2 = roomN D l ∧ l2.ts = l.ts := by
  have hc := h.c
  by_cases e : l.mn = l.ts.length
  · refine ⟨D, l, by unfold syncP; rw [if_pos e], ⟨h.i, h.k, h.n, h.h, by omega⟩, rfl, rfl⟩
  · obtain ⟨D2, h1, h2, _, h4, h5, h6⟩ := sync_idle h.i h.k h.h (by omega) e
    refine ⟨D2, _, h1, ⟨h2, h4, by rw [h5, h.n], h6, by show l.cnt + 1 ≤ m + 1; omega⟩, ?_, rfl⟩
    have hw0 : waitL ⟨l.cnt + 1, l.ar, l.bs ++ waitL l, l.ts, l.ts.length⟩ = [] := frs_same _ _
    unfold roomN
    rw [hw0, areaN_on h5, List.length_append]
    simp only [List.length_nil]
    omega

theorem app_room {D : Dev} {l : Lg} (hm : l.mn ≤ l.ts.length) (t : ByteArray) (_h : l.bs.length + (waitL l).length ≤ areaN D) : roomN D ⟨l.cnt, l.ar, l.bs, l.ts ++ [t], l.mn⟩ = roomN D l - (t.size + 6) := by
  have hfl : (Su.frameL t.data.toList).length = t.size + 6 := by rw [Su.frameL_len]; rfl
  unfold roomN
  rw [wait_snoc hm, List.length_append, hfl]
  simp only
  omega

set_option maxRecDepth 20000 in
set_option maxHeartbeats 8000000 in
theorem room_walk (HB : DevBase Rep) (HL : LogAll Rep LRep) (v0 : Value) (L0 : List ByteArray) (w : World) (hv0 : TextsOf w v0 L0) :
    Calls Try.prog 4 #[v0] w fun e w' => e = .returned (.bool true) ∧ Below w.heap.size w w' := by
  have HD := devF_of HB
  obtain ⟨A0, c0, rfl, hst0, hnil0, hn0, hs0, _, _⟩ := hv0
  have HTs := Lib.hid (And.intro hst0 hs0)
  have hnn : L0.length * 16 ≤ 140737488351232 := hn0
  obtain ⟨D1, ho1, i1, _, k1, n1, in1⟩ := fresh_open (n := 12) (by omega) (by omega)
  have hE1 : Easy D1 ⟨1, 0, [], [], 0⟩ 1 := ⟨i1, k1, n1, in1, Nat.le_refl _⟩
  have hr1 : roomN D1 ⟨1, 0, [], [], 0⟩ = 320 := by
    have hw0 : waitL ⟨1, 0, [], [], 0⟩ = [] := frs_same _ _
    unfold roomN areaN
    rw [hw0, n1]; rfl
  have HD1 := Lib.hid (And.intro ho1 (And.intro hE1 hr1))
  have HW := Lib.hid (fun W => works_any HB HL W)
  clear hst0 hs0 hn0 hnil0 ho1 i1 k1 n1 in1 hE1 hr1
  go_enter Try.func4, Try.ntmps4
  go_wp2_with fail
  refine (HB.new 12 w ⟨by omega, by omega⟩).mono ?_
  rintro e w1 (⟨_, _, F1, g, rfl, hr1, hF1, hb1⟩ | ⟨hno, _, _⟩)
  case inr => exact absurd ⟨by omega, by omega⟩ hno
  have O1 : Hid (OneS Rep LRep w w1 F1 g (new0 12) none) := Lib.hid ⟨hr1, hF1, hb1⟩
  clear hr1 hF1 hb1
  go_wp2_with fail
  refine (HW.out _).mono ?_
  rintro e w2 ⟨rfl, hb⟩
  have O2 := Lib.hid (O1.out.step HD HL.log hb)
  clear hb O1
  go_wp2_with fail
  refine (O2.out.s.opn HL.log).mono ?_
  rintro e w3 ⟨o3, rfl, ho3, F3, hs3, hf3⟩
  rw [HD1.out.1] at ho3 hs3 ⊢
  obtain ⟨p, rfl⟩ := op_some ho3
  have O3 := Lib.hid (O2.out.act hs3 hf3)
  clear ho3 hs3 hf3 O2
  unfold ptrV
  go_wp2_with fail
  refine (O3.out.s.room HL.log HD1.out.2.1.h HD1.out.2.1.i.2).mono ?_
  rintro e w4 ⟨rfl, F4, hs4, hf4⟩
  rw [HD1.out.2.2]
  have hc320 : ((320 : Nat) : Int) = 320 := rfl
  rw [hc320]
  have O4 := Lib.hid (O3.out.act hs4 hf4)
  clear hs4 hf4 O3
  go_wp2_with fail
  go_loopw [6, 7, 8, 9] (fun fr n i _ wr => ∃ (j : Nat) (F : Nat → Prop) (D : Dev) (l : Lg), j ≤ L0.length ∧ j ≤ 40 ∧ fr = .int .i64 (roomN D l : Int) ∧ n = .int .i64 (l.ts.length : Int) ∧ i = .int .i64 (j : Int) ∧ Hid (OneS Rep LRep w wr F g D (some (p, l)) ∧ Easy D l (1 + j))) (fun _ _ i _ _ => L0.length - (intOf i).toNat)
  case atStart => exact ⟨0, _, D1, _, by omega, by omega, by rw [HD1.out.2.2]; rfl, rfl, rfl, O4.out, HD1.out.2.1⟩
  case round =>
    obtain ⟨j, F, D, l, hj, hj40, rfl, rfl, rfl, hE⟩ := hrel
    clear O4
    have hrb : roomN D l ≤ 320 := by
      have := hE.out.2.n
      unfold roomN areaN
      rw [this]; omega
    have hmy : l.ts.length ≤ 1000000 := hE.out.2.h.ok.many
    have pr : (roomN D l : Int) ≤ 320 := by omega
    by_cases hlt : j < L0.length ∧ j < 40
    · obtain ⟨hlt1, hlt2⟩ := hlt
      have pj : (j : Int) < (L0.length : Int) := by omega
      have pj2 : (j : Int) < 40 := by omega
      have wj : IntKind.i64.wrap ((j : Int) + 1) = (j : Int) + 1 := i64_wrap (by omega) (by omega)
      obtain ⟨ad, hAe, hal, hac⟩ := (HTs.out.1.below hE.out.1.bel) (by omega)
      have x1 := hac j hlt1
      have hsz := HTs.out.2 _ (List.getElem_mem hlt1)
      have hst := HTs.out.1
      subst hAe
      have HAc := Lib.hid (fun W (hb : Below w.heap.size w W) => show W.cell? (ad.add j) = some (.string L0[j]) from by
        obtain ⟨ad', e', _, h'⟩ := (HTs.out.1.below hb) (by omega)
        cases e'
        exact h' j hlt1)
      generalize L0[j] = t at x1 hsz HAc
      have hts : (t.size : Int) ≤ 140737488351232 := by omega
      clear hac hst
      by_cases hbig : 4096 < t.size
      · have pb : (4096 : Int) < (t.size : Int) := by omega
        have HN := Lib.hid (show Easy D l (1 + (j + 1)) from ⟨hE.out.2.i, hE.out.2.k, hE.out.2.n, hE.out.2.h, by have := hE.out.2.c; omega⟩)
        clear hsz
        go_wp2_with fail
        go_roundw
        case rel => exact ⟨j + 1, F, D, l, by omega, by omega, rfl, rfl, by go_num, hE.out.1, HN.out⟩
        case measure => simp [intOf]; omega
      have pb : (t.size : Int) ≤ 4096 := by omega
      have hapd := hE.out.1.s.app HL.log hE.out.2.h hE.out.2.i.2 t hsz
      by_cases hfit : t.size + 6 ≤ roomN D l
      · have hap := app_fits (D := D) (l := l) (show t.size ≤ 4096 by omega) hfit
        rw [hap] at hapd
        have hin := app_in hE.out.2.k hE.out.2.h t
        rw [hap] at hin
        have hrm := app_room (D := D) hE.out.2.h.ok.mn t hE.out.2.h.ok.room
        have HE2 := Lib.hid (show Easy D ⟨l.cnt, l.ar, l.bs, l.ts ++ [t], l.mn⟩ (1 + j) from ⟨hE.out.2.i, hE.out.2.k, hE.out.2.n, hin, hE.out.2.c⟩)
        have pf : (t.size : Int) + 6 ≤ (roomN D l : Int) := by omega
        have hfr : (roomN D l : Int) - ((t.size : Int) + 6) = (roomN D ⟨l.cnt, l.ar, l.bs, l.ts ++ [t], l.mn⟩ : Int) := by rw [hrm]; omega
        have hnl : (l.ts.length : Int) + 1 = ((l.ts ++ [t]).length : Int) := by rw [List.length_append, List.length_singleton]; omega
        have HAp := Lib.hid hapd
        have HO := Lib.hid hE.out.1
        have w6 : IntKind.i64.wrap ((t.size : Int) + 6) = (t.size : Int) + 6 := i64_wrap (by omega) (by omega)
        clear hapd hap hin hrm hfit hbig hsz hE
        obtain ⟨l2, hl2⟩ : ∃ l2, l2 = (⟨l.cnt, l.ar, l.bs, l.ts ++ [t], l.mn⟩ : Lg) := ⟨_, rfl⟩
        have hl2t : (l.ts ++ [t]).length = l2.ts.length := by rw [hl2]
        rw [← hl2] at HAp HE2 hfr
        rw [hl2t] at hnl
        clear hl2 hl2t
        go_wp2_with fail
        refine HAp.out.mono ?_
        rintro e w5 ⟨rfl, F5, hs5, hf5⟩
        have O5 := Lib.hid (HO.out.act hs5 hf5)
        have x2 := HAc.out w5 O5.out.bel
        clear hs5 hf5 HO HAp x1 hal
        have hb2 : roomN D l2 ≤ 320 := by
          have := HE2.out.n
          unfold roomN areaN
          rw [this]; omega
        have pr2 : (roomN D l2 : Int) ≤ 320 := by omega
        have hmy2 : l2.ts.length ≤ 1000000 := HE2.out.h.ok.many
        clear hb2
        go_wp2_with fail
        refine (O5.out.s.room HL.log HE2.out.h HE2.out.i.2).mono ?_
        rintro e w6 ⟨rfl, F6, hs6, hf6⟩
        have O6 := Lib.hid (O5.out.act hs6 hf6)
        clear hs6 hf6 O5
        go_wp2_with fail
        refine (O6.out.s.texts HL HE2.out.h HE2.out.i.2).mono ?_
        rintro e w7 ⟨v, F7, rfl, hrow, hno, hs7, hf7⟩
        obtain ⟨B, cB, rfl, hh, _⟩ := own_held (n := l2.ts.length) (ts := l2.ts) hrow rfl hno
        have O7 := Lib.hid (O6.out.act hs7 hf7)
        clear hrow hno hs7 hf7 hh O6
        by_cases h3 : j % 3 = 0
        · have q3 : ((j : Int) % 3 == 0) = true := by simp; omega
          have q4 : ((j : Int).tmod 3 == 0) = true := by rw [Int.tmod_eq_emod_of_nonneg (by omega)]; exact q3
          obtain ⟨D2, l3, hsy, hE3, hr3, ht3⟩ := sync_easy HE2.out (by omega)
          have hsyn := O7.out.s.syn HL.log HE2.out.h HE2.out.i.2
          rw [hsy] at hsyn
          have HSy := Lib.hid hsyn
          have HE3 := Lib.hid (And.intro hE3 (And.intro hr3 ht3))
          clear hsyn hsy hE3 hr3 ht3 h3
          go_wp2_with fail
          refine HSy.out.mono ?_
          rintro e w8 ⟨rfl, F8, hs8, hf8⟩
          have O8 := Lib.hid (O7.out.act hs8 hf8)
          clear hs8 hf8 O7 HSy
          go_wp2_with fail
          go_roundw
          case rel => exact ⟨j + 1, F8, D2, l3, by omega, by omega, by rw [HE3.out.2.1], by rw [HE3.out.2.2], by go_num, O8.out, by have := HE3.out.1; rwa [show 1 + j + 1 = 1 + (j + 1) by omega] at this⟩
          case measure => simp [intOf]; omega
        · have q3 : ((j : Int) % 3 == 0) = false := by simp; omega
          have q4 : ((j : Int).tmod 3 == 0) = false := by rw [Int.tmod_eq_emod_of_nonneg (by omega)]; exact q3
          have HE4 := Lib.hid (show Easy D l2 (1 + (j + 1)) from ⟨HE2.out.i, HE2.out.k, HE2.out.n, HE2.out.h, by have := HE2.out.c; omega⟩)
          clear h3
          go_wp2_with fail
          go_roundw
          case rel => exact ⟨j + 1, F7, D, l2, by omega, by omega, rfl, rfl, by go_num, O7.out, HE4.out⟩
          case measure => simp [intOf]; omega
      · have hap : appendP D l t = (l, 100) := by unfold appendP; rw [if_neg hbig, if_pos (by omega)]
        rw [hap] at hapd
        have pf : ¬ (t.size : Int) + 6 ≤ (roomN D l : Int) := by omega
        have HAp := Lib.hid hapd
        have HO := Lib.hid hE.out.1
        have HE2 := Lib.hid hE.out.2
        have w6 : IntKind.i64.wrap ((t.size : Int) + 6) = (t.size : Int) + 6 := i64_wrap (by omega) (by omega)
        clear hapd hap hfit hbig hsz hE
        go_wp2_with fail
        refine HAp.out.mono ?_
        rintro e w5 ⟨rfl, F5, hs5, hf5⟩
        have O5 := Lib.hid (HO.out.act hs5 hf5)
        have x2 := HAc.out w5 O5.out.bel
        clear hs5 hf5 HO HAp x1 hal
        go_wp2_with fail
        refine (O5.out.s.room HL.log HE2.out.h HE2.out.i.2).mono ?_
        rintro e w6 ⟨rfl, F6, hs6, hf6⟩
        have O6 := Lib.hid (O5.out.act hs6 hf6)
        clear hs6 hf6 O5
        go_wp2_with fail
        refine (O6.out.s.texts HL HE2.out.h HE2.out.i.2).mono ?_
        rintro e w7 ⟨v, F7, rfl, hrow, hno, hs7, hf7⟩
        obtain ⟨B, cB, rfl, hh, _⟩ := own_held (n := l.ts.length) (ts := l.ts) hrow rfl hno
        have O7 := Lib.hid (O6.out.act hs7 hf7)
        clear hrow hno hs7 hf7 hh O6
        by_cases h3 : j % 3 = 0
        · have q3 : ((j : Int) % 3 == 0) = true := by simp; omega
          have q4 : ((j : Int).tmod 3 == 0) = true := by rw [Int.tmod_eq_emod_of_nonneg (by omega)]; exact q3
          obtain ⟨D2, l3, hsy, hE3, hr3, ht3⟩ := sync_easy HE2.out (by omega)
          have hsyn := O7.out.s.syn HL.log HE2.out.h HE2.out.i.2
          rw [hsy] at hsyn
          have HSy := Lib.hid hsyn
          have HE3 := Lib.hid (And.intro hE3 (And.intro hr3 ht3))
          clear hsyn hsy hE3 hr3 ht3 h3
          go_wp2_with fail
          refine HSy.out.mono ?_
          rintro e w8 ⟨rfl, F8, hs8, hf8⟩
          have O8 := Lib.hid (O7.out.act hs8 hf8)
          clear hs8 hf8 O7 HSy
          go_wp2_with fail
          go_roundw
          case rel => exact ⟨j + 1, F8, D2, l3, by omega, by omega, by rw [HE3.out.2.1], by rw [HE3.out.2.2], by go_num, O8.out, by have := HE3.out.1; rwa [show 1 + j + 1 = 1 + (j + 1) by omega] at this⟩
          case measure => simp [intOf]; omega
        · have q3 : ((j : Int) % 3 == 0) = false := by simp; omega
          have q4 : ((j : Int).tmod 3 == 0) = false := by rw [Int.tmod_eq_emod_of_nonneg (by omega)]; exact q3
          have HE4 := Lib.hid (show Easy D l (1 + (j + 1)) from ⟨HE2.out.i, HE2.out.k, HE2.out.n, HE2.out.h, by have := HE2.out.c; omega⟩)
          clear h3
          go_wp2_with fail
          go_roundw
          case rel => exact ⟨j + 1, F7, D, l, by omega, by omega, rfl, rfl, by go_num, O7.out, HE4.out⟩
          case measure => simp [intOf]; omega
    · obtain ⟨D2, hr2, i2, c2, k2, n2, in2⟩ := rst_idle hE.out.2.i hE.out.2.k hE.out.2.h (by have := hE.out.2.c; omega) [] (fun t ht => by cases ht) (by have : allF [] = [] := frs_same _ _; rw [this]; exact Nat.zero_le _)
      have ha0 : allF [] = [] := frs_same _ _
      rw [ha0] at hr2 in2
      simp only [List.length_nil] at hr2 in2
      have hrm2 : roomN D2 ⟨l.cnt + 1, 1 - l.ar, [], [], 0⟩ = 320 := by
        have hw0 : waitL ⟨l.cnt + 1, 1 - l.ar, [], [], 0⟩ = [] := frs_same _ _
        unfold roomN areaN
        rw [hw0, n2, hE.out.2.n]; rfl
      have HR := Lib.hid (And.intro hr2 hrm2)
      have HIn := Lib.hid in2
      have HU := Lib.hid (show D2.down = false from i2.2)
      have HX := hE
      clear hr2 i2 c2 k2 n2 in2 ha0 hrm2 hE
      by_cases hj1 : j < L0.length
      · have pj : (j : Int) < (L0.length : Int) := by omega
        have pj2 : ¬ (j : Int) < 40 := by omega
        go_wp2_with fail
        refine (HX.out.1.s.rst HL.log HX.out.2.h HX.out.2.i.2 none 0 [] (fun h => absurd h (by simp)) (fun _ => rfl) (fun _ x hx => by cases hx) (by decide) (fun t ht => by cases ht) (by unfold allF frs; simp)).mono ?_
        rintro e w5 ⟨rfl, F5, hs5, hf5⟩
        rw [HR.out.1] at hs5 ⊢
        have O5 := Lib.hid (HX.out.1.act hs5 hf5)
        clear hs5 hf5 HX
        go_wp2_with fail
        refine (O5.out.s.room HL.log HIn.out HU.out).mono ?_
        rintro e w6 ⟨rfl, F6, hs6, hf6⟩
        have O6 := Lib.hid (O5.out.act hs6 hf6)
        have h320 : ((roomN D2 ⟨l.cnt + 1, 1 - l.ar, [], [], 0⟩ : Nat) : Int) = 320 := by rw [HR.out.2]; rfl
        rw [h320]
        clear hs6 hf6 O5 h320
        go_wp2_with fail
        refine (O6.out.s.texts HL HIn.out HU.out).mono ?_
        rintro e w7 ⟨v, F7, rfl, hrow, hno, hs7, hf7⟩
        obtain ⟨B, cB, rfl, hh, _⟩ := own_held (n := 0) (ts := []) hrow rfl hno
        have O7 := Lib.hid (O6.out.act hs7 hf7)
        clear hrow hno hs7 hf7 hh O6
        go_wp2_with fail
        refine (O7.out.s.synced HL HIn.out HU.out).mono ?_
        rintro e w8 ⟨rfl, F8, hs8, hf8⟩
        have O8 := Lib.hid (O7.out.act hs8 hf8)
        clear hs8 hf8 O7
        go_wp2_with fail
        go_ret
        exact ⟨rfl, O8.out.bel⟩
      · have pj : ¬ (j : Int) < (L0.length : Int) := by omega
        go_wp2_with fail
        refine (HX.out.1.s.rst HL.log HX.out.2.h HX.out.2.i.2 none 0 [] (fun h => absurd h (by simp)) (fun _ => rfl) (fun _ x hx => by cases hx) (by decide) (fun t ht => by cases ht) (by unfold allF frs; simp)).mono ?_
        rintro e w5 ⟨rfl, F5, hs5, hf5⟩
        rw [HR.out.1] at hs5 ⊢
        have O5 := Lib.hid (HX.out.1.act hs5 hf5)
        clear hs5 hf5 HX
        go_wp2_with fail
        refine (O5.out.s.room HL.log HIn.out HU.out).mono ?_
        rintro e w6 ⟨rfl, F6, hs6, hf6⟩
        have O6 := Lib.hid (O5.out.act hs6 hf6)
        have h320 : ((roomN D2 ⟨l.cnt + 1, 1 - l.ar, [], [], 0⟩ : Nat) : Int) = 320 := by rw [HR.out.2]; rfl
        rw [h320]
        clear hs6 hf6 O5 h320
        go_wp2_with fail
        refine (O6.out.s.texts HL HIn.out HU.out).mono ?_
        rintro e w7 ⟨v, F7, rfl, hrow, hno, hs7, hf7⟩
        obtain ⟨B, cB, rfl, hh, _⟩ := own_held (n := 0) (ts := []) hrow rfl hno
        have O7 := Lib.hid (O6.out.act hs7 hf7)
        clear hrow hno hs7 hf7 hh O6
        go_wp2_with fail
        refine (O7.out.s.synced HL HIn.out HU.out).mono ?_
        rintro e w8 ⟨rfl, F8, hs8, hf8⟩
        have O8 := Lib.hid (O7.out.act hs8 hf8)
        clear hs8 hf8 O7
        go_wp2_with fail
        go_ret
        exact ⟨rfl, O8.out.bel⟩

end Rd
end Go.Proofs.Ytjehjbkcdpidbaa
