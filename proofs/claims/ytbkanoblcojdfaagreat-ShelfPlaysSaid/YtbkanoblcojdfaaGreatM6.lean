/- Parts of the proof, joined: RcBook, RcLaw, RcBackW, TrRow, ShRow, ShRep; their conditions stand with each. -/
import Derived.Test.YtbkanoblcojdfaaGreatM3
import Derived.Test.YtbkanoblcojdfaaGreatM4
import Derived.Test.YtbkanoblcojdfaaGreatM5

namespace Go.Proofs.YtbkanoblcojdfaaGreat
namespace Rc
open Go.RowKit Bk Lt
attribute [local go_sem ↓] Go.wp_at_zero Go.wp_at_succ
attribute [local go_sem] floatUpon pick
theorem rec_ext {x y : Rec} (h0 : x.kind = y.kind) (h1 : x.txn = y.txn) (h2 : x.ts = y.ts) (h3 : x.coord = y.coord) (h4 : x.key = y.key) (h5 : x.text = y.text) (h6 : x.dead = y.dead) (h7 : x.keys = y.keys) (h8 : x.ws = y.ws) : x = y := by
  obtain ⟨a0, a1, a2, a3, a4, a5, a6, a7, a8⟩ := x
  obtain ⟨b0, b1, b2, b3, b4, b5, b6, b7, b8⟩ := y
  simp only at h0 h1 h2 h3 h4 h5 h6 h7 h8
  subst h0 h1 h2 h3 h4 h5 h6 h7 h8; rfl
noncomputable def sameB (x y : Rec) : Bool := @decide (x = y) (Classical.propDecidable _)
theorem sameB_true {x y : Rec} (h : x = y) : sameB x y = true := by unfold sameB; exact @decide_eq_true _ (Classical.propDecidable _) h
theorem sameB_false {x y : Rec} (h : ¬ x = y) : sameB x y = false := by unfold sameB; exact @decide_eq_false _ (Classical.propDecidable _) h
theorem sameB_self (x : Rec) : sameB x x = true := sameB_true rfl
theorem sameB_parts (x y : Rec) : sameB x y = (decide (x.kind = y.kind) && (decide (x.txn = y.txn) && (decide (x.ts = y.ts) && (decide (x.coord = y.coord) && (decide (x.key = y.key) && (decide (x.text = y.text) && (decide (x.dead = y.dead) && (decide (x.keys = y.keys) && decide (x.ws = y.ws))))))))) := by
  by_cases h : x = y
  · subst h; rw [sameB_self]; simp
  · rw [sameB_false h]
    symm
    rw [Bool.eq_false_iff]
    intro hh
    simp only [Bool.and_eq_true, decide_eq_true_eq] at hh
    obtain ⟨h0, h1, h2, h3, h4, h5, h6, h7, h8⟩ := hh
    exact h (rec_ext h0 h1 h2 h3 h4 h5 h6 h7 h8)
set_option maxRecDepth 20000 in
set_option maxHeartbeats 8000000 in
theorem sameRec_any (A B A' B' : Option Addr) (c d c' d' : Nat) (x y : Rec) (w : World) (ha : StrsAt w A x.keys) (hb : WrsAt w B x.ws) (ha' : StrsAt w A' y.keys) (hb' : WrsAt w B' y.ws) (hn : x.keys.length ≤ 9223372036854775807) (hn2 : x.ws.length ≤ 9223372036854775807) :
    Calls Tryz.prog 14 #[recV x A B c d, recV y A' B' c' d'] w fun e w' => e = .returned (.bool (sameB x y)) ∧ Below w.heap.size w w' := by
  have HK := Lib.hid (fun W (hbl : Below w.heap.size w W) => same_any A A' c c' x.keys y.keys W (ha.below hbl) (ha'.below hbl) hn)
  have HW := Lib.hid (fun W (hbl : Below w.heap.size w W) => sameWrs_any B B' d d' x.ws y.ws W (hb.below hbl) (hb'.below hbl) hn2)
  unfold recV
  obtain ⟨s2, b1, b2⟩ := blk2 w (.cells #[.int .i64 x.kind, .int .i64 x.txn, .int .i64 x.ts, .int .i64 x.coord, .string x.key, .string x.text, .bool x.dead, .slice A x.keys.length c, .slice B x.ws.length d] 37) (.cells #[.int .i64 y.kind, .int .i64 y.txn, .int .i64 y.ts, .int .i64 y.coord, .string y.key, .string y.text, .bool y.dead, .slice A' y.keys.length c', .slice B' y.ws.length d'] 37)
  have hB : Below w.heap.size w ((w.alloc (.cells #[.int .i64 x.kind, .int .i64 x.txn, .int .i64 x.ts, .int .i64 x.coord, .string x.key, .string x.text, .bool x.dead, .slice A x.keys.length c, .slice B x.ws.length d] 37)).alloc (.cells #[.int .i64 y.kind, .int .i64 y.txn, .int .i64 y.ts, .int .i64 y.coord, .string y.key, .string y.text, .bool y.dead, .slice A' y.keys.length c', .slice B' y.ws.length d'] 37)) :=
    ((Below.refl _ w).alloc (Nat.le_refl _) _).alloc (by simp) _
  have HB := Lib.hid hB
  have E := Lib.hid (sameB_parts x y)
  have C1 : Cel _ _ _ [_, _, _, _, _, _, _, _, _] := b1
  have C2 : Cel _ _ _ [_, _, _, _, _, _, _, _, _] := b2
  have HC1 := Lib.hid C1
  have HC2 := Lib.hid C2
  clear hB s2 b1 b2 C1 C2 ha hb ha' hb' hn hn2
  go_enter Tryz.func14, Tryz.ntmps14
  go_upto_region 1 with fail
  generalize ((w.alloc (.cells #[.int .i64 x.kind, .int .i64 x.txn, .int .i64 x.ts, .int .i64 x.coord, .string x.key, .string x.text, .bool x.dead, .slice A x.keys.length c, .slice B x.ws.length d] 37)).alloc (.cells #[.int .i64 y.kind, .int .i64 y.txn, .int .i64 y.ts, .int .i64 y.coord, .string y.key, .string y.text, .bool y.dead, .slice A' y.keys.length c', .slice B' y.ws.length d'] 37)) = W1 at HB HC1 HC2 ⊢
  have p0 := HC1.out.cell (i := 0) rfl
  have p1 := HC1.out.cell (i := 1) rfl
  have p2 := HC1.out.cell (i := 2) rfl
  have p3 := HC1.out.cell (i := 3) rfl
  have p4 := HC1.out.cell (i := 4) rfl
  have p5 := HC1.out.cell (i := 5) rfl
  have p6 := HC1.out.cell (i := 6) rfl
  have p7 := HC1.out.cell (i := 7) rfl
  have p8 := HC1.out.cell (i := 8) rfl
  have q0 := HC2.out.cell (i := 0) rfl
  have q1 := HC2.out.cell (i := 1) rfl
  have q2 := HC2.out.cell (i := 2) rfl
  have q3 := HC2.out.cell (i := 3) rfl
  have q4 := HC2.out.cell (i := 4) rfl
  have q5 := HC2.out.cell (i := 5) rfl
  have q6 := HC2.out.cell (i := 6) rfl
  have q7 := HC2.out.cell (i := 7) rfl
  have q8 := HC2.out.cell (i := 8) rfl
  have e0 : ((x.kind == y.kind) : Bool) = decide (x.kind = y.kind) := by rfl
  have e1 : ((x.txn == y.txn) : Bool) = decide (x.txn = y.txn) := by rfl
  have e2 : ((x.ts == y.ts) : Bool) = decide (x.ts = y.ts) := by rfl
  have e3 : ((x.coord == y.coord) : Bool) = decide (x.coord = y.coord) := by rfl
  have e4 := eql_dec x.key y.key
  have e5 := eql_dec x.text y.text
  have e6 : (x.dead == y.dead) = decide (x.dead = y.dead) := by cases x.dead <;> cases y.dead <;> rfl
  generalize decide (x.kind = y.kind) = r0 at *
  generalize decide (x.txn = y.txn) = r1 at *
  generalize decide (x.ts = y.ts) = r2 at *
  generalize decide (x.coord = y.coord) = r3 at *
  generalize decide (x.key = y.key) = r4 at *
  generalize decide (x.text = y.text) = r5 at *
  generalize decide (x.dead = y.dead) = r6 at *
  generalize decide (x.keys = y.keys) = r7 at *
  generalize decide (x.ws = y.ws) = r8 at *
  clear HC1 HC2
  cases r0 with
  | false =>
    go_wp2_with fail
    go_ret
    exact ⟨by rw [E.out]; rfl, HB.out⟩
  | true =>
  cases r1 with
  | false =>
    go_wp2_with fail
    go_ret
    exact ⟨by rw [E.out]; rfl, HB.out⟩
  | true =>
  cases r2 with
  | false =>
    go_wp2_with fail
    go_ret
    exact ⟨by rw [E.out]; rfl, HB.out⟩
  | true =>
  cases r3 with
  | false =>
    go_wp2_with fail
    go_ret
    exact ⟨by rw [E.out]; rfl, HB.out⟩
  | true =>
  cases r4 with
  | false =>
    go_wp2_with fail
    go_ret
    exact ⟨by rw [E.out]; rfl, HB.out⟩
  | true =>
  cases r5 with
  | false =>
    go_wp2_with fail
    go_ret
    exact ⟨by rw [E.out]; rfl, HB.out⟩
  | true =>
  cases r6 with
  | false =>
    go_wp2_with fail
    go_ret
    exact ⟨by rw [E.out]; rfl, HB.out⟩
  | true =>
  cases r7 with
  | false =>
    go_wp2_with fail
    refine (HK.out _ HB.out).mono ?_
    rintro e w2 ⟨rfl, n, rfl⟩
    have HB2 : Hid (Below w.heap.size w (W1.drewN n)) := Lib.hid ⟨HB.out.1, HB.out.2, HB.out.3, HB.out.4, HB.out.5⟩
    go_wp2_with fail
    go_ret
    exact ⟨by rw [E.out]; rfl, HB2.out⟩
  | true =>
    go_wp2_with fail
    refine (HK.out _ HB.out).mono ?_
    rintro e w2 ⟨rfl, n, rfl⟩
    have HB2 : Hid (Below w.heap.size w (W1.drewN n)) := Lib.hid ⟨HB.out.1, HB.out.2, HB.out.3, HB.out.4, HB.out.5⟩
    have k8 : (W1.drewN n).cell? ⟨w.heap.size, 8, none⟩ = some (.slice B x.ws.length d) := p8
    have m8 : (W1.drewN n).cell? ⟨w.heap.size + 1, 8, none⟩ = some (.slice B' y.ws.length d') := q8
    clear HB HK p0 p1 p2 p3 p4 p5 p6 p7 p8 q0 q1 q2 q3 q4 q5 q6 q7 q8
    generalize W1.drewN n = W2 at *
    go_wp2_with fail
    refine (HW.out _ HB2.out).mono ?_
    rintro e w3 ⟨rfl, hb⟩
    have HB3 := Lib.hid (HB2.out.trans (hb.mono HB2.out.size))
    clear hb HB2 HW
    go_wp2_with fail
    go_ret
    exact ⟨by rw [E.out]; simp, HB3.out⟩
end Rc
end Go.Proofs.YtbkanoblcojdfaaGreat

namespace Go.Proofs.YtbkanoblcojdfaaGreat
namespace Rc
open Go.RowKit Bk Lt
attribute [local go_sem ↓] Go.wp_at_zero Go.wp_at_succ
attribute [local go_sem] floatUpon pick
def CheckAll : Prop := ∀ (A B : Option Addr) (c d : Nat) (r : Rec) (w : World), RecVal w A B c d r →
  Calls Tryz.prog 39 #[recV r A B c d] w fun e w' => e = .returned (.int .i64 (ckN r : Int)) ∧ Below w.heap.size w w'
theorem nil_strs (w : World) (A : Option Addr) : StrsAt w A [] := fun h => absurd h (by simp)
theorem nil_wrs (w : World) (A : Option Addr) : WrsAt w A [] := fun h => absurd h (by simp)
def bareR (k t s : Int) : Rec := ⟨k, t, s, 0, ⟨#[]⟩, ⟨#[]⟩, false, [], []⟩
theorem bare_val (w : World) (k t s : Int) (h : RecOk (bareR k t s)) : RecVal w none none 0 0 (bareR k t s) :=
  ⟨nil_strs _ _, nil_wrs _ _, ⟨h.rng, Nat.le_refl _, Nat.le_refl _, Nat.zero_le _, Nat.zero_le _⟩, fun _ => ⟨rfl, rfl⟩, fun _ => ⟨rfl, rfl⟩⟩
end Rc
end Go.Proofs.YtbkanoblcojdfaaGreat

namespace Go.Proofs.YtbkanoblcojdfaaGreat
namespace Rc
open Go.RowKit Bk Lt
attribute [local go_sem ↓] Go.wp_at_zero Go.wp_at_succ
attribute [local go_sem] floatUpon pick
end Rc
end Go.Proofs.YtbkanoblcojdfaaGreat

namespace Go.Proofs.YtbkanoblcojdfaaGreat
namespace Tr
open Go.ChangeShapes Go.WideShapes Go.ChangeAt Go.RowKit Go.Joins Go.Deep Bk Lt Rc
structure RI where
  l : Rec
  A : Option Addr
  B : Option Addr
  c : Nat
  d : Nat
instance : Inhabited RI := ⟨⟨noRec, none, none, 0, 0⟩⟩
def rcs (x : RI) : List Value := [.int .i64 x.l.kind, .int .i64 x.l.txn, .int .i64 x.l.ts, .int .i64 x.l.coord, .string x.l.key, .string x.l.text, .bool x.l.dead, .slice x.A x.l.keys.length x.c, .slice x.B x.l.ws.length x.d]
def RecsAt (w : World) (A : Option Addr) (L : List RI) : Prop :=
  0 < L.length → ∃ ad, A = some ad ∧ ad.block < w.heap.size ∧ ∀ i (h : i < L.length) (j : Nat) (v : Value), (rcs L[i])[j]? = some v → w.cell? (ad.add (i * 9 + j)) = some v
def RecsOf (w : World) (v : Value) (L : List RI) : Prop :=
  ∃ (A : Option Addr) (c : Nat), v = .slice A L.length c ∧ RecsAt w A L ∧ L.length * 16 ≤ reachBytes ∧ (∀ x ∈ L, RecVal w x.A x.B x.c x.d x.l)
section
variable {H : Type} {enc : TypeId × Value → H} {W : World}
theorem weights_at {e t : TypeId} {d : DataW H} {ds sp : List (DataW H)} (ht : Tryz.prog.underlying t = some (.slice e)) (hm : d ∈ ds) (hwt : ∀ k ∈ (DataW.slice ds sp).weights Tryz.prog t, k ≤ reachBytes) : ∀ k ∈ d.weights Tryz.prog e, k ≤ reachBytes := fun k hk => hwt k (by
  simp only [DataW.weights, ht, List.mem_cons, List.mem_append]
  refine .inr (.inl ?_)
  have : ∀ (l : List (DataW H)), d ∈ l → k ∈ DataW.weightsAll Tryz.prog e l := by
    intro l
    induction l with
    | nil => intro h; simp at h
    | cons x r ih =>
      intro h
      show k ∈ x.weights Tryz.prog e ++ DataW.weightsAll Tryz.prog e r
      rw [List.mem_append]
      rcases List.mem_cons.1 h with rfl | h
      · exact .inl hk
      · exact .inr (ih h)
  exact this _ hm)
set_option maxRecDepth 20000 in
set_option maxHeartbeats 4000000 in
theorem field_recs {t : TypeId} {v : Value} {fuel : Nat} {y : DataW H × List MemPlace} (ht : Tryz.prog.underlying t = some (.slice 37)) (ce : Tryz.prog.cellsOf 37 = 9) (hb16 : 16 ≤ Tryz.prog.bytesOf 37)
    (hf : DataW.trod enc Tryz.prog W 0 (fun _ => true) true fuel t [v] = some y) (hwt : ∀ k ∈ y.1.weights Tryz.prog t, k ≤ reachBytes) (hl : ∀ x ∈ y.2, x.block < W.heap.size) :
    ∃ L, RecsOf W v L := by
  rcases open_slice ht hf with ⟨hcs, _⟩ | ⟨a, len, cap, m, n, D, Pl, hcs, _, hl', hm, hmm, hx, hall⟩
  · obtain rfl : v = .slice none 0 0 := by simpa using hcs
    exact ⟨[], none, 0, rfl, fun h => absurd h (by simp), by simp, by simp⟩
  · obtain rfl : v = .slice (some a) len cap := by simpa using hcs
    subst hx
    simp only [if_true] at hmm
    subst hmm
    have each : ∀ i, i < len → ∃ q : RI, (∀ (j : Nat) (v : Value), (rcs q)[j]? = some v → W.cell? (a.add (i * 9 + j)) = some v) ∧ RecVal W q.A q.B q.c q.d q.l := by
      intro i hi
      obtain ⟨cs', h1, h2⟩ := hall i (by omega)
      rw [ce] at h1
      obtain ⟨_, hlen, hcell⟩ := World.cells?_some h1
      have hwi : ∀ k ∈ (D i).weights Tryz.prog 37, k ≤ reachBytes := weights_at ht (List.mem_map.2 ⟨i, List.mem_range.2 hi, rfl⟩) hwt
      obtain ⟨xs, k, _, hxy, _, hxl, hff⟩ := DataW.trod_struct Tryz.underlying37 h2
      simp only [Prod.mk.injEq] at hxy
      rw [hxy.1] at hwi
      have hpl : ∀ y ∈ xs, ∀ x ∈ y.2, x.block < W.heap.size := fun y hy x hx => hl x (by
        refine List.mem_append_right _ (List.mem_flatMap.2 ⟨i, List.mem_range.2 (by omega), ?_⟩)
        rw [hxy.2]
        exact List.mem_flatMap.2 ⟨y, hy, hx⟩)
      match xs, hxl, cs', hlen with
      | [y0, y1, y2, y3, y4, y5, y6, y7, y8], _, [v0, v1, v2, v3, v4, v5, v6, v7, v8], _ =>
        have g0 := hff 0 _ rfl
        have g1 := hff 1 _ rfl
        have g2 := hff 2 _ rfl
        have g3 := hff 3 _ rfl
        have g4 := hff 4 _ rfl
        have g5 := hff 5 _ rfl
        have g6 := hff 6 _ rfl
        have g7 := hff 7 _ rfl
        have g8 := hff 8 _ rfl
        simp at g0 g1 g2 g3 g4 g5 g6 g7 g8
        obtain ⟨kind, rfl, r0⟩ := field_int Tryz.underlying3 g0
        obtain ⟨txn, rfl, r1⟩ := field_int Tryz.underlying3 g1
        obtain ⟨ts', rfl, r2⟩ := field_int Tryz.underlying3 g2
        obtain ⟨coord, rfl, r3⟩ := field_int Tryz.underlying3 g3
        obtain ⟨key, rfl, r4⟩ := field_text Tryz.underlying9 g4 (agg_weights (i := 4) Tryz.underlying37 rfl rfl hwi)
        obtain ⟨text, rfl, r5⟩ := field_text Tryz.underlying9 g5 (agg_weights (i := 5) Tryz.underlying37 rfl rfl hwi)
        obtain ⟨dead, rfl⟩ := field_bool Tryz.underlying4 g6
        obtain ⟨A, c, K, rfl, a1, a2, a3, a4, a5, a6⟩ := field_texts Tryz.underlying23 Tryz.underlying9 (by kernel_rfl) (by kernel_rfl) g7 (agg_weights (i := 7) Tryz.underlying37 rfl rfl hwi) (hpl y7 (by simp))
        obtain ⟨B, d, M, rfl, b1, b2, b3, b4, b5, b6⟩ := field_writes40 Tryz.underlying35 Tryz.underlying45 (by kernel_rfl) (by kernel_rfl) Tryz.underlying9 Tryz.underlying9 Tryz.underlying4 (of_decide_eq_true (by kernel_rfl)) g8 (agg_weights (i := 8) Tryz.underlying37 rfl rfl hwi) (hpl y8 (by simp))
        refine ⟨⟨⟨kind, txn, ts', coord, key, text, dead, K, M⟩, A, B, c, d⟩, fun j v hv => ?_, ⟨a1, b1, ⟨⟨r0, r1, r2, r3, r4, r5, a2, b2, a5, b5⟩, a3, b3, a4, b4⟩, a6, b6⟩⟩
        have hj : j < 9 := (List.getElem?_eq_some_iff.1 hv).1
        have e := hcell j hj
        rw [Lt.add_add] at e
        rw [e]
        exact hv
    obtain ⟨q, hq⟩ := choose_lt each
    have hL : ((List.range len).map q).length = len := by simp
    have hat : ∀ i (h : i < ((List.range len).map q).length), ((List.range len).map q)[i] = q i := fun i h => by simp
    have hs := hwt ((((List.range len).map D).length + ((List.range (m - len)).map fun j => D (len + j)).length) * Tryz.prog.bytesOf 37) (by simp [DataW.weights, ht])
    refine ⟨(List.range len).map q, some a, m, by rw [hL], fun hpos => ⟨a, rfl, ?_, fun i hi j v hv => ?_⟩, ?_, fun x hx => ?_⟩
    · obtain ⟨b, off, spot⟩ := a
      rw [hL] at hpos
      exact hl (.cell b off) (List.mem_append_left _ (MemPlace.mem_row.2 ⟨0, by rw [ce]; omega, by simp⟩))
    · rw [hat i hi] at hv
      exact (hq i (by rw [hL] at hi; exact hi)).1 j v hv
    · rw [hL]
      refine Nat.le_trans (Nat.mul_le_mul ?_ hb16) hs
      rw [List.length_map, List.length_range]
      omega
    · obtain ⟨i, hi, rfl⟩ := List.mem_map.1 hx
      exact (hq i (List.mem_range.1 hi)).2
set_option maxRecDepth 20000 in
theorem open_recs {base : Nat} {v : Value} {d : DataW H} {p : List MemPlace} {ts : List TypeId} {ds : List (DataW H)} {j : Nat}
    (hsz : (DataW.weightsEach Tryz.prog ts ds).all (· ≤ reachBytes) = true) (hj : ts[j]? = some 22) (hd : ds[j]? = some d)
    (hv : Value.okWide Tryz.prog W .any base 22 v) (h : DataW.Trod enc Tryz.prog W 0 (fun _ => true) true 22 v d p) (hl : ∀ x ∈ p, x.block < W.heap.size) : ∃ L, RecsOf W v L := by
  obtain ⟨a0, len, cap, rfl⟩ := okWide_slice Tryz.underlying22 hv
  obtain ⟨fuel, hf⟩ := h
  exact field_recs Tryz.underlying22 (by kernel_rfl) (of_decide_eq_true (by kernel_rfl)) hf (arg_weights hsz hj hd) hl
end
theorem Tryz.infoRec : (Tryz.prog.info? 37).map (fun i => (i.zero.map (·.cells.size), i.size, i.bytes)) = some (some 9, 9, 120) := by kernel_rfl
theorem info_rec : ∃ i z, Tryz.prog.info? 37 = some i ∧ i.zero = some z ∧ z.cells.size = 9 ∧ i.size = 9 ∧ i.bytes = 120 := by
  have h := Tryz.infoRec
  cases hi : Tryz.prog.info? 37 with
  | none => rw [hi] at h; cases h
  | some i =>
    rw [hi] at h
    simp only [Option.map_some, Option.some.injEq, Prod.mk.injEq] at h
    obtain ⟨h1, h2, h3⟩ := h
    cases hz : i.zero with
    | none => rw [hz] at h1; cases h1
    | some z =>
      rw [hz] at h1
      simp only [Option.map_some, Option.some.injEq] at h1
      exact ⟨i, z, rfl, hz, h1, h2, h3⟩
theorem flat_len (K : List RI) : (K.flatMap rcs).length = K.length * 9 := by
  induction K with
  | nil => rfl
  | cons x r ih => rw [List.flatMap_cons, List.length_append, ih, List.length_cons]; show 9 + _ = _; omega
theorem flat_at : ∀ {K : List RI} {i : Nat} (h : i < K.length) {j : Nat} (_ : j < 9), (K.flatMap rcs)[i * 9 + j]? = (rcs K[i])[j]?
  | [], _, h, _, _ => absurd h (by simp)
  | x :: r, 0, _, j, hj => by
    rw [List.flatMap_cons, List.getElem?_append_left (by show _ < 9; omega), Nat.zero_mul, Nat.zero_add]; rfl
  | x :: r, i + 1, h, j, hj => by
    have h9 : (rcs x).length = 9 := rfl
    rw [List.flatMap_cons, List.getElem?_append_right (by rw [h9]; omega), h9, show (i + 1) * 9 + j - 9 = i * 9 + j by omega, flat_at (K := r) (by simpa using h) hj]
    rfl
theorem one_cells (x : RI) : ∀ u ∈ rcs x, u.oneCell' = true := fun u hu => by
  unfold rcs at hu
  simp only [List.mem_cons, List.not_mem_nil, or_false] at hu
  rcases hu with rfl | rfl | rfl | rfl | rfl | rfl | rfl | rfl | rfl <;> rfl
end Tr
end Go.Proofs.YtbkanoblcojdfaaGreat

namespace Go.Proofs.YtbkanoblcojdfaaGreat
namespace Sh
open Go.RowKit Bk Ch
structure Away (F : Nat → Prop) (w w' : World) : Prop where
  size : w.heap.size ≤ w'.heap.size
  block : ∀ k, k < w.heap.size → ¬ F k → w'.heap[k]? = w.heap[k]?
theorem Away.refl (F : Nat → Prop) (w : World) : Away F w w := ⟨Nat.le_refl _, fun _ _ _ => rfl⟩
theorem Away.of {F : Nat → Prop} {w w' : World} (h : Below w.heap.size w w') : Away F w w' := ⟨h.size, fun k hk _ => h.block k hk⟩
theorem Away.trans {F : Nat → Prop} {a b c : World} (h : Away F a b) (k : Away F b c) : Away F a c :=
  ⟨Nat.le_trans h.size k.size, fun i hi hn => (k.block i (Nat.lt_of_lt_of_le hi h.size) hn).trans (h.block i hi hn)⟩
theorem Away.cell {F : Nat → Prop} {w w' : World} (h : Away F w w') (a : Addr) (ha : a.block < w.heap.size) (hF : ¬ F a.block) : w'.cell? a = w.cell? a := by
  unfold World.cell?
  rw [h.block a.block ha hF]
def RowF (W : World) (F : Nat → Prop) (A : Option Addr) (cs : List Value) : Prop :=
  0 < cs.length → ∃ ad, A = some ad ∧ ad.block < W.heap.size ∧ ¬ F ad.block ∧ ∀ (j : Nat) (v : Value), cs[j]? = some v → W.cell? (ad.add j) = some v
theorem RowF.away {W W' : World} {F : Nat → Prop} {A : Option Addr} {cs : List Value} (h : RowF W F A cs) (k : Away F W W') : RowF W' F A cs := fun hp => by
  obtain ⟨ad, e, h1, h2, h3⟩ := h hp
  exact ⟨ad, e, Nat.lt_of_lt_of_le h1 k.size, h2, fun j v hv => (k.cell _ (by rw [st_block]; exact h1) (by rw [st_block]; exact h2)).trans (h3 j v hv)⟩
theorem RowF.below {W W' : World} {F : Nat → Prop} {A : Option Addr} {cs : List Value} (h : RowF W F A cs) (k : Below W.heap.size W W') : RowF W' F A cs := h.away (Away.of k)
theorem RowF.turn {W : World} {F F' : Nat → Prop} {A : Option Addr} {cs : List Value} (h : RowF W F A cs) (hF : ∀ k, F' k → F k ∨ W.heap.size ≤ k) : RowF W F' A cs := fun hp => by
  obtain ⟨ad, e, h1, h2, h3⟩ := h hp
  exact ⟨ad, e, h1, fun hf => (hF _ hf).elim h2 (fun h => by omega), h3⟩
theorem RowF.nil (W : World) (F : Nat → Prop) (A : Option Addr) : RowF W F A [] := fun hp => absurd hp (by simp)
theorem RowF.news {W : World} {F : Nat → Prop} {ad : Addr} {cs : List Value} (h : RowF W F (some ad) cs) : ∀ j u, cs[j]? = some u → W.cell? (ad.add j) = some u := fun j u hu => by
  obtain ⟨a', e, _, _, h3⟩ := h (Nat.lt_of_le_of_lt (Nat.zero_le _) (List.getElem?_eq_some_iff.1 hu).1)
  obtain rfl := Option.some.inj e
  exact h3 j u hu
theorem RowF.drop {W : World} {F : Nat → Prop} {ad : Addr} {cs : List Value} (h : RowF W F (some ad) cs) (n : Nat) : RowF W F (some (ad.add n)) (cs.drop n) := fun hp => by
  rw [List.length_drop] at hp
  obtain ⟨a', e, h1, h2, h3⟩ := h (by omega)
  obtain rfl := Option.some.inj e
  exact ⟨_, rfl, by rw [st_block]; exact h1, by rw [st_block]; exact h2, fun j v hv => by rw [Go.Deep.add_add]; exact h3 _ _ (by rw [List.getElem?_drop] at hv; exact hv)⟩
theorem RowF.take {W : World} {F : Nat → Prop} {A : Option Addr} {cs : List Value} (h : RowF W F A cs) (n : Nat) : RowF W F A (cs.take n) := fun hp => by
  rw [List.length_take] at hp
  obtain ⟨ad, e, h1, h2, h3⟩ := h (by omega)
  exact ⟨ad, e, h1, h2, fun j v hv => h3 j v (by
    have := (List.getElem?_eq_some_iff.1 hv).1
    rw [List.length_take] at this
    rwa [List.getElem?_take_of_lt (by omega)] at hv)⟩
theorem own_rowF {W : World} {F : Nat → Prop} {H n sz : Nat} {v : Value} {e : TypeId} {cs : List Value} (h : W.ownsRow H e sz v n cs) (hl : cs.length = n * sz) (hF : ∀ k, F k → k < H) : ∃ (A : Option Addr) (c : Nat), v = .slice A n c ∧ RowF W F A cs ∧ n ≤ c ∧ c ≤ maxLen ∧ (A = none → n = 0 ∧ c = 0) := by
  rcases h.2 with ⟨rfl, rfl⟩ | ⟨g, cap, cur, rfl, hH, hg, h1, h2, hsz, htk⟩
  · exact ⟨none, 0, rfl, fun hp => by rw [hl] at hp; simp at hp, Nat.le_refl _, Nat.zero_le _, fun _ => ⟨rfl, rfl⟩⟩
  · refine ⟨_, cap, rfl, fun _ => ⟨_, rfl, (Array.getElem?_eq_some_iff.1 hg).1, fun hf => by have := hF _ hf; simp only at this; omega, fun j u hu => ?_⟩, h1, h2, fun e => by cases e⟩
    rw [addr_head]
    refine blk_cell hg ?_
    have hj := (List.getElem?_eq_some_iff.1 hu).1
    rw [← htk, List.getElem?_take_of_lt (by omega)] at hu
    rw [← Array.getElem?_toList]; exact hu
theorem flatN_len {α : Type} {f : α → List Value} {sz : Nat} (hf : ∀ x, (f x).length = sz) (L : List α) : (L.flatMap f).length = L.length * sz := by
  induction L with
  | nil => simp
  | cons x r ih => rw [List.flatMap_cons, List.length_append, ih, hf, List.length_cons, Nat.succ_mul]; omega
theorem flatN_at {α : Type} {f : α → List Value} {sz : Nat} (hf : ∀ x, (f x).length = sz) : ∀ {L : List α} {i : Nat} (h : i < L.length) {j : Nat} (_ : j < sz), (L.flatMap f)[i * sz + j]? = (f L[i])[j]?
  | [], _, h, _, _ => absurd h (by simp)
  | x :: r, 0, _, j, hj => by
    rw [List.flatMap_cons, List.getElem?_append_left (by rw [hf]; omega), Nat.zero_mul, Nat.zero_add]; rfl
  | x :: r, i + 1, h, j, hj => by
    rw [List.flatMap_cons, List.getElem?_append_right (by rw [hf, Nat.succ_mul]; omega), hf, show (i + 1) * sz + j - sz = i * sz + j by rw [Nat.succ_mul]; omega, flatN_at hf (L := r) (by simpa using h) hj]
    rfl
theorem flatN_drop {α : Type} {f : α → List Value} {sz : Nat} (hf : ∀ x, (f x).length = sz) : ∀ (L : List α) (i : Nat), (L.flatMap f).drop (i * sz) = (L.drop i).flatMap f
  | [], i => by simp
  | x :: r, 0 => by simp
  | x :: r, i + 1 => by
    rw [List.flatMap_cons, List.drop_succ_cons, ← flatN_drop hf r i, show (i + 1) * sz = (f x).length + i * sz by rw [hf, Nat.succ_mul]; omega, List.drop_append, Nat.add_sub_cancel_left, List.drop_of_length_le (by omega), List.nil_append]
theorem flatN_take {α : Type} {f : α → List Value} {sz : Nat} (hf : ∀ x, (f x).length = sz) : ∀ (L : List α) (i : Nat), (L.flatMap f).take (i * sz) = (L.take i).flatMap f
  | [], i => by simp
  | x :: r, 0 => by simp
  | x :: r, i + 1 => by
    rw [List.flatMap_cons, List.take_succ_cons, List.flatMap_cons, ← flatN_take hf r i, show (i + 1) * sz = (f x).length + i * sz by rw [hf, Nat.succ_mul]; omega, List.take_append, Nat.add_sub_cancel_left, List.take_of_length_le (by omega)]
theorem RowF.at {α : Type} {f : α → List Value} {sz : Nat} {W : World} {F : Nat → Prop} {A : Option Addr} {L : List α} (h : RowF W F A (L.flatMap f)) (hf : ∀ x, (f x).length = sz) (hz : 0 < sz) {i : Nat} (hi : i < L.length) : ∃ ad, A = some ad ∧ ad.block < W.heap.size ∧ ¬ F ad.block ∧ ∀ j v, (f L[i])[j]? = some v → W.cell? (ad.add (i * sz + j)) = some v := by
  obtain ⟨ad, e, h1, h2, h3⟩ := h (by rw [flatN_len hf]; exact Nat.mul_pos (by omega) hz)
  exact ⟨ad, e, h1, h2, fun j v hv => h3 _ _ (by
    have := (List.getElem?_eq_some_iff.1 hv).1
    rw [hf] at this
    rw [flatN_at hf hi this]; exact hv)⟩
theorem slice_fromN (t e : TypeId) (i : TypeInfo) (ht : Tryz.prog.underlying t = some (.slice (Tryz.prog.elem t))) (he : Tryz.prog.elem t = e) (hi : Tryz.prog.info? e = some i) (sz : Nat) (hsz : i.size = sz)
    (A : Option Addr) (m c n : Nat) (hn : n ≤ m) (hc : m ≤ c) (hnil : A = none → m = 0 ∧ c = 0) : ∃ (A' : Option Addr) (c' : Nat),
    (∀ W, (Instr.slice t (.slice A m c) (some (.int .i64 (n : Int))) none none).run Tryz.prog W = .ok (.slice A' (m - n) c') W) ∧
    (∀ W F (cs : List Value), cs.length = m * sz → RowF W F A cs → RowF W F A' (cs.drop (n * sz))) ∧ (A' = none → m - n = 0 ∧ c' = 0) ∧ m - n ≤ c' ∧ c' ≤ c := by
  refine ⟨if c = n then A else A.map (·.add (n * sz)), c - n, fun W => ?_, fun W F cs hl h => ?_, fun h => ?_, by omega, by omega⟩
  · have e1 := run_slice_l (P := Tryz.prog) W t A m c ht .i64 (n : Int) (by omega) (by omega)
    rw [e1, he]
    simp [sizeOf, typeInfo, hi, hsz, sliced]
  · by_cases e1 : c = n
    · rw [List.drop_of_length_le (by rw [hl, show m = n by omega]; exact Nat.le_refl _)]
      exact RowF.nil _ _ _
    · rw [if_neg e1]
      cases A with
      | none =>
        rw [List.drop_of_length_le (by rw [hl, (hnil rfl).1]; omega)]
        exact RowF.nil _ _ _
      | some ad => exact h.drop _
  · by_cases e1 : c = n
    · rw [if_pos e1] at h; have := hnil h; omega
    · rw [if_neg e1] at h
      cases A with
      | none => have := hnil rfl; omega
      | some ad => simp at h
theorem slice_toN (t e : TypeId) (i : TypeInfo) (ht : Tryz.prog.underlying t = some (.slice (Tryz.prog.elem t))) (he : Tryz.prog.elem t = e) (hi : Tryz.prog.info? e = some i)
    (A : Option Addr) (m c n : Nat) (hn : n ≤ c) : ∀ W, (Instr.slice t (.slice A m c) none (some (.int .i64 (n : Int))) none).run Tryz.prog W = .ok (.slice A n c) W := fun W => by
  have e1 := run_slice_h (P := Tryz.prog) W t A m c ht .i64 (n : Int) (by omega) (by omega)
  rw [e1, he]
  have ha : ∀ a : Addr, a.add 0 = a := fun a => by unfold Addr.add; rw [if_pos rfl]
  by_cases h : c = 0
  · simp [sizeOf, typeInfo, hi, sliced, h]
  · cases A with
    | none => simp [sizeOf, typeInfo, hi, sliced]
    | some a => simp [sizeOf, typeInfo, hi, sliced, ha]
theorem run_append_optN {P : Program} (w : World) (base : Nat) (t ty e : TypeId) (i : TypeInfo) (z : Value) (sz bytes : Nat) (ht : P.underlying t = some (.slice e)) (hi : P.info? e = some i) (hz : i.zero = some z)
    (hsize : i.size = sz) (hby : i.bytes = bytes) (hzs : z.cells.size = sz) (h0 : 0 < sz) (v : Value) (n : Nat) (xs : List Value) (hown : w.ownsRow base e sz v n xs)
    (A : Option Addr) (m c : Nat) (news : List Value) (hl : news.length = m * sz) (hA : A = none → m = 0 ∧ c = 0) (hnews : ∀ ad, A = some ad → ∀ j u, news[j]? = some u → w.cell? (ad.add j) = some u) (h1 : ∀ u ∈ news, u.oneCell' = true)
    (h63 : n + m ≤ maxLen) (hbytes : (n + m) * bytes ≤ 140737488355328) (hbase : base ≤ w.heap.size) :
    ∃ v' w', (Builtin.append_ #[t, t] ty #[v, .slice A m c]).run P w = .ok v' w' ∧ w'.ownsRow base e sz v' (n + m) (xs ++ news) ∧ w.grownBy w' v.ownBlock ∧ (v'.ownBlock = v.ownBlock ∨ v'.ownBlock = some w.heap.size) := by
  cases A with
  | none =>
    obtain ⟨rfl, rfl⟩ := hA rfl
    obtain rfl : news = [] := List.eq_nil_of_length_eq_zero (by omega)
    exact ⟨v, w, run_append_owned_none (P := P) w base t ty e i sz ht hi _ _ _ hown, by rw [List.append_nil]; exact hown, ⟨rfl, rfl, rfl, Nat.le_refl _, fun _ _ _ => rfl⟩, .inl rfl⟩
  | some ad =>
    obtain ⟨v', w', hr, h2, h3, _, h5⟩ := run_append_own_at (P := P) w base t ty e i z sz bytes ht hi hz hsize hby hzs h0 v n xs hown ad m c news hl (hnews ad rfl) h1 h63 hbytes hbase
    exact ⟨v', w', hr, h2, h3, h5⟩
theorem wpList_append_optN {P : Program} {w : World} {ops : Array Oper} {rest : List Oper} {o : Oper} {a : Act} {Q : Exit → Act → World → Prop} (hgd : o.guard = none) (s x : Operand) (t : TypeId)
    (ho : o.op = .call { callee := .builtin .append, args := #[s, x], argTypes := #[t, t] })
    (base : Nat) (e : TypeId) (i : TypeInfo) (z : Value) (sz bytes : Nat) (ht : P.underlying t = some (.slice e)) (hi : P.info? e = some i) (hz : i.zero = some z)
    (hsize : i.size = sz) (hby : i.bytes = bytes) (hzs : z.cells.size = sz) (h0 : 0 < sz) (v : Value) (n : Nat) (xs : List Value) (hs : a.eval s = v) (hown : w.ownsRow base e sz v n xs)
    (A : Option Addr) (m c : Nat) (news : List Value) (hx : a.eval x = .slice A m c) (hl : news.length = m * sz) (hA : A = none → m = 0 ∧ c = 0) (hnews : ∀ ad, A = some ad → ∀ j u, news[j]? = some u → w.cell? (ad.add j) = some u) (h1 : ∀ u ∈ news, u.oneCell' = true)
    (h63 : n + m ≤ maxLen) (hbytes : (n + m) * bytes ≤ 140737488355328) (hbase : base ≤ w.heap.size)
    (h : ∀ v' w', w'.ownsRow base e sz v' (n + m) (xs ++ news) → w.grownBy w' v.ownBlock → (v'.ownBlock = v.ownBlock ∨ v'.ownBlock = some w.heap.size) → wpList P ops Q rest (a.put o.dst v') w') :
    wpList P ops Q (o :: rest) a w := by
  refine wpList_plain hgd fun K hK => ?_
  obtain ⟨v', w', hr, h2, h3, h5⟩ := run_append_optN (P := P) w base t o.type e i z sz bytes ht hi hz hsize hby hzs h0 v n xs hown A m c news hl hA hnews h1 h63 hbytes hbase
  unfold Oper.wp execOp
  simp only [ho, resolve, invoke, builtin, Sem.run_bind, Sem.run_pure, Result.andThen_ok, List.map_toArray, List.map_cons, List.map_nil, hs, hx, hr]
  exact hK _ _ (h v' w' h2 h3 h5)
theorem run_append_emptyN {P : Program} (w : World) (base : Nat) (t ty e : TypeId) (i : TypeInfo) (z : Value) (sz bytes : Nat) (ht : P.underlying t = some (.slice e)) (hi : P.info? e = some i) (hz : i.zero = some z)
    (hsize : i.size = sz) (hby : i.bytes = bytes) (hzs : z.cells.size = sz) (h0 : 0 < sz) (g : Nat) (hg : w.heap[g]? = some (.cells #[] e (0, 0))) (hbg : base ≤ g)
    (A : Option Addr) (m c : Nat) (news : List Value) (hl : news.length = m * sz) (hA : A = none → m = 0 ∧ c = 0) (hnews : ∀ ad, A = some ad → ∀ j u, news[j]? = some u → w.cell? (ad.add j) = some u) (h1 : ∀ u ∈ news, u.oneCell' = true)
    (h63 : m ≤ maxLen) (hbytes : m * bytes ≤ 140737488355328) :
    ∃ v' w', (Builtin.append_ #[t, t] ty #[.slice (some ⟨g, 0, none⟩) 0 0, .slice A m c]).run P w = .ok v' w' ∧ w'.ownsRow base e sz v' m news ∧ Below w.heap.size w w' := by
  have hlt : g < w.heap.size := (Array.getElem?_eq_some_iff.1 hg).1
  have hown : w.ownsRow base e sz (.slice (some ⟨g, 0, none⟩) 0 0) 0 [] := ⟨by simp, .inr ⟨g, 0, #[], rfl, hbg, hg, Nat.le_refl _, Nat.zero_le _, by simp, by simp⟩⟩
  cases A with
  | none =>
    obtain ⟨rfl, rfl⟩ := hA rfl
    obtain rfl : news = [] := List.eq_nil_of_length_eq_zero (by omega)
    exact ⟨_, _, run_append_owned_none (P := P) w base t ty e i sz ht hi _ _ _ hown, hown, Below.refl _ _⟩
  | some ad =>
    by_cases hm : m = 0
    · subst hm
      obtain rfl : news = [] := List.eq_nil_of_length_eq_zero (by omega)
      have hr := run_append_room (P := P) w t ty e i ht hi g 0 0 #[] hg ad 0 c [] (by simp) (fun j u h => by simp at h) (fun u h => by simp at h) (by omega) (by simp)
      have he : (List.take (0 * i.size) (#[] : Array Value).toList ++ ([] : List Value) ++ List.drop (0 * i.size + ([] : List Value).length) (#[] : Array Value).toList).toArray = (#[] : Array Value) := by simp
      rw [he] at hr
      refine ⟨_, _, hr, ?_, ?_⟩
      · refine ⟨by simp, .inr ⟨g, 0, #[], rfl, hbg, ?_, Nat.le_refl _, Nat.zero_le _, by simp, by simp⟩⟩
        exact setRow_heap w g _ _ e _ hg
      · exact setRow_same hg
    · have hb2 : (0 + m) * bytes ≤ 140737488355328 := by rw [Nat.zero_add]; exact hbytes
      obtain ⟨v', w', hr, h2, h3, _, _⟩ := run_append_own_at (P := P) w base t ty e i z sz bytes ht hi hz hsize hby hzs h0 _ 0 [] hown ad m c news hl (hnews ad rfl) h1 (by omega) hb2 (by omega)
      have hr2 := run_append_grow (P := P) w t ty e i z ht hi hz ⟨g, 0, none⟩ 0 0 [] (by simp) (fun j v h => by simp at h) ad m c news (by rw [hl, hsize]) (hnews ad rfl) (by omega) (by unfold maxLen at h63; omega) (growslice_fits (by omega) (by rw [hby]; exact hb2))
      rw [hr] at hr2
      simp only [Result.ok.injEq] at hr2
      obtain ⟨e1, e2⟩ := hr2
      rw [Nat.zero_add, List.nil_append] at h2
      refine ⟨v', w', hr, h2, ?_⟩
      rw [e2]
      exact (Below.refl _ w).drew.alloc (by simp) _
theorem rgrow2 {W W' : World} {e e' : TypeId} {H H' s s' n n' : Nat} {v v' : Value} {xs xs' : List Value} (h : W.ownsRow H e s v n xs) (h' : W.ownsRow H' e' s' v' n' xs') (hne : e ≠ e') (hg : W.grownBy W' v'.ownBlock) : W'.ownsRow H e s v n xs := by
  rcases h with ⟨hl, h0 | ⟨i, cap, cur, hv, hb, hgt, rest⟩⟩
  · exact ⟨hl, .inl h0⟩
  · refine ⟨hl, .inr ⟨i, cap, cur, hv, hb, (hg.block i (Array.getElem?_eq_some_iff.1 hgt).1 (fun hi => ?_)).trans hgt, rest⟩⟩
    rcases h' with ⟨_, ⟨hn, _⟩ | ⟨i', cap', cur', hv', _, hgt', _⟩⟩
    · rw [hn] at hi; cases hi
    · rw [hv'] at hi
      obtain rfl : i = i' := by simpa [Value.ownBlock] using hi
      rw [hgt] at hgt'
      simp only [Option.some.injEq, Obj.cells.injEq] at hgt'
      exact hne hgt'.2.1
theorem own_row_at {W : World} {F : Nat → Prop} {H n sz c : Nat} {A : Option Addr} {e : TypeId} {cs : List Value} (h : W.ownsRow H e sz (.slice A n c) n cs) (hl : cs.length = n * sz) (hF : ∀ k, F k → k < H) : RowF W F A cs ∧ n ≤ c ∧ c ≤ maxLen ∧ (A = none → n = 0 ∧ c = 0) := by
  obtain ⟨A', c', e1, h1⟩ := own_rowF h hl hF
  simp only [Value.slice.injEq] at e1
  obtain ⟨rfl, -, rfl⟩ := e1
  exact h1
end Sh
end Go.Proofs.YtbkanoblcojdfaaGreat

namespace Go.Proofs.YtbkanoblcojdfaaGreat
namespace Sh
open Go.RowKit Bk Ch Lt Rc Tr
theorem Tryz.infoKey : (Tryz.prog.info? 170).map (fun i => (i.zero, i.size, i.bytes)) = some (some (.agg #[.string ⟨#[]⟩, .slice none 0 0]), 2, 40) := by kernel_rfl
theorem Tryz.infoEnd : (Tryz.prog.info? 176).map (fun i => (i.zero, i.size, i.bytes)) = some (some (.agg #[.int .i64 0, .int .i64 0]), 2, 16) := by kernel_rfl
structure KI where
  k : Kc
  A : Option Addr
  c : Nat
instance : Inhabited KI := ⟨⟨⟨⟨#[]⟩, []⟩, none, 0⟩⟩
def kcs (x : KI) : List Value := [.string x.k.name, .slice x.A x.k.l.length x.c]
def ecs (x : Int × Int) : List Value := [.int .i64 x.1, .int .i64 x.2]
theorem kcs_len (x : KI) : (kcs x).length = 2 := rfl
theorem ecs_len (x : Int × Int) : (ecs x).length = 2 := rfl
theorem rcs_len (x : RI) : (rcs x).length = 9 := rfl
structure KVal (W : World) (F : Nat → Prop) (x : KI) : Prop where
  row : RowF W F x.A (vrV x.k.l)
  nil : x.A = none → x.k.l.length = 0 ∧ x.c = 0
  le : x.k.l.length ≤ x.c
  cap : x.c ≤ maxLen
theorem RowF.vrs {W : World} {F : Nat → Prop} {A : Option Addr} {l : List Vr} (h : RowF W F A (vrV l)) : VrsAt W A l := fun hp => by
  obtain ⟨ad, e, h1, _, h3⟩ := h (by rw [vrV_len]; omega)
  refine ⟨ad, e, h1, fun i hi => ?_⟩
  obtain ⟨x0, x1, x2⟩ := vrV_at l i hi
  exact ⟨h3 _ _ x0, h3 _ _ x1, h3 _ _ x2⟩
theorem KVal.away {W W' : World} {F : Nat → Prop} {x : KI} (h : KVal W F x) (k : Away F W W') : KVal W' F x := ⟨h.row.away k, h.nil, h.le, h.cap⟩
theorem KVal.turn {W : World} {F F' : Nat → Prop} {x : KI} (h : KVal W F x) (hF : ∀ k, F' k → F k ∨ W.heap.size ≤ k) : KVal W F' x := ⟨h.row.turn hF, h.nil, h.le, h.cap⟩
structure PVal (W : World) (F : Nat → Prop) (x : RI) : Prop where
  val : RecVal W x.A x.B x.c x.d x.l
  ka : 0 < x.l.keys.length → ∀ ad, x.A = some ad → ¬ F ad.block
  wa : 0 < x.l.ws.length → ∀ ad, x.B = some ad → ¬ F ad.block
theorem strs_away {W W' : World} {F : Nat → Prop} {A : Option Addr} {l : List ByteArray} (h : StrsAt W A l) (ha : 0 < l.length → ∀ ad, A = some ad → ¬ F ad.block) (k : Away F W W') : StrsAt W' A l := fun hp => by
  obtain ⟨ad, e, h1, h2⟩ := h hp
  have hn := ha hp ad e
  exact ⟨ad, e, Nat.lt_of_lt_of_le h1 k.size, fun i hi => (k.cell _ (by rw [st_block]; exact h1) (by rw [st_block]; exact hn)).trans (h2 i hi)⟩
theorem wrs_away {W W' : World} {F : Nat → Prop} {A : Option Addr} {l : List Wr} (h : WrsAt W A l) (ha : 0 < l.length → ∀ ad, A = some ad → ¬ F ad.block) (k : Away F W W') : WrsAt W' A l := fun hp => by
  obtain ⟨ad, e, h1, h2⟩ := h hp
  have hn := ha hp ad e
  exact ⟨ad, e, Nat.lt_of_lt_of_le h1 k.size, fun i hi => ⟨(k.cell _ (by rw [st_block]; exact h1) (by rw [st_block]; exact hn)).trans (h2 i hi).1, (k.cell _ (by rw [st_block]; exact h1) (by rw [st_block]; exact hn)).trans (h2 i hi).2.1, (k.cell _ (by rw [st_block]; exact h1) (by rw [st_block]; exact hn)).trans (h2 i hi).2.2⟩⟩
theorem PVal.away {W W' : World} {F : Nat → Prop} {x : RI} (h : PVal W F x) (k : Away F W W') : PVal W' F x :=
  ⟨⟨strs_away h.val.ks h.ka k, wrs_away h.val.ws h.wa k, h.val.rng, h.val.kn, h.val.wn⟩, h.ka, h.wa⟩
theorem PVal.turn {W : World} {F F' : Nat → Prop} {x : RI} (h : PVal W F x) (hF : ∀ k, F' k → F k ∨ W.heap.size ≤ k) : PVal W F' x :=
  ⟨h.val, fun hp ad e hf => by
    obtain ⟨a', e', h1, _⟩ := h.val.ks hp
    obtain rfl := Option.some.inj (e.symm.trans e')
    exact (hF _ hf).elim (h.ka hp ad e) (fun h => by omega), fun hp ad e hf => by
    obtain ⟨a', e', h1, _⟩ := h.val.ws hp
    obtain rfl := Option.some.inj (e.symm.trans e')
    exact (hF _ hf).elim (h.wa hp ad e) (fun h => by omega)⟩
def G (F : Nat → Prop) (g : Nat) : Nat → Prop := fun k => F k ∨ k = g
structure RAt (W : World) (F : Nat → Prop) (g : Nat) (A B C : Option Addr) (a b c : Nat) (K : List KI) (P : List RI) (s : Shf) : Prop where
  cel : Cel W g 33 [.slice A K.length a, .slice B P.length b, .slice C s.e.length c, .int .i64 s.over]
  rk : RowF W (G F g) A (K.flatMap kcs)
  rp : RowF W (G F g) B (P.flatMap rcs)
  re : RowF W (G F g) C (s.e.flatMap ecs)
  kv : ∀ x ∈ K, KVal W (G F g) x
  pv : ∀ x ∈ P, PVal W (G F g) x
  ek : K.map (·.k) = s.k
  ep : P.map (·.l) = s.p
  an : A = none → K.length = 0 ∧ a = 0
  bn : B = none → P.length = 0 ∧ b = 0
  cn : C = none → s.e.length = 0 ∧ c = 0
  al : K.length ≤ a ∧ a ≤ maxLen
  bl : P.length ≤ b ∧ b ≤ maxLen
  cl : s.e.length ≤ c ∧ c ≤ maxLen
  ng : ¬ F g
def RRep (W : World) (F : Nat → Prop) (g : Nat) (s : Shf) : Prop := ∃ A B C a b c K P, RAt W F g A B C a b c K P s
theorem away_more {F : Nat → Prop} {w w' : World} (h : Away F w w') (g : Nat) : Away (G F g) w w' := ⟨h.size, fun k hk hn => h.block k hk (fun hf => hn (.inl hf))⟩
theorem away_set {F : Nat → Prop} (w : World) (g i : Nat) (v : Value) : Away (G F g) w (w.setCell ⟨g, i, none⟩ v) := ⟨by simp [World.setCell], fun k _ hn => Below.heap_setCell w ⟨g, i, none⟩ v k (fun e => hn (.inr e))⟩
section
variable {W W' : World} {F F' : Nat → Prop} {g : Nat} {A B C : Option Addr} {a b c : Nat} {K : List KI} {P : List RI} {s : Shf}
theorem RAt.away (h : RAt W F g A B C a b c K P s) (k : Away F W W') : RAt W' F g A B C a b c K P s :=
  have kg := away_more k g
  ⟨(k.block g h.cel.lt h.ng).trans h.cel, h.rk.away kg, h.rp.away kg, h.re.away kg, fun x hx => (h.kv x hx).away kg, fun x hx => (h.pv x hx).away kg, h.ek, h.ep, h.an, h.bn, h.cn, h.al, h.bl, h.cl, h.ng⟩
theorem RAt.below (h : RAt W F g A B C a b c K P s) (k : Below W.heap.size W W') : RAt W' F g A B C a b c K P s := h.away (Away.of k)
theorem RAt.turn (h : RAt W F g A B C a b c K P s) (hF : ∀ k, F' k → F k ∨ W.heap.size ≤ k) : RAt W F' g A B C a b c K P s :=
  have hG : ∀ k, G F' g k → G F g k ∨ W.heap.size ≤ k := fun k hk => hk.elim (fun h => (hF k h).elim (fun h => .inl (.inl h)) .inr) (fun h => .inl (.inr h))
  ⟨h.cel, h.rk.turn hG, h.rp.turn hG, h.re.turn hG, fun x hx => (h.kv x hx).turn hG, fun x hx => (h.pv x hx).turn hG, h.ek, h.ep, h.an, h.bn, h.cn, h.al, h.bl, h.cl, fun hf => (hF g hf).elim h.ng (fun h2 => by have := h.cel.lt; omega)⟩
theorem RRep.away (h : RRep W F g s) (k : Away F W W') : RRep W' F g s := by
  obtain ⟨A, B, C, a, b, c, K, P, h⟩ := h
  exact ⟨A, B, C, a, b, c, K, P, h.away k⟩
theorem RRep.below (h : RRep W F g s) (k : Below W.heap.size W W') : RRep W' F g s := h.away (Away.of k)
theorem RRep.turn (h : RRep W F g s) (hF : ∀ k, F' k → F k ∨ W.heap.size ≤ k) : RRep W F' g s := by
  obtain ⟨A, B, C, a, b, c, K, P, h⟩ := h
  exact ⟨A, B, C, a, b, c, K, P, h.turn hF⟩
theorem RRep.lt (h : RRep W F g s) : g < W.heap.size := by
  obtain ⟨A, B, C, a, b, c, K, P, h⟩ := h
  exact h.cel.lt
theorem RAt.klen (h : RAt W F g A B C a b c K P s) : K.length = s.k.length := by rw [← h.ek, List.length_map]
theorem RAt.plen (h : RAt W F g A B C a b c K P s) : P.length = s.p.length := by rw [← h.ep, List.length_map]
theorem RAt.key (h : RAt W F g A B C a b c K P s) {i : Nat} (hi : i < K.length) : ∃ ad, A = some ad ∧ W.cell? (ad.add (i * 2)) = some (.string K[i].k.name) ∧ W.cell? ⟨(ad.add (i * 2)).block, (ad.add (i * 2)).off + 1, none⟩ = some (.slice K[i].A K[i].k.l.length K[i].c) := by
  obtain ⟨ad, e, _, _, h3⟩ := h.rk.at kcs_len (by omega) hi
  refine ⟨ad, e, h3 0 _ rfl, ?_⟩
  rw [Ch.add_field _ _ _ (by omega)]
  exact h3 1 _ rfl
theorem RAt.end (h : RAt W F g A B C a b c K P s) {i : Nat} (hi : i < s.e.length) : ∃ ad, C = some ad ∧ W.cell? (ad.add (i * 2)) = some (.int .i64 s.e[i].1) ∧ W.cell? ⟨(ad.add (i * 2)).block, (ad.add (i * 2)).off + 1, none⟩ = some (.int .i64 s.e[i].2) := by
  obtain ⟨ad, e, _, _, h3⟩ := h.re.at ecs_len (by omega) hi
  refine ⟨ad, e, h3 0 _ rfl, ?_⟩
  rw [Ch.add_field _ _ _ (by omega)]
  exact h3 1 _ rfl
theorem RAt.one (h : RAt W F g A B C a b c K P s) {i : Nat} (hi : i < P.length) : ∃ ad, B = some ad ∧ ad.block < W.heap.size ∧ ∀ j v, (rcs P[i])[j]? = some v → W.cell? (ad.add (i * 9 + j)) = some v := by
  obtain ⟨ad, e, h1, _, h3⟩ := h.rp.at rcs_len (by omega) hi
  exact ⟨ad, e, h1, h3⟩
end
def prepR (s : Shf) (txn : Int) : Rec × Bool := match prepOf s.p txn with | none => (noRec, false) | some r => (r, true)
theorem Tryz.infoI : (Tryz.prog.info? 3).map (fun i => (i.zero, i.size, i.bytes)) = some (some (.int .i64 0), 1, 8) := by kernel_rfl
def RecF (W : World) (F : Nat → Prop) (r : Rec) (v : Value) : Prop := ∃ x : RI, x.l = r ∧ v = .agg (rcs x).toArray ∧ PVal W F x
theorem no_pval (W : World) (F : Nat → Prop) : PVal W F ⟨noRec, none, none, 0, 0⟩ := by
  refine ⟨⟨fun h => absurd h (by simp [noRec]), fun h => absurd h (by simp [noRec]), ⟨⟨?_, ?_, ?_, ?_, ?_, ?_, ?_, ?_, ?_, ?_⟩, ?_, ?_, ?_, ?_⟩, fun _ => ⟨rfl, rfl⟩, fun _ => ⟨rfl, rfl⟩⟩, fun h => absurd h (by simp [noRec]), fun h => absurd h (by simp [noRec])⟩
  all_goals first | (simp [noRec]; done) | (simp [noRec, reachBytes]; done) | exact Nat.zero_le _
end Sh
end Go.Proofs.YtbkanoblcojdfaaGreat
