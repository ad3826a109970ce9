/- Whether letters are the same, and a letter's copy; contracts; no condition but the range. -/
import Derived.Test.YtmllaighjhpbmaaLtEnv
import Derived.Test.YtmllaighjhpbmaaLtSame
namespace Go.Proofs.Ytmllaighjhpbmaa
namespace Lt
open Go.RowKit Bk

attribute [local go_sem ↓] Go.wp_at_zero Go.wp_at_succ
attribute [local go_sem] floatUpon pick

theorem let_ext {x y : Let} (h0 : x.kind = y.kind) (h1 : x.src = y.src) (h2 : x.dst = y.dst) (h3 : x.txn = y.txn) (h4 : x.ts = y.ts) (h5 : x.code = y.code) (h6 : x.text = y.text) (h7 : x.keys = y.keys) (h8 : x.ws = y.ws) : x = y := by
  obtain ⟨a0, a1, a2, a3, a4, a5, a6, a7, a8⟩ := x
  obtain ⟨b0, b1, b2, b3, b4, b5, b6, b7, b8⟩ := y
  simp only at h0 h1 h2 h3 h4 h5 h6 h7 h8
  subst h0 h1 h2 h3 h4 h5 h6 h7 h8; rfl

noncomputable def sameB (x y : Let) : Bool := @decide (x = y) (Classical.propDecidable _)
theorem sameB_true {x y : Let} (h : x = y) : sameB x y = true := by unfold sameB; exact @decide_eq_true _ (Classical.propDecidable _) h
theorem sameB_false {x y : Let} (h : ¬ x = y) : sameB x y = false := by unfold sameB; exact @decide_eq_false _ (Classical.propDecidable _) h
theorem sameB_self (x : Let) : sameB x x = true := sameB_true rfl

/-- what the comparison says, part by part -/
theorem sameB_parts (x y : Let) : sameB x y = (decide (x.kind = y.kind) && (decide (x.src = y.src) && (decide (x.dst = y.dst) && (decide (x.txn = y.txn) && (decide (x.ts = y.ts) && (decide (x.code = y.code) && (decide (x.text = y.text) && (decide (x.keys = y.keys) && decide (x.ws = y.ws))))))))) := by
  by_cases h : x = y
  · subst h; rw [sameB_self]; simp
  · rw [sameB_false h]
    symm
    rw [Bool.eq_false_iff]
    intro hh
    simp only [Bool.and_eq_true, decide_eq_true_eq] at hh
    obtain ⟨h0, h1, h2, h3, h4, h5, h6, h7, h8⟩ := hh
    exact h (let_ext h0 h1 h2 h3 h4 h5 h6 h7 h8)

theorem eql_dec (s t : ByteArray) : (s.toList == t.toList) = decide (s = t) := by
  by_cases h : s = t
  · subst h; simp
  · rw [text_ne h, decide_eq_false h]

set_option maxRecDepth 20000 in
set_option maxHeartbeats 8000000 in
theorem sameLet_any (A B A' B' : Option Addr) (c d c' d' : Nat) (x y : Let) (w : World) (ha : StrsAt w A x.keys) (hb : WrsAt w B x.ws) (ha' : StrsAt w A' y.keys) (hb' : WrsAt w B' y.ws) (hn : x.keys.length ≤ 9223372036854775807) (hn2 : x.ws.length ≤ 9223372036854775807) :
    Calls Try.prog 15 #[letV x A B c d, letV y A' B' c' d'] w fun e w' => e = .returned (.bool (sameB x y)) ∧ Below w.heap.size w w' := by
  have HK := Lib.hid (fun W (hbl : Below w.heap.size w W) => same_any A A' c c' x.keys y.keys W (ha.below hbl) (ha'.below hbl) hn)
  have HW := Lib.hid (fun W (hbl : Below w.heap.size w W) => sameWrs_any B B' d d' x.ws y.ws W (hb.below hbl) (hb'.below hbl) hn2)
  unfold letV
  obtain ⟨s2, b1, b2⟩ := blk2 w (.cells #[.int .i64 x.kind, .int .i64 x.src, .int .i64 x.dst, .int .i64 x.txn, .int .i64 x.ts, .int .i64 x.code, .string x.text, .slice A x.keys.length c, .slice B x.ws.length d] 25) (.cells #[.int .i64 y.kind, .int .i64 y.src, .int .i64 y.dst, .int .i64 y.txn, .int .i64 y.ts, .int .i64 y.code, .string y.text, .slice A' y.keys.length c', .slice B' y.ws.length d'] 25)
  have hB : Below w.heap.size w ((w.alloc (.cells #[.int .i64 x.kind, .int .i64 x.src, .int .i64 x.dst, .int .i64 x.txn, .int .i64 x.ts, .int .i64 x.code, .string x.text, .slice A x.keys.length c, .slice B x.ws.length d] 25)).alloc (.cells #[.int .i64 y.kind, .int .i64 y.src, .int .i64 y.dst, .int .i64 y.txn, .int .i64 y.ts, .int .i64 y.code, .string y.text, .slice A' y.keys.length c', .slice B' y.ws.length d'] 25)) :=
    ((Below.refl _ w).alloc (Nat.le_refl _) _).alloc (by simp) _
  have HB := Lib.hid hB
  have E := Lib.hid (sameB_parts x y)
  have C1 : Cel _ _ _ [_, _, _, _, _, _, _, _, _] := b1
  have C2 : Cel _ _ _ [_, _, _, _, _, _, _, _, _] := b2
  have HC1 := Lib.hid C1
  have HC2 := Lib.hid C2
  clear hB s2 b1 b2 C1 C2 ha hb ha' hb' hn hn2
  go_enter Try.func15, Try.ntmps15
  go_upto_region 1 with fail
  generalize ((w.alloc (.cells #[.int .i64 x.kind, .int .i64 x.src, .int .i64 x.dst, .int .i64 x.txn, .int .i64 x.ts, .int .i64 x.code, .string x.text, .slice A x.keys.length c, .slice B x.ws.length d] 25)).alloc (.cells #[.int .i64 y.kind, .int .i64 y.src, .int .i64 y.dst, .int .i64 y.txn, .int .i64 y.ts, .int .i64 y.code, .string y.text, .slice A' y.keys.length c', .slice B' y.ws.length d'] 25)) = W1 at HB HC1 HC2 ⊢
  have p0 := HC1.out.cell (i := 0) rfl
  have p1 := HC1.out.cell (i := 1) rfl
  have p2 := HC1.out.cell (i := 2) rfl
  have p3 := HC1.out.cell (i := 3) rfl
  have p4 := HC1.out.cell (i := 4) rfl
  have p5 := HC1.out.cell (i := 5) rfl
  have p6 := HC1.out.cell (i := 6) rfl
  have p7 := HC1.out.cell (i := 7) rfl
  have p8 := HC1.out.cell (i := 8) rfl
  have q0 := HC2.out.cell (i := 0) rfl
  have q1 := HC2.out.cell (i := 1) rfl
  have q2 := HC2.out.cell (i := 2) rfl
  have q3 := HC2.out.cell (i := 3) rfl
  have q4 := HC2.out.cell (i := 4) rfl
  have q5 := HC2.out.cell (i := 5) rfl
  have q6 := HC2.out.cell (i := 6) rfl
  have q7 := HC2.out.cell (i := 7) rfl
  have q8 := HC2.out.cell (i := 8) rfl
  have e0 : ((x.kind == y.kind) : Bool) = decide (x.kind = y.kind) := by rfl
  have e1 : ((x.src == y.src) : Bool) = decide (x.src = y.src) := by rfl
  have e2 : ((x.dst == y.dst) : Bool) = decide (x.dst = y.dst) := by rfl
  have e3 : ((x.txn == y.txn) : Bool) = decide (x.txn = y.txn) := by rfl
  have e4 : ((x.ts == y.ts) : Bool) = decide (x.ts = y.ts) := by rfl
  have e5 : ((x.code == y.code) : Bool) = decide (x.code = y.code) := by rfl
  have e6 := eql_dec x.text y.text
  generalize decide (x.kind = y.kind) = r0 at *
  generalize decide (x.src = y.src) = r1 at *
  generalize decide (x.dst = y.dst) = r2 at *
  generalize decide (x.txn = y.txn) = r3 at *
  generalize decide (x.ts = y.ts) = r4 at *
  generalize decide (x.code = y.code) = r5 at *
  generalize decide (x.text = y.text) = r6 at *
  generalize decide (x.keys = y.keys) = r7 at *
  generalize decide (x.ws = y.ws) = r8 at *
  clear HC1 HC2
  cases r0 with
  | false =>
    go_wp2_with fail
    go_ret
    exact ⟨by rw [E.out]; rfl, HB.out⟩
  | true =>
  cases r1 with
  | false =>
    go_wp2_with fail
    go_ret
    exact ⟨by rw [E.out]; rfl, HB.out⟩
  | true =>
  cases r2 with
  | false =>
    go_wp2_with fail
    go_ret
    exact ⟨by rw [E.out]; rfl, HB.out⟩
  | true =>
  cases r3 with
  | false =>
    go_wp2_with fail
    go_ret
    exact ⟨by rw [E.out]; rfl, HB.out⟩
  | true =>
  cases r4 with
  | false =>
    go_wp2_with fail
    go_ret
    exact ⟨by rw [E.out]; rfl, HB.out⟩
  | true =>
  cases r5 with
  | false =>
    go_wp2_with fail
    go_ret
    exact ⟨by rw [E.out]; rfl, HB.out⟩
  | true =>
  cases r6 with
  | false =>
    go_wp2_with fail
    go_ret
    exact ⟨by rw [E.out]; rfl, HB.out⟩
  | true =>
  cases r7 with
  | false =>
    go_wp2_with fail
    refine (HK.out _ HB.out).mono ?_
    rintro e w2 ⟨rfl, n, rfl⟩
    have HB2 : Hid (Below w.heap.size w (W1.drewN n)) := Lib.hid ⟨HB.out.1, HB.out.2, HB.out.3, HB.out.4, HB.out.5⟩
    go_wp2_with fail
    go_ret
    exact ⟨by rw [E.out]; rfl, HB2.out⟩
  | true =>
    go_wp2_with fail
    refine (HK.out _ HB.out).mono ?_
    rintro e w2 ⟨rfl, n, rfl⟩
    have HB2 : Hid (Below w.heap.size w (W1.drewN n)) := Lib.hid ⟨HB.out.1, HB.out.2, HB.out.3, HB.out.4, HB.out.5⟩
    have k8 : (W1.drewN n).cell? ⟨w.heap.size, 8, none⟩ = some (.slice B x.ws.length d) := p8
    have m8 : (W1.drewN n).cell? ⟨w.heap.size + 1, 8, none⟩ = some (.slice B' y.ws.length d') := q8
    clear HB HK p0 p1 p2 p3 p4 p5 p6 p7 p8 q0 q1 q2 q3 q4 q5 q6 q7 q8
    generalize W1.drewN n = W2 at *
    go_wp2_with fail
    refine (HW.out _ HB2.out).mono ?_
    rintro e w3 ⟨rfl, hb⟩
    have HB3 := Lib.hid (HB2.out.trans (hb.mono HB2.out.size))
    clear hb HB2 HW
    go_wp2_with fail
    go_ret
    exact ⟨by rw [E.out]; simp, HB3.out⟩

end Lt
end Go.Proofs.Ytmllaighjhpbmaa
