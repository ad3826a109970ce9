/- The law of what may be asked for and what may be written; no condition but the range. -/
import Derived.Test.YtibekhigpamnjaaRcLaw
import Derived.Test.YtibekhigpamnjaaA6
namespace Go.Proofs.Ytibekhigpamnjaa
namespace Rc
open Go.RowKit Bk Lt

attribute [local go_sem ↓] Go.wp_at_zero Go.wp_at_succ
attribute [local go_sem] floatUpon pick

/-- the letter, and the record of a coordinator -/
def askL (l : Let) : Let := ⟨3, 0, 0, l.txn, l.ts, 0, ⟨#[]⟩, l.keys, l.ws⟩
def askR (l : Let) (x : Int) : Rec := ⟨1, l.txn, l.ts, x, ⟨#[]⟩, ⟨#[]⟩, false, l.keys, l.ws⟩

theorem ask_same (l : Let) (x : Int) : RecOk (askR l x) ↔ LetOk (askL l) ∧ 0 ≤ x ∧ x < 16 := by
  constructor
  · rintro ⟨⟨h1, h2, h3, h4⟩, hk⟩
    obtain ⟨k1, k2, k3, k4, k5⟩ := (kind_1 (r := askR l x) rfl).1 hk
    have ht : txnOk l.txn := by rcases h1 with h | h; exact absurd h k2; exact h
    refine ⟨⟨⟨?_, ?_, ht, h2, ?_, ?_⟩, (Lt.kind_3 (l := askL l) rfl).2 ⟨k3, k4, k5, rfl, rfl⟩⟩, h3, h4⟩
    · show addr 0; decide
    · show addr 0; decide
    · show (0 : Int) ≤ 0; decide
    · show (0 : Int) ≤ 4; decide
  · rintro ⟨⟨⟨_, _, h3, h4, _, _⟩, hk⟩, hx⟩
    obtain ⟨k1, k2, k3, _, _⟩ := (Lt.kind_3 (l := askL l) rfl).1 hk
    exact ⟨⟨.inr h3, h4, hx⟩, (kind_1 (r := askR l x) rfl).2 ⟨⟨rfl, rfl, rfl⟩, fun e => by have : 1 ≤ l.txn := h3.1; have : l.txn = 0 := e; omega, k1, k2, k3⟩⟩

noncomputable def okB (r : Rec) : Bool := @decide (RecOk r) (Classical.propDecidable _)
theorem okB_true {r : Rec} (h : RecOk r) : okB r = true := by unfold okB; exact @decide_eq_true _ (Classical.propDecidable _) h
theorem okB_false {r : Rec} (h : ¬ RecOk r) : okB r = false := by unfold okB; exact @decide_eq_false _ (Classical.propDecidable _) h

theorem ck_eq (r : Rec) : (((ckN r : Nat) : Int) == 0) = okB r := by
  by_cases h : RecOk r
  · rw [ckN_of h, okB_true h]; rfl
  · rw [ckN_not h, okB_false h]; rfl

theorem lck_eq (l : Let) : (((Lt.ckN (askL l) : Nat) : Int) == 0) = okB (askR l 0) := by
  by_cases h : LetOk (askL l)
  · rw [Lt.ckN_zero.2 h, okB_true ((ask_same l 0).2 ⟨h, by omega, by omega⟩)]; rfl
  · rw [okB_false (fun hh => h ((ask_same l 0).1 hh).1)]
    rcases Lt.ckN_cases (askL l) with e | e
    · exact absurd (Lt.ckN_zero.1 e) h
    · rw [e]; rfl

theorem ask_coord (l : Let) (x : Int) : okB (askR l x) = (okB (askR l 0) && (decide (0 ≤ x) && decide (x < 16))) := by
  by_cases h : LetOk (askL l)
  · rw [okB_true ((ask_same l 0).2 ⟨h, by omega, by omega⟩), Bool.true_and, ← Bool.decide_and]
    by_cases hx : 0 ≤ x ∧ x < 16
    · rw [decide_eq_true hx, okB_true ((ask_same l x).2 ⟨h, hx⟩)]
    · rw [decide_eq_false hx, okB_false (fun hh => hx ((ask_same l x).1 hh).2)]
  · rw [okB_false (fun hh => h ((ask_same l x).1 hh).1), okB_false (fun hh => h ((ask_same l 0).1 hh).1), Bool.false_and]

set_option maxRecDepth 20000 in
set_option maxHeartbeats 8000000 in
theorem letters_walk (HC : CheckAll) (HE : EncodeAll) (v : Value) (l : Let) (x : Int) (hx : -9223372036854775808 ≤ x ∧ x ≤ 9223372036854775807) (w : World) (hv : LetArg2 w v l) :
    Calls Try.prog 7 #[v, .int .i64 x] w fun e w' => e = .returned (.bool true) ∧ Below w.heap.size w w' := by
  obtain ⟨A, B, c, d, rfl, h1, h2, ⟨⟨q1, q2, q3, q4, q5, q6, q7, q8, q9, q10, q11⟩, g4, g5, g6, g7⟩, h4, h5, h6⟩ := hv
  have HWk := Lib.hid (fun W => rcworks HE W)
  have hrv : ∀ y : Int, -9223372036854775808 ≤ y ∧ y ≤ 9223372036854775807 → ∀ W, Below w.heap.size w W → RecVal W A B c d (askR l y) := fun y hy W hb =>
    ⟨h1.below hb, h2.below hb, ⟨⟨⟨by show (-9223372036854775808 : Int) ≤ 1; omega, by show (1 : Int) ≤ 9223372036854775807; omega⟩, q4, q5, hy, Nat.zero_le _, Nat.zero_le _, q8, h6, q10, q11⟩, g4, g5, g6, g7⟩, h4, h5⟩
  have HC0 := Lib.hid (fun W (hb : Below w.heap.size w W) => HC A B c d (askR l 0) W (hrv 0 (by omega) W hb))
  have HCx := Lib.hid (fun W (hb : Below w.heap.size w W) => HC A B c d (askR l x) W (hrv x hx W hb))
  have z0 : (-9223372036854775808 : Int) ≤ 0 ∧ (0 : Int) ≤ 9223372036854775807 := by omega
  have hlr : LetRng (askL l) := ⟨by show (-9223372036854775808 : Int) ≤ 3 ∧ (3 : Int) ≤ 9223372036854775807; omega, z0, z0, q4, q5, z0, Nat.zero_le _, q8, q9, q10, q11⟩
  have HLc := Lib.hid (fun W (hb : Below w.heap.size w W) => lcheck_any A B c d (askL l) W (h1.below hb) (h2.below hb) hlr)
  have henv := LtEnv.start (c := c) (d := d) h1 h2
  have e1 := lck_eq l
  have e2 := ck_eq (askR l 0)
  have e3 := ck_eq (askR l x)
  rw [ask_coord] at e3
  generalize okB (askR l 0) = b at e1 e2 e3
  generalize ((Lt.ckN (askL l) : Nat) : Int) = n1 at e1 HLc
  generalize ((ckN (askR l 0) : Nat) : Int) = n2 at e2 HC0
  generalize ((ckN (askR l x) : Nat) : Int) = n3 at e3 HCx
  unfold letV askL at HLc
  unfold recV askR at HC0 HCx
  unfold letV
  simp only at HLc HC0 HCx
  clear h1 h2 q1 q2 q3 q4 q5 q6 q7 q8 q9 q10 q11 g4 g5 g6 g7 h4 h5 h6 hrv z0 hlr HC HE
  go_enter Try.func7, Try.ntmps7
  go_upto_region 1 with fail
  generalize w.alloc (.cells #[.int .i64 l.kind, .int .i64 l.src, .int .i64 l.dst, .int .i64 l.txn, .int .i64 l.ts, .int .i64 l.code, .string l.text, .slice A l.keys.length c, .slice B l.ws.length d] 42) = W1 at henv ⊢
  have HEn := Lib.hid henv
  clear henv
  go_wp2_with fail
  refine (HWk.out _).mono ?_
  rintro e w2 ⟨rfl, hb⟩
  have henv := HEn.out.step hb
  have HEn2 := Lib.hid henv
  have k3 := henv.cel.cell (i := 3) rfl
  have k4 := henv.cel.cell (i := 4) rfl
  have k7 := henv.cel.cell (i := 7) rfl
  have k8 := henv.cel.cell (i := 8) rfl
  clear hb HEn HWk henv
  go_upto_region 4 with fail
  have hX : Cel (w2.alloc (.cells #[.int .i64 3, .int .i64 0, .int .i64 0, .int .i64 l.txn, .int .i64 l.ts, .int .i64 0, .string ⟨#[]⟩, .slice A l.keys.length c, .slice B l.ws.length d] 42)) w2.heap.size 42 [.int .i64 3, .int .i64 0, .int .i64 0, .int .i64 l.txn, .int .i64 l.ts, .int .i64 0, .string ⟨#[]⟩, .slice A l.keys.length c, .slice B l.ws.length d] := (blk1 _ _).2
  have henv := HEn2.out.step ((Below.refl _ w2).alloc (Nat.le_refl _) (.cells #[.int .i64 3, .int .i64 0, .int .i64 0, .int .i64 l.txn, .int .i64 l.ts, .int .i64 0, .string ⟨#[]⟩, .slice A l.keys.length c, .slice B l.ws.length d] 42))
  generalize w2.alloc (.cells #[.int .i64 3, .int .i64 0, .int .i64 0, .int .i64 l.txn, .int .i64 l.ts, .int .i64 0, .string ⟨#[]⟩, .slice A l.keys.length c, .slice B l.ws.length d] 42) = w3 at hX henv ⊢
  generalize w2.heap.size = o at hX ⊢
  have HX := Lib.hid hX
  have HEn3 := Lib.hid henv
  clear k3 k4 k7 k8 HEn2
  have k3 := henv.cel.cell (i := 3) rfl
  have k4 := henv.cel.cell (i := 4) rfl
  have k7 := henv.cel.cell (i := 7) rfl
  have k8 := henv.cel.cell (i := 8) rfl
  clear hX henv
  go_upto_region 5 with fail
  have hR : Cel (w3.alloc (.cells #[.int .i64 1, .int .i64 l.txn, .int .i64 l.ts, .int .i64 0, .string ⟨#[]⟩, .string ⟨#[]⟩, .bool false, .slice A l.keys.length c, .slice B l.ws.length d] 25)) w3.heap.size 25 [.int .i64 1, .int .i64 l.txn, .int .i64 l.ts, .int .i64 0, .string ⟨#[]⟩, .string ⟨#[]⟩, .bool false, .slice A l.keys.length c, .slice B l.ws.length d] := (blk1 _ _).2
  have hal : Below w3.heap.size w3 (w3.alloc (.cells #[.int .i64 1, .int .i64 l.txn, .int .i64 l.ts, .int .i64 0, .string ⟨#[]⟩, .string ⟨#[]⟩, .bool false, .slice A l.keys.length c, .slice B l.ws.length d] 25)) := (Below.refl _ w3).alloc (Nat.le_refl _) _
  have HI0 := Lib.hid (And.intro (HX.out.below hal) (And.intro hR (HEn3.out.step hal).bel))
  have hgp : w.heap.size ≤ w3.heap.size := HEn3.out.bel.size
  generalize w3.alloc (.cells #[.int .i64 1, .int .i64 l.txn, .int .i64 l.ts, .int .i64 0, .string ⟨#[]⟩, .string ⟨#[]⟩, .bool false, .slice A l.keys.length c, .slice B l.ws.length d] 25) = w4 at HI0 ⊢
  generalize w3.heap.size = p at HI0 hgp ⊢
  clear hR hal HX HEn3 k3 k4 k7 k8
  refine wp_region_said 7 [28, 29, 30, 31, 32, 33, 34]
    [.is (.agg #[.int .i64 3, .int .i64 0, .int .i64 0, .int .i64 l.txn, .int .i64 l.ts, .int .i64 0, .string ⟨#[]⟩, .slice A l.keys.length c, .slice B l.ws.length d]), .is (.int .i64 n1), .is (.bool b), .is (.agg #[.int .i64 1, .int .i64 l.txn, .int .i64 l.ts, .int .i64 0, .string ⟨#[]⟩, .string ⟨#[]⟩, .bool false, .slice A l.keys.length c, .slice B l.ws.length d]), .is (.int .i64 n2), .is (.bool b), .is (.bool false)]
    (fun W => Cel W o 42 [.int .i64 3, .int .i64 0, .int .i64 0, .int .i64 l.txn, .int .i64 l.ts, .int .i64 0, .string ⟨#[]⟩, .slice A l.keys.length c, .slice B l.ws.length d] ∧ Cel W p 25 [.int .i64 1, .int .i64 l.txn, .int .i64 l.ts, .int .i64 0, .string ⟨#[]⟩, .string ⟨#[]⟩, .bool false, .slice A l.keys.length c, .slice B l.ws.length d] ∧ Below w.heap.size w W) (by kernel_rfl) (by kernel_rfl) (by kernel_rfl) (by kernel_rfl) (by kernel_rfl) (fun W W' h hb => ⟨h.1.below hb, h.2.1.below hb, h.2.2.trans (hb.mono h.2.2.size)⟩) HI0.out ?steps ?last
  case steps =>
    simp only [List.take_succ_cons, List.take_zero]
    refine ⟨?_, ?_, ?_, ?_, ?_, ?_, ?_, trivial⟩
    all_goals
      intro vs W ρ hρ hc hf hg hI hH hd R' hR
      have o0 := hI.1.cell (i := 0) rfl
      have o1 := hI.1.cell (i := 1) rfl
      have o2 := hI.1.cell (i := 2) rfl
      have o3 := hI.1.cell (i := 3) rfl
      have o4 := hI.1.cell (i := 4) rfl
      have o5 := hI.1.cell (i := 5) rfl
      have o6 := hI.1.cell (i := 6) rfl
      have o7 := hI.1.cell (i := 7) rfl
      have o8 := hI.1.cell (i := 8) rfl
      have k0 := hI.2.1.cell (i := 0) rfl
      have k1 := hI.2.1.cell (i := 1) rfl
      have k2 := hI.2.1.cell (i := 2) rfl
      have k3 := hI.2.1.cell (i := 3) rfl
      have k4 := hI.2.1.cell (i := 4) rfl
      have k5 := hI.2.1.cell (i := 5) rfl
      have k6 := hI.2.1.cell (i := 6) rfl
      have k7 := hI.2.1.cell (i := 7) rfl
      have k8 := hI.2.1.cell (i := 8) rfl
      have HL2 := Lib.hid (HLc.out W hI.2.2)
      have HC2 := Lib.hid (HC0.out W hI.2.2)
      have HR := Lib.hid hR
      simp [depsOf, Region.binds, sayAt, Say.holds] at hd
      clear hR hI
      go_simp
      first
        | exact HR.out _ _ (by simp [sayAt, Say.holds]) (Below.refl _ _) (by simp [sayAt, Say.isBlk])
        | (refine HL2.out.mono ?_; rintro e w' ⟨rfl, hb⟩; exact ⟨_, rfl, HR.out _ _ (by simp [sayAt, Say.holds]) hb (by simp [sayAt, Say.isBlk])⟩)
        | (refine HC2.out.mono ?_; rintro e w' ⟨rfl, hb⟩; exact ⟨_, rfl, HR.out _ _ (by simp [sayAt, Say.holds]) hb (by simp [sayAt, Say.isBlk])⟩)
        | trace_state
  case last =>
    intro vs W hI hb hg hd
    have g6 := hg 6 (by omega)
    simp only [sayAt, Say.holds, List.getD_cons_succ, List.getD_cons_zero] at g6
    simp only [List.take_succ_cons, List.take_zero, List.drop_succ_cons, List.drop_zero, putAll, Act.put, List.setIfInBounds_toArray, List.set_cons_succ, List.set_cons_zero, Nat.zero_add, Nat.reduceAdd]
    rw [g6]
    have HP := Lib.hid hI.2.1
    have HB := Lib.hid hI.2.2
    have o0 := hI.2.1.cell (i := 0) rfl
    have o1 := hI.2.1.cell (i := 1) rfl
    have o2 := hI.2.1.cell (i := 2) rfl
    have o3 := hI.2.1.cell (i := 3) rfl
    have o4 := hI.2.1.cell (i := 4) rfl
    have o5 := hI.2.1.cell (i := 5) rfl
    have o6 := hI.2.1.cell (i := 6) rfl
    have o7 := hI.2.1.cell (i := 7) rfl
    have o8 := hI.2.1.cell (i := 8) rfl
    clear g6 hg hd hb hI HI0
    go_wp2_with fail
    refine (HC0.out _ HB.out).mono ?_
    rintro e w5 ⟨rfl, hb⟩
    have HP5 := Lib.hid (HP.out.below hb)
    have HB5 := Lib.hid (HB.out.trans (hb.mono HB.out.size))
    clear hb HP HB o0 o1 o2 o3 o4 o5 o6 o7 o8
    have oq := fun i => HP5.out.free (i := i)
    have o3 := HP5.out.cell (i := 3) rfl
    go_upto_region 9 with fail
    have hP6 : Cel (w5.setCell ⟨p, 3, none⟩ (.int .i64 x)) p 25 [.int .i64 1, .int .i64 l.txn, .int .i64 l.ts, .int .i64 x, .string ⟨#[]⟩, .string ⟨#[]⟩, .bool false, .slice A l.keys.length c, .slice B l.ws.length d] := HP5.out.set
    have hB6 := HB5.out.setCell (p := ⟨p, 3, none⟩) hgp (.int .i64 x)
    generalize w5.setCell ⟨p, 3, none⟩ (.int .i64 x) = w6 at hP6 hB6 ⊢
    have HB6 := Lib.hid hB6
    have k0 := hP6.cell (i := 0) rfl
    have k1 := hP6.cell (i := 1) rfl
    have k2 := hP6.cell (i := 2) rfl
    have k3 := hP6.cell (i := 3) rfl
    have k4 := hP6.cell (i := 4) rfl
    have k5 := hP6.cell (i := 5) rfl
    have k6 := hP6.cell (i := 6) rfl
    have k7 := hP6.cell (i := 7) rfl
    have k8 := hP6.cell (i := 8) rfl
    clear hP6 hB6 HP5 HB5 oq o3
    cases b with
    | false =>
      simp only [Bool.false_and] at e3
      go_wp2_with fail
      refine (HCx.out _ HB6.out).mono ?_
      rintro e w7 ⟨rfl, hb⟩
      have HB7 := Lib.hid (HB6.out.trans (hb.mono HB6.out.size))
      clear hb
      go_wp2_with fail
      go_ret
      exact ⟨by first | rfl | (simp; done) | (simp; omega), HB7.out⟩
    | true =>
    rw [Bool.true_and] at e3
    by_cases hx0 : 0 ≤ x
    · rw [decide_eq_true hx0, Bool.true_and] at e3
      by_cases hx1 : x < 16
      · rw [decide_eq_true hx1] at e3
        go_wp2_with fail
        refine (HCx.out _ HB6.out).mono ?_
        rintro e w7 ⟨rfl, hb⟩
        have HB7 := Lib.hid (HB6.out.trans (hb.mono HB6.out.size))
        clear hb
        go_wp2_with fail
        go_ret
        exact ⟨by first | rfl | (simp; done) | (simp; omega), HB7.out⟩
      · rw [decide_eq_false hx1] at e3
        have hx2 : 16 ≤ x := by omega
        clear hx1
        go_wp2_with fail
        refine (HCx.out _ HB6.out).mono ?_
        rintro e w7 ⟨rfl, hb⟩
        have HB7 := Lib.hid (HB6.out.trans (hb.mono HB6.out.size))
        clear hb
        go_wp2_with fail
        go_ret
        exact ⟨by first | rfl | (simp; done) | (simp; omega), HB7.out⟩
    · rw [decide_eq_false hx0, Bool.false_and] at e3
      have hx2 : x < 0 := by omega
      clear hx0
      go_wp2_with fail
      refine (HCx.out _ HB6.out).mono ?_
      rintro e w7 ⟨rfl, hb⟩
      have HB7 := Lib.hid (HB6.out.trans (hb.mono HB6.out.size))
      clear hb
      go_wp2_with fail
      go_ret
      exact ⟨by first | rfl | (simp; done) | (simp; omega), HB7.out⟩

end Rc
end Go.Proofs.Ytibekhigpamnjaa
