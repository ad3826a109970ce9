/- The law of records' kinds; no condition but the range. -/
import Derived.Test.YtibekhigpamnjaaRcLaw
namespace Go.Proofs.Ytibekhigpamnjaa
namespace Rc
open Go.RowKit Bk Lt

attribute [local go_sem ↓] Go.wp_at_zero Go.wp_at_succ
attribute [local go_sem] floatUpon pick

def ofP (k : Int) : Prop := k = 1 ∨ k = 2 ∨ k = 5 ∨ k = 6
instance (k : Int) : Decidable (ofP k) := inferInstanceAs (Decidable (_ ∨ _))

set_option maxHeartbeats 1000000 in
theorem of_any (k : Int) (w : World) : Calls Try.prog 18 #[.int .i64 k] w fun e w' => e = .returned (.bool (decide (ofP k))) ∧ w' = w := by
  have run : ∀ (b1 b2 b3 b4 : Bool), (k == 1) = b1 → (k == 2) = b2 → (k == 5) = b3 → (k == 6) = b4 → decide (ofP k) = (b1 || (b2 || (b3 || b4))) →
      Calls Try.prog 18 #[.int .i64 k] w fun e w' => e = .returned (.bool (decide (ofP k))) ∧ w' = w := by
    intro b1 b2 b3 b4 h1 h2 h3 h4 h5
    have E := Lib.hid h5
    clear h5
    cases b1 with
    | true =>
      go_enter Try.func18, Try.ntmps18
      go_wp2_with fail
      go_ret
      exact ⟨by rw [E.out]; rfl, rfl⟩
    | false =>
    cases b2 with
    | true =>
      go_enter Try.func18, Try.ntmps18
      go_wp2_with fail
      go_ret
      exact ⟨by rw [E.out]; rfl, rfl⟩
    | false =>
    cases b3 with
    | true =>
      go_enter Try.func18, Try.ntmps18
      go_wp2_with fail
      go_ret
      exact ⟨by rw [E.out]; rfl, rfl⟩
    | false =>
      go_enter Try.func18, Try.ntmps18
      go_wp2_with fail
      go_ret
      exact ⟨by rw [E.out]; rfl, rfl⟩
  refine run _ _ _ _ rfl rfl rfl rfl ?_
  have hk : ∀ z : Int, (k == z) = decide (k = z) := fun z => rfl
  rw [hk, hk, hk, hk]
  rw [show decide (ofP k) = decide (k = 1 ∨ k = 2 ∨ k = 5 ∨ k = 6) from rfl]
  simp only [Bool.decide_or]

/-- the kinds of two that may be, and are alike but for the kind -/
theorem kinds_apart {r : Rec} {k : Int} (h1 : RecOk r) (h2 : RecOk { r with kind := k }) (hk : r.kind ≠ k) : decide (ofP r.kind) = decide (ofP k) ∧ r.kind ≠ 3 ∧ k ≠ 3 := by
  have e0 : ¬ keyOk ⟨#[]⟩ := fun h => by have := h.1; revert this; decide
  have tx : ∀ q : Rec, RecOk q → (ofP q.kind ↔ q.txn ≠ 0) ∧ (1 ≤ q.kind ∧ q.kind ≤ 7) ∧ (q.kind = 3 ↔ keyOk q.key) := fun q hq => by
    obtain ⟨_, hq⟩ := hq
    unfold ofP
    rcases hq with ⟨a, ⟨b, _⟩, c, _⟩ | ⟨a, ⟨_, ⟨b, _⟩, _⟩, c⟩ | ⟨a, _, _, c, _, b, _⟩ | ⟨a, ⟨_, ⟨b, _⟩, _⟩, c⟩ | ⟨a, ⟨_, ⟨b, _⟩, _⟩, c, _⟩ | ⟨a, ⟨_, ⟨b, _⟩, _⟩, c, _⟩ | ⟨a, ⟨_, ⟨b, _⟩, _⟩, c, _⟩
    · exact ⟨⟨fun _ => c, fun _ => by omega⟩, by omega, ⟨fun h => by omega, fun h => by rw [b] at h; exact absurd h e0⟩⟩
    · exact ⟨⟨fun _ => c, fun _ => by omega⟩, by omega, ⟨fun h => by omega, fun h => by rw [b] at h; exact absurd h e0⟩⟩
    · exact ⟨⟨fun h => by omega, fun h => absurd c h⟩, by omega, ⟨fun _ => b, fun _ => a⟩⟩
    · exact ⟨⟨fun h => by omega, fun h => absurd c h⟩, by omega, ⟨fun h => by omega, fun h => by rw [b] at h; exact absurd h e0⟩⟩
    · exact ⟨⟨fun _ => c, fun _ => by omega⟩, by omega, ⟨fun h => by omega, fun h => by rw [b] at h; exact absurd h e0⟩⟩
    · exact ⟨⟨fun _ => c, fun _ => by omega⟩, by omega, ⟨fun h => by omega, fun h => by rw [b] at h; exact absurd h e0⟩⟩
    · exact ⟨⟨fun h => by omega, fun h => absurd c h⟩, by omega, ⟨fun h => by omega, fun h => by rw [b] at h; exact absurd h e0⟩⟩
  obtain ⟨a1, a2, a3⟩ := tx _ h1
  obtain ⟨b1, b2, b3⟩ := tx _ h2
  refine ⟨?_, fun e => hk ?_, fun e => hk ?_⟩
  · by_cases h : r.txn = 0
    · rw [decide_eq_false (fun h' => a1.1 h' h), decide_eq_false (fun h' => b1.1 h' h)]
    · rw [decide_eq_true (a1.2 h), decide_eq_true (b1.2 h)]
  · exact e.trans (b3.2 (a3.1 e)).symm
  · exact (a3.2 (b3.1 e)).trans e.symm

set_option maxRecDepth 20000 in
set_option maxHeartbeats 8000000 in
theorem kinds_walk (HC : CheckAll) (HE : EncodeAll) (v : Value) (r : Rec) (x : Int) (w : World) (hv : RecArg w v r) :
    Calls Try.prog 6 #[v, .int .i64 x] w fun e w' => e = .returned (.bool true) ∧ Below w.heap.size w w' := by
  obtain ⟨A, B, c, d, rfl, h1, h2, h3, h4, h5⟩ := hv
  have hw : RecVal w A B c d r := ⟨h1, h2, h3, h4, h5⟩
  have HWk := Lib.hid (fun W => rcworks HE W)
  have HC1 := Lib.hid (fun W (hb : Below w.heap.size w W) => HC A B c d r W (hw.below hb))
  have hlt := amongV_lt x 7 (by omega)
  have HAm := Lib.hid (fun W => show Calls Try.prog 17 #[.int .i64 x, .int .i64 7] W fun e w' => e = .returned (.int .i64 ((amongV x 7 : Nat) : Int)) ∧ w' = W from among_any x 7 W (by omega) (by omega))
  generalize amongV x 7 = y at hlt HAm
  have hwy : IntKind.i64.wrap (1 + (y : Int)) = 1 + (y : Int) := i64_wrap (by omega) (by omega)
  have hw2 : ∀ W, Below w.heap.size w W → RecVal W A B c d { r with kind := 1 + (y : Int) } := fun W hb => by
    obtain ⟨g1, g2, ⟨⟨q1, q2, q3, q4, q5, q6, q7, q8, q9, q10⟩, g4, g5, g6, g7⟩, g8, g9⟩ := hw.below hb
    exact ⟨g1, g2, ⟨⟨⟨show (-9223372036854775808 : Int) ≤ 1 + (y : Int) by omega, show 1 + (y : Int) ≤ 9223372036854775807 by omega⟩, q2, q3, q4, q5, q6, q7, q8, q9, q10⟩, g4, g5, g6, g7⟩, g8, g9⟩
  have HC2 := Lib.hid (fun W (hb : Below w.heap.size w W) => HC A B c d { r with kind := 1 + (y : Int) } W (hw2 W hb))
  have henv := RcEnv.start (c := c) (d := d) hw.ks hw.ws
  unfold recV at HC1 HC2 ⊢
  clear h1 h2 h3 h4 h5 hw hw2 HC HE
  simp only at HC2
  go_enter Try.func6, Try.ntmps6
  go_upto_region 1 with fail
  generalize w.alloc (.cells #[.int .i64 r.kind, .int .i64 r.txn, .int .i64 r.ts, .int .i64 r.coord, .string r.key, .string r.text, .bool r.dead, .slice A r.keys.length c, .slice B r.ws.length d] 25) = W1 at henv ⊢
  have HEn := Lib.hid henv
  clear henv
  go_wp2_with fail
  refine (HWk.out _).mono ?_
  rintro e w2 ⟨rfl, hb⟩
  have HEn2 := Lib.hid (HEn.out.step hb)
  have k0 := HEn2.out.cel.cell (i := 0) rfl
  have k1 := HEn2.out.cel.cell (i := 1) rfl
  have k2 := HEn2.out.cel.cell (i := 2) rfl
  have k3 := HEn2.out.cel.cell (i := 3) rfl
  have k4 := HEn2.out.cel.cell (i := 4) rfl
  have k5 := HEn2.out.cel.cell (i := 5) rfl
  have k6 := HEn2.out.cel.cell (i := 6) rfl
  have k7 := HEn2.out.cel.cell (i := 7) rfl
  have k8 := HEn2.out.cel.cell (i := 8) rfl
  clear hb HEn HWk
  by_cases hm : RecOk r
  case neg =>
    rw [ckN_not hm] at HC1
    go_wp2_with fail
    refine (HC1.out _ HEn2.out.bel).mono ?_
    rintro e w3 ⟨rfl, hb⟩
    have HB3 := Lib.hid (HEn2.out.step hb).bel
    clear hb
    go_wp2_with fail
    go_ret
    exact ⟨rfl, HB3.out⟩
  rw [ckN_of hm] at HC1
  go_wp2_with fail
  refine (HC1.out _ HEn2.out.bel).mono ?_
  rintro e w3 ⟨rfl, hb⟩
  have HEn3 := Lib.hid (HEn2.out.step hb)
  clear hb HEn2 k0 k1 k2 k3 k4 k5 k6 k7 k8
  have k0 := HEn3.out.cel.cell (i := 0) rfl
  have k1 := HEn3.out.cel.cell (i := 1) rfl
  have k2 := HEn3.out.cel.cell (i := 2) rfl
  have k3 := HEn3.out.cel.cell (i := 3) rfl
  have k4 := HEn3.out.cel.cell (i := 4) rfl
  have k5 := HEn3.out.cel.cell (i := 5) rfl
  have k6 := HEn3.out.cel.cell (i := 6) rfl
  have k7 := HEn3.out.cel.cell (i := 7) rfl
  have k8 := HEn3.out.cel.cell (i := 8) rfl
  go_upto_region 6 with fail
  have hC4 : Cel (w3.alloc (.cells #[.int .i64 r.kind, .int .i64 r.txn, .int .i64 r.ts, .int .i64 r.coord, .string r.key, .string r.text, .bool r.dead, .slice A r.keys.length c, .slice B r.ws.length d] 25)) w3.heap.size 25 [.int .i64 r.kind, .int .i64 r.txn, .int .i64 r.ts, .int .i64 r.coord, .string r.key, .string r.text, .bool r.dead, .slice A r.keys.length c, .slice B r.ws.length d] := (blk1 _ _).2
  have hE4 := HEn3.out.step ((Below.refl _ w3).alloc (Nat.le_refl _) (.cells #[.int .i64 r.kind, .int .i64 r.txn, .int .i64 r.ts, .int .i64 r.coord, .string r.key, .string r.text, .bool r.dead, .slice A r.keys.length c, .slice B r.ws.length d] 25))
  have hgo : w.heap.size < w3.heap.size := HEn3.out.cel.lt
  generalize w3.alloc (.cells #[.int .i64 r.kind, .int .i64 r.txn, .int .i64 r.ts, .int .i64 r.coord, .string r.key, .string r.text, .bool r.dead, .slice A r.keys.length c, .slice B r.ws.length d] 25) = w4 at hC4 hE4 ⊢
  generalize w3.heap.size = o at hC4 hgo ⊢
  have HC4 := Lib.hid hC4
  have HE4 := Lib.hid hE4
  have oq := fun i => hC4.free (i := i)
  have o0 := hC4.cell (i := 0) rfl
  clear hC4 hE4 HEn3 k0 k1 k2 k3 k4 k5 k6 k7 k8
  go_wp2_with fail
  refine (HAm.out _).mono ?_
  rintro e w5 ⟨rfl, rfl⟩
  go_upto_region 7 with fail
  have hC5 : Cel (w5.setCell ⟨o, 0, none⟩ (.int .i64 (1 + (y : Int)))) o 25 [.int .i64 (1 + (y : Int)), .int .i64 r.txn, .int .i64 r.ts, .int .i64 r.coord, .string r.key, .string r.text, .bool r.dead, .slice A r.keys.length c, .slice B r.ws.length d] := HC4.out.set
  have hK5 : Cel (w5.setCell ⟨o, 0, none⟩ (.int .i64 (1 + (y : Int)))) w.heap.size 25 _ := HE4.out.cel.far (by omega)
  have hB5 := HE4.out.bel.setCell (p := ⟨o, 0, none⟩) (Nat.le_of_lt hgo) (.int .i64 (1 + (y : Int)))
  generalize w5.setCell ⟨o, 0, none⟩ (.int .i64 (1 + (y : Int))) = w6 at hC5 hK5 hB5 ⊢
  have HC5 := Lib.hid hC5
  have HK5 := Lib.hid hK5
  have HB5 := Lib.hid hB5
  clear hC5 hK5 hB5 HC4 HE4 oq o0
  have o0 := HC5.out.cell (i := 0) rfl
  have o1 := HC5.out.cell (i := 1) rfl
  have o2 := HC5.out.cell (i := 2) rfl
  have o3 := HC5.out.cell (i := 3) rfl
  have o4 := HC5.out.cell (i := 4) rfl
  have o5 := HC5.out.cell (i := 5) rfl
  have o6 := HC5.out.cell (i := 6) rfl
  have o7 := HC5.out.cell (i := 7) rfl
  have o8 := HC5.out.cell (i := 8) rfl
  have k0 := HK5.out.cell (i := 0) rfl
  have yb : 1 + (y : Int) ≤ 7 := by omega
  by_cases hk : 1 + (y : Int) = r.kind
  · have qk : (1 + (y : Int) == r.kind) = true := by simp [hk]
    clear hk hm
    go_wp2_with fail
    go_ret
    exact ⟨rfl, HB5.out⟩
  have qk : (1 + (y : Int) == r.kind) = false := by simp [hk]
  by_cases hm2 : RecOk { r with kind := 1 + (y : Int) }
  case neg =>
    rw [ckN_not hm2] at HC2
    clear hk hm hm2
    go_wp2_with fail
    refine (HC2.out _ HB5.out).mono ?_
    rintro e w7 ⟨rfl, hb⟩
    have HB7 := Lib.hid (HB5.out.trans (hb.mono HB5.out.size))
    clear hb
    go_wp2_with fail
    go_ret
    exact ⟨rfl, HB7.out⟩
  rw [ckN_of hm2] at HC2
  obtain ⟨a1, a2, a3⟩ := kinds_apart hm hm2 (fun e => hk e.symm)
  have HO1 := Lib.hid (fun W => of_any r.kind W)
  have HO2 := Lib.hid (fun W => of_any (1 + (y : Int)) W)
  rw [← a1] at HO2
  generalize decide (ofP r.kind) = b1 at HO1 HO2
  have n1 : (r.kind != 3) = true := by simp [a2]
  have n2 : ((1 + (y : Int)) != 3) = true := by simp only [bne_iff_ne]; exact a3
  clear hk hm hm2 a1 a2 a3
  go_wp2_with fail
  refine (HC2.out _ HB5.out).mono ?_
  rintro e w7 ⟨rfl, hb⟩
  have hC7 := HC5.out.below hb
  have hK7 := HK5.out.below hb
  have hB7 := HB5.out.trans (hb.mono HB5.out.size)
  have HI0 := Lib.hid (And.intro hC7 (And.intro hK7 hB7))
  clear hb hC7 hK7 hB7 HC5 HK5 HB5 o0 o1 o2 o3 o4 o5 o6 o7 o8 k0 HC1 HC2
  go_upto_region 9 with fail
  refine wp_region_said 17 [26, 27, 28, 29, 30, 31, 32, 33, 34, 35, 36, 37, 38, 39, 40, 41, 42]
    [.is (.pointer (some ⟨w.heap.size, 0, none⟩)), .is (.int .i64 r.kind), .is (.bool b1), .is (.pointer (some ⟨o, 0, none⟩)), .is (.int .i64 (1 + (y : Int))), .is (.bool b1), .is (.bool true), .is (.bool true), .is (.pointer (some ⟨w.heap.size, 0, none⟩)), .is (.int .i64 r.kind), .is (.bool true), .is (.bool true), .is (.bool true), .is (.pointer (some ⟨o, 0, none⟩)), .is (.int .i64 (1 + (y : Int))), .is (.bool true), .is (.bool true)]
    (fun W => Cel W o 25 [.int .i64 (1 + (y : Int)), .int .i64 r.txn, .int .i64 r.ts, .int .i64 r.coord, .string r.key, .string r.text, .bool r.dead, .slice A r.keys.length c, .slice B r.ws.length d] ∧ Cel W w.heap.size 25 [.int .i64 r.kind, .int .i64 r.txn, .int .i64 r.ts, .int .i64 r.coord, .string r.key, .string r.text, .bool r.dead, .slice A r.keys.length c, .slice B r.ws.length d] ∧ Below w.heap.size w W) (by kernel_rfl) (by kernel_rfl) (by kernel_rfl) (by kernel_rfl) (by kernel_rfl) (fun W W' h hb => ⟨h.1.below hb, h.2.1.below hb, h.2.2.trans (hb.mono h.2.2.size)⟩) HI0.out ?steps ?last
  case steps =>
    simp only [List.take_succ_cons, List.take_zero]
    refine ⟨?_, ?_, ?_, ?_, ?_, ?_, ?_, ?_, ?_, ?_, ?_, ?_, ?_, ?_, ?_, ?_, ?_, trivial⟩
    all_goals
      intro vs W ρ hρ hc hf hg hI hH hd R' hR
      have o0 := hI.1.cell (i := 0) rfl
      have k0 := hI.2.1.cell (i := 0) rfl
      have HR := Lib.hid hR
      simp [depsOf, Region.binds, sayAt, Say.holds] at hd
      clear hR hI
      simp only [Region.wanted, hd, boolOf]
      go_simp
    case refine_3 =>
      refine (HO1.out _).mono ?_
      rintro e w' ⟨rfl, rfl⟩
      exact ⟨_, rfl, HR.out _ _ (by simp [sayAt, Say.holds]) (Below.refl _ _) (by simp [sayAt, Say.isBlk])⟩
    case refine_6 =>
      refine (HO2.out _).mono ?_
      rintro e w' ⟨rfl, rfl⟩
      exact ⟨_, rfl, HR.out _ _ (by simp [sayAt, Say.holds]) (Below.refl _ _) (by simp [sayAt, Say.isBlk])⟩
    all_goals
      first
        | exact HR.out _ _ (by simp [sayAt, Say.holds]) (Below.refl _ _) (by simp [sayAt, Say.isBlk])
        | trace_state
  case last =>
    intro vs W hI hb hg hd
    have g16 := hg 16 (by omega)
    simp only [sayAt, Say.holds, List.getD_cons_succ, List.getD_cons_zero] at g16
    simp only [List.take_succ_cons, List.take_zero, List.drop_succ_cons, List.drop_zero, putAll, Act.put, List.setIfInBounds_toArray, List.set_cons_succ, List.set_cons_zero, Nat.zero_add, Nat.reduceAdd]
    rw [g16]
    have HB := Lib.hid hI.2.2
    clear g16 hg hd hb hI
    go_wp2_with fail
    go_ret
    exact ⟨rfl, HB.out⟩

end Rc
end Go.Proofs.Ytibekhigpamnjaa
