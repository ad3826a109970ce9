/- What the landed package's holds, mayBe and Check answer; contracts; no condition but the range. -/
import Derived.Test.YtmllaighjhpbmaaLtRoom
import Derived.Test.YtmllaighjhpbmaaLtBook
namespace Go.Proofs.Ytmllaighjhpbmaa
namespace Lt
open Go.RowKit Bk

attribute [local go_sem ↓] Go.wp_at_zero Go.wp_at_succ
attribute [local go_sem] floatUpon pick

/-- what a room holds -/
noncomputable def holdsB (r : Rm) (l : Let) : Bool :=
  (decide (0 ≤ l.code) && decide (l.code ≤ r.code)) && (decide ((l.text.size : Int) ≤ r.text) && ((decide (l.text = ⟨#[]⟩) || decide (l.code = 1)) &&
  ((decide (r.fewest ≤ (l.keys.length : Int)) && decide ((l.keys.length : Int) ≤ r.most)) && (risesB l.keys && (decide ((l.ws.length : Int) ≤ r.writes) && areB l.ws)))))

set_option maxRecDepth 20000 in
set_option maxHeartbeats 8000000 in
theorem holds_any (r : Rm) (A B : Option Addr) (c d : Nat) (l : Let) (w : World) (ha : StrsAt w A l.keys) (hb : WrsAt w B l.ws) (hr : LetRng l) :
    Calls Try.prog 51 #[rmV r, letV l A B c d] w fun e w' => e = .returned (.bool (holdsB r l)) ∧ Below w.heap.size w w' := by
  have rb : reachBytes = 140737488351232 := by unfold reachBytes; rfl
  have r16 := hr.k16
  have w16 := hr.w16
  have HI := Lib.hid (fun W => within_any l.code 0 r.code W)
  have HL := Lib.hid (fun W => within_any (l.keys.length : Int) r.fewest r.most W)
  have HK := Lib.hid (fun W (hbl : Below w.heap.size w W) => lrising_any A c l.keys W (ha.below hbl) (by omega) (fun s hs => by have := hr.kr s hs; omega))
  have HW := Lib.hid (fun W (hbl : Below w.heap.size w W) => areWrites_any B d l.ws W (hb.below hbl) (by omega) (fun x hx => by have := hr.wr x hx; omega))
  unfold letV rmV
  obtain ⟨s2, b1, b2⟩ := blk2 w (.cells #[.int .i64 r.code, .int .i64 r.text, .int .i64 r.fewest, .int .i64 r.most, .int .i64 r.writes] 81) (.cells #[.int .i64 l.kind, .int .i64 l.src, .int .i64 l.dst, .int .i64 l.txn, .int .i64 l.ts, .int .i64 l.code, .string l.text, .slice A l.keys.length c, .slice B l.ws.length d] 25)
  have hB : Below w.heap.size w ((w.alloc (.cells #[.int .i64 r.code, .int .i64 r.text, .int .i64 r.fewest, .int .i64 r.most, .int .i64 r.writes] 81)).alloc (.cells #[.int .i64 l.kind, .int .i64 l.src, .int .i64 l.dst, .int .i64 l.txn, .int .i64 l.ts, .int .i64 l.code, .string l.text, .slice A l.keys.length c, .slice B l.ws.length d] 25)) :=
    ((Below.refl _ w).alloc (Nat.le_refl _) _).alloc (by simp) _
  have HB := Lib.hid hB
  have C1 : Cel _ _ _ [_, _, _, _, _] := b1
  have C2 : Cel _ _ _ [_, _, _, _, _, _, _, _, _] := b2
  have HC1 := Lib.hid C1
  have HC2 := Lib.hid C2
  clear hB s2 b1 b2 C1 C2 ha hb hr r16 w16
  go_enter Try.func51, Try.ntmps51
  go_upto_region 1 with fail
  generalize ((w.alloc (.cells #[.int .i64 r.code, .int .i64 r.text, .int .i64 r.fewest, .int .i64 r.most, .int .i64 r.writes] 81)).alloc (.cells #[.int .i64 l.kind, .int .i64 l.src, .int .i64 l.dst, .int .i64 l.txn, .int .i64 l.ts, .int .i64 l.code, .string l.text, .slice A l.keys.length c, .slice B l.ws.length d] 25)) = W1 at HB HC1 HC2 ⊢
  have p0 := HC1.out.cell (i := 0) rfl
  have p1 := HC1.out.cell (i := 1) rfl
  have p2 := HC1.out.cell (i := 2) rfl
  have p3 := HC1.out.cell (i := 3) rfl
  have p4 := HC1.out.cell (i := 4) rfl
  have q5 := HC2.out.cell (i := 5) rfl
  have q6 := HC2.out.cell (i := 6) rfl
  have q7 := HC2.out.cell (i := 7) rfl
  have q8 := HC2.out.cell (i := 8) rfl
  obtain ⟨x1, hx1⟩ : ∃ x, x = (decide (0 ≤ l.code) && decide (l.code ≤ r.code)) := ⟨_, rfl⟩
  obtain ⟨x4, hx4⟩ : ∃ x, x = (decide (r.fewest ≤ (l.keys.length : Int)) && decide ((l.keys.length : Int) ≤ r.most)) := ⟨_, rfl⟩
  have e0 : holdsB r l = (x1 && (decide ((l.text.size : Int) ≤ r.text) && ((decide (l.text = ⟨#[]⟩) || decide (l.code = 1)) && (x4 && (risesB l.keys && (decide ((l.ws.length : Int) ≤ r.writes) && areB l.ws)))))) := by rw [hx1, hx4]; rfl
  rw [← hx1] at HI
  rw [← hx4] at HL
  clear hx1 hx4
  generalize risesB l.keys = x5 at *
  generalize areB l.ws = x7 at *
  cases x1 with
  | false =>
    have E := Lib.hid e0
    clear e0
    go_wp2_with fail
    refine (HI.out _).mono ?_
    rintro e w2 ⟨rfl, rfl⟩
    go_wp2_with fail
    go_ret
    exact ⟨by rw [E.out]; rfl, HB.out⟩
  | true =>
  by_cases h2 : (l.text.size : Int) ≤ r.text
  case neg =>
    have E := Lib.hid (show holdsB r l = false by rw [e0, decide_eq_false h2]; rfl)
    have n2 : r.text < (l.text.size : Int) := by omega
    clear e0
    go_wp2_with fail
    refine (HI.out _).mono ?_
    rintro e w2 ⟨rfl, rfl⟩
    go_wp2_with fail
    go_ret
    exact ⟨by rw [E.out]; rfl, HB.out⟩
  rw [decide_eq_true h2] at e0
  have hor : ((decide (l.text = ⟨#[]⟩) || decide (l.code = 1)) = false ∧ ¬ l.text.toList = [] ∧ (l.code == 1) = false) ∨ ((decide (l.text = ⟨#[]⟩) || decide (l.code = 1)) = true ∧ ((l.text = ⟨#[]⟩) ∨ (¬ l.text.toList = [] ∧ (l.code == 1) = true))) := by
    by_cases he : l.text = ⟨#[]⟩
    · exact .inr ⟨by rw [decide_eq_true he]; rfl, .inl he⟩
    · by_cases hc : l.code = 1
      · exact .inr ⟨by rw [decide_eq_true hc, Bool.or_true], .inr ⟨empty_list he, by simpa using hc⟩⟩
      · exact .inl ⟨by rw [decide_eq_false he, decide_eq_false hc]; rfl, empty_list he, by simpa using hc⟩
  rcases hor with ⟨f3, f4, f5⟩ | ⟨f3, f4⟩
  · have E := Lib.hid (show holdsB r l = false by rw [e0, f3]; rfl)
    have f6 : l.text.toList.isEmpty = false := by rw [List.isEmpty_eq_false_iff]; exact f4
    clear e0 f3
    go_wp2_with fail
    refine (HI.out _).mono ?_
    rintro e w2 ⟨rfl, rfl⟩
    go_wp2_with fail
    go_ret
    exact ⟨by rw [E.out]; rfl, HB.out⟩
  rw [f3] at e0
  have HO : ∀ (P : Prop), (l.text = ⟨#[]⟩ → P) → (¬ l.text.toList = [] → l.text.toList.isEmpty = false → (l.code == 1) = true → P) → P := fun P h1 h2 => by
    rcases f4 with f4 | ⟨f4, f5⟩
    · exact h1 f4
    · exact h2 f4 (by rw [List.isEmpty_eq_false_iff]; exact f4) f5
  have HO2 := Lib.hid HO
  clear f3 f4 HO
  cases x4 with
  | false =>
    have E := Lib.hid e0
    clear e0
    refine HO2.out _ (fun f4 => ?_) (fun f4 f5 f6 => ?_)
    · rw [f4] at q6 h2
      have t0 := text_eq ⟨#[]⟩
      go_wp2_with fail
      refine (HI.out _).mono ?_
      rintro e w2 ⟨rfl, rfl⟩
      go_wp2_with fail
      refine (HL.out _).mono ?_
      rintro e w2 ⟨rfl, rfl⟩
      go_wp2_with fail
      go_ret
      exact ⟨by rw [E.out]; rfl, HB.out⟩
    · go_wp2_with fail
      refine (HI.out _).mono ?_
      rintro e w2 ⟨rfl, rfl⟩
      go_wp2_with fail
      refine (HL.out _).mono ?_
      rintro e w2 ⟨rfl, rfl⟩
      go_wp2_with fail
      go_ret
      exact ⟨by rw [E.out]; rfl, HB.out⟩
  | true =>
  have hrest : ∀ (W2 : World), Below W1.heap.size W1 W2 → Hid (Below w.heap.size w W2 ∧ W2.cell? ⟨w.heap.size + 1, 8, none⟩ = some (.slice B l.ws.length d) ∧ W2.cell? ⟨w.heap.size, 4, none⟩ = some (.int .i64 r.writes)) := fun W2 hb =>
    Lib.hid ⟨HB.out.trans (hb.mono HB.out.size), (HC2.out.below hb).cell (i := 8) rfl, (HC1.out.below hb).cell (i := 4) rfl⟩
  have HRest := Lib.hid hrest
  clear hrest HC1 HC2
  have hcase : (x5 = false) ∨ (x5 = true ∧ ¬ (l.ws.length : Int) ≤ r.writes) ∨ (x5 = true ∧ (l.ws.length : Int) ≤ r.writes) := by
    cases x5 with
    | false => exact .inl rfl
    | true => exact .inr (by by_cases h : (l.ws.length : Int) ≤ r.writes; exact .inr ⟨rfl, h⟩; exact .inl ⟨rfl, h⟩)
  rcases hcase with rfl | ⟨rfl, h6⟩ | ⟨rfl, h6⟩
  · have E := Lib.hid e0
    clear e0
    refine HO2.out _ (fun f4 => ?_) (fun f4 f5 f6 => ?_)
    · rw [f4] at q6 h2
      have t0 := text_eq ⟨#[]⟩
      go_wp2_with fail
      refine (HI.out _).mono ?_
      rintro e w2 ⟨rfl, rfl⟩
      go_wp2_with fail
      refine (HL.out _).mono ?_
      rintro e w2 ⟨rfl, rfl⟩
      go_wp2_with fail
      refine (HK.out _ HB.out).mono ?_
      rintro e w2 ⟨rfl, hb⟩
      have HB2 := HRest.out _ hb
      clear hb
      go_wp2_with fail
      go_ret
      exact ⟨by rw [E.out]; rfl, HB2.out.1⟩
    · go_wp2_with fail
      refine (HI.out _).mono ?_
      rintro e w2 ⟨rfl, rfl⟩
      go_wp2_with fail
      refine (HL.out _).mono ?_
      rintro e w2 ⟨rfl, rfl⟩
      go_wp2_with fail
      refine (HK.out _ HB.out).mono ?_
      rintro e w2 ⟨rfl, hb⟩
      have HB2 := HRest.out _ hb
      clear hb
      go_wp2_with fail
      go_ret
      exact ⟨by rw [E.out]; rfl, HB2.out.1⟩
  · have E := Lib.hid (show holdsB r l = false by rw [e0, decide_eq_false h6]; rfl)
    have n6 : r.writes < (l.ws.length : Int) := by omega
    clear e0
    refine HO2.out _ (fun f4 => ?_) (fun f4 f5 f6 => ?_)
    · rw [f4] at q6 h2
      have t0 := text_eq ⟨#[]⟩
      go_wp2_with fail
      refine (HI.out _).mono ?_
      rintro e w2 ⟨rfl, rfl⟩
      go_wp2_with fail
      refine (HL.out _).mono ?_
      rintro e w2 ⟨rfl, rfl⟩
      go_wp2_with fail
      refine (HK.out _ HB.out).mono ?_
      rintro e w2 ⟨rfl, hb⟩
      have HB2 := HRest.out _ hb
      have y8 := HB2.out.2.1
      have y4 := HB2.out.2.2
      clear hb
      go_wp2_with fail
      go_ret
      exact ⟨by rw [E.out]; rfl, HB2.out.1⟩
    · go_wp2_with fail
      refine (HI.out _).mono ?_
      rintro e w2 ⟨rfl, rfl⟩
      go_wp2_with fail
      refine (HL.out _).mono ?_
      rintro e w2 ⟨rfl, rfl⟩
      go_wp2_with fail
      refine (HK.out _ HB.out).mono ?_
      rintro e w2 ⟨rfl, hb⟩
      have HB2 := HRest.out _ hb
      have y8 := HB2.out.2.1
      have y4 := HB2.out.2.2
      clear hb
      go_wp2_with fail
      go_ret
      exact ⟨by rw [E.out]; rfl, HB2.out.1⟩
  · have E := Lib.hid (show holdsB r l = x7 by rw [e0, decide_eq_true h6]; simp)
    clear e0
    refine HO2.out _ (fun f4 => ?_) (fun f4 f5 f6 => ?_)
    · rw [f4] at q6 h2
      have t0 := text_eq ⟨#[]⟩
      go_wp2_with fail
      refine (HI.out _).mono ?_
      rintro e w2 ⟨rfl, rfl⟩
      go_wp2_with fail
      refine (HL.out _).mono ?_
      rintro e w2 ⟨rfl, rfl⟩
      go_wp2_with fail
      refine (HK.out _ HB.out).mono ?_
      rintro e w2 ⟨rfl, hb⟩
      have HB2 := HRest.out _ hb
      have y8 := HB2.out.2.1
      have y4 := HB2.out.2.2
      clear hb
      go_wp2_with fail
      refine (HW.out _ HB2.out.1).mono ?_
      rintro e w3 ⟨rfl, hb⟩
      have HB3 := Lib.hid (HB2.out.1.trans (hb.mono HB2.out.1.size))
      clear hb
      go_wp2_with fail
      go_ret
      exact ⟨by rw [E.out]; rfl, HB3.out⟩
    · go_wp2_with fail
      refine (HI.out _).mono ?_
      rintro e w2 ⟨rfl, rfl⟩
      go_wp2_with fail
      refine (HL.out _).mono ?_
      rintro e w2 ⟨rfl, rfl⟩
      go_wp2_with fail
      refine (HK.out _ HB.out).mono ?_
      rintro e w2 ⟨rfl, hb⟩
      have HB2 := HRest.out _ hb
      have y8 := HB2.out.2.1
      have y4 := HB2.out.2.2
      clear hb
      go_wp2_with fail
      refine (HW.out _ HB2.out.1).mono ?_
      rintro e w3 ⟨rfl, hb⟩
      have HB3 := Lib.hid (HB2.out.1.trans (hb.mono HB2.out.1.size))
      clear hb
      go_wp2_with fail
      go_ret
      exact ⟨by rw [E.out]; rfl, HB3.out⟩

end Lt
end Go.Proofs.Ytmllaighjhpbmaa
