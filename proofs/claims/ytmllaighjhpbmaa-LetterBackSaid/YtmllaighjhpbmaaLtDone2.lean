/- What the landed package's areWrites and roomOf answer; contracts; no condition but the range. -/
import Derived.Test.YtmllaighjhpbmaaLtDone1
import Derived.Test.YtmllaighjhpbmaaLtEnv
import Derived.OneCell
namespace Go.Proofs.Ytmllaighjhpbmaa
namespace Lt
open Go.RowKit Bk

attribute [local go_sem ↓] Go.wp_at_zero Go.wp_at_succ
attribute [local go_sem] floatUpon pick

/-- writes whose keys rise -/
def AreOk (l : List Wr) : Prop := (∀ x ∈ l, wrOk x) ∧ Rises (l.map Wr.key)

noncomputable def areB (l : List Wr) : Bool := @decide (AreOk l) (Classical.propDecidable _)
theorem areB_true {l : List Wr} (h : AreOk l) : areB l = true := by unfold areB; exact @decide_eq_true _ (Classical.propDecidable _) h
theorem areB_false {l : List Wr} (h : ¬ AreOk l) : areB l = false := by unfold areB; exact @decide_eq_false _ (Classical.propDecidable _) h
theorem areB_eq {l : List Wr} (h2 : ∀ x ∈ l, wrOk x) : areB l = risesB (l.map Wr.key) := by
  by_cases h : Rises (l.map Wr.key)
  · rw [risesB_true h, areB_true ⟨h2, h⟩]
  · rw [risesB_false h, areB_false (fun hh => h hh.2)]

set_option maxRecDepth 20000 in
set_option maxHeartbeats 4000000 in
theorem areWrites_any (A : Option Addr) (c : Nat) (l : List Wr) (w : World) (h : WrsAt w A l) (hn : l.length * 16 + 16 ≤ 140737488355328) (hr : ∀ x ∈ l, x.key.size ≤ 9223372036854775807 ∧ x.shard.size ≤ 9223372036854775807) :
    Calls Try.prog 64 #[.slice A l.length c] w fun e w' => e = .returned (.bool (areB l)) ∧ Below w.heap.size w w' := by
  obtain ⟨i0, hi, hz0, hz1, hz2⟩ := info_parts Try.infoStr
  have HRr := Lib.hid hr
  have HA := Lib.hid h
  clear h hr
  go_enter Try.func64, Try.ntmps64
  go_wp2_with fail
  go_loopw [3, 8] (fun u i wr => ∃ j : Nat, j ≤ l.length ∧ i = .int .i64 (j : Int) ∧ Hid (∀ x ∈ l.take j, wrOk x) ∧ Hid (wr.ownsRow w.heap.size 9 1 u j (strV ((l.map Wr.key).take j))) ∧ Hid (Below w.heap.size w wr)) (fun _ i _ => l.length - (intOf i).toNat)
  case atStart => exact ⟨0, by omega, rfl, fun x hx => absurd hx (by simp), World.ownsRow_nil _ _ _ _, Below.refl _ _⟩
  case round =>
    obtain ⟨j, hj, rfl, hall, hown, hbel⟩ := hrel
    by_cases hlt : j < l.length
    · have pj : (j : Int) < (l.length : Int) := by omega
      obtain ⟨ad, rfl, _, _⟩ := HA.out (by omega)
      obtain ⟨ad', e', hab, hcl⟩ := (HA.out.below hbel.out) (by omega)
      obtain rfl := Option.some.inj e'
      obtain ⟨x0, x1, x2⟩ := hcl j hlt
      rw [← add_field _ _ _ (by omega)] at x1 x2
      have HKt := Lib.hid (keys_take hlt)
      have hmem : l[j] ∈ l := List.getElem_mem hlt
      have hrs := (HRr.out _ hmem).2
      have hno : ¬ wrOk l[j] → ¬ AreOk l := fun h hw => h (hw.1 _ hmem)
      have hyes : wrOk l[j] → ∀ x ∈ l.take (j + 1), wrOk x := fun h => mem_take_succ hlt hall.out h
      obtain ⟨X, hX⟩ : ∃ X, X = l[j] := ⟨_, rfl⟩
      rw [← hX] at x0 x1 x2 hrs hno hyes HKt
      clear hX hcl e' hab hmem
      obtain ⟨xk, xs, xd⟩ := X
      simp only at *
      go_upto_region 5 with fail
      have hB1 : Below w.heap.size w (wr.alloc (.cells #[.string xk, .string xs, .bool xd] 77)) := hbel.out.alloc hbel.out.size _
      have hO1 : (wr.alloc (.cells #[.string xk, .string xs, .bool xd] 77)).ownsRow w.heap.size 9 1 u3 j (strV ((l.map Wr.key).take j)) := hown.out.alloc _
      have hC1 : Cel (wr.alloc (.cells #[.string xk, .string xs, .bool xd] 77)) wr.heap.size 77 [.string xk, .string xs, .bool xd] := (blk1 _ _).2
      generalize wr.alloc (.cells #[.string xk, .string xs, .bool xd] 77) = W1 at hB1 hO1 hC1 ⊢
      have z0 := hC1.cell (i := 0) rfl
      have z1 := hC1.cell (i := 1) rfl
      have z2 := hC1.cell (i := 2) rfl
      have HB1 := Lib.hid hB1
      have HO1 := Lib.hid hO1
      have HC1 := Lib.hid hC1
      generalize wr.heap.size = g at *
      clear hB1 hO1 hC1 x0 x1 x2 hown hbel
      by_cases hs : xs.size ≤ 2052
      · have ps : (xs.size : Int) ≤ 2052 := by omega
        cases xd with
        | false =>
          have HW := Lib.hid (hyes ⟨hs, fun h => by cases h.1⟩)
          clear hno hyes hs hall
          go_wp2_with (at_builtin; refine wpList_append_own _ rfl _ _ 22 rfl w.heap.size 9 i0 (.string ⟨#[]⟩) 1 16 Try.underlying22 hi hz0 hz1 hz2 rfl (by decide) _ _ _ rfl (HO1.out.alloc _) ⟨W1.heap.size, 0, none⟩ 1 1 [.string xk] rfl rfl ?c1 ?c2 ?c3 ?c4 ?c5 ?_)
          case c1 => exact cell_one_new _ _ _
          case c2 => intro q hq; simp at hq; subst hq; rfl
          case c3 => unfold maxLen; omega
          case c4 => omega
          case c5 => have := HB1.out.size; simp; omega
          intro v' w5 hown' hgrow _
          have HB5 := Lib.hid (below_append HO1.out HB1.out (Nat.le_refl _) hgrow)
          rw [← HKt.out] at hown'
          have HO5 := Lib.hid hown'
          clear hown' hgrow
          go_wp2_with fail
          go_roundw
          case rel => exact ⟨j + 1, by omega, by go_num, HW.out, HO5.out, HB5.out⟩
          case measure => simp [intOf]; omega
        | true =>
          by_cases he : xs = ⟨#[]⟩
          · have HW := Lib.hid (hyes ⟨hs, fun h => h.2 he⟩)
            subst he
            have t0 := text_eq ⟨#[]⟩
            clear hno hyes hs hall
            go_wp2_with (at_builtin; refine wpList_append_own _ rfl _ _ 22 rfl w.heap.size 9 i0 (.string ⟨#[]⟩) 1 16 Try.underlying22 hi hz0 hz1 hz2 rfl (by decide) _ _ _ rfl (HO1.out.alloc _) ⟨W1.heap.size, 0, none⟩ 1 1 [.string xk] rfl rfl ?c1 ?c2 ?c3 ?c4 ?c5 ?_)
            case c1 => exact cell_one_new _ _ _
            case c2 => intro q hq; simp at hq; subst hq; rfl
            case c3 => unfold maxLen; omega
            case c4 => omega
            case c5 => have := HB1.out.size; simp; omega
            intro v' w5 hown' hgrow _
            have HB5 := Lib.hid (below_append HO1.out HB1.out (Nat.le_refl _) hgrow)
            rw [← HKt.out] at hown'
            have HO5 := Lib.hid hown'
            clear hown' hgrow
            go_wp2_with fail
            go_roundw
            case rel => exact ⟨j + 1, by omega, by go_num, HW.out, HO5.out, HB5.out⟩
            case measure => simp [intOf]; omega
          · have E := Lib.hid (areB_false (hno (fun h => h.2 ⟨rfl, he⟩)))
            have t0 := text_ne he
            have t1 : ¬ xs.toList = [] := fun h => he (by
              rw [ByteArray.toList_eq] at h
              obtain ⟨a⟩ := xs
              congr 1
              exact Array.toList_inj.1 h)
            have t2 : xs.toList.isEmpty = false := by rw [List.isEmpty_eq_false_iff]; exact t1
            clear hno hyes hs hall he
            go_wp2_with fail
            go_ret
            exact ⟨by rw [E.out]; rfl, HB1.out⟩
      · have E := Lib.hid (areB_false (hno (fun h => hs h.1)))
        have ps : (2052 : Int) < (xs.size : Int) := by omega
        clear hno hyes hs hall
        go_wp2_with fail
        go_ret
        exact ⟨by rw [E.out]; rfl, HB1.out⟩
    · obtain rfl : j = l.length := by omega
      have hall2 := hall.out
      rw [List.take_length] at hall2
      have hown2 := hown.out
      have hkl : (l.map Wr.key).length = l.length := List.length_map ..
      rw [List.take_of_length_le (by rw [hkl]; exact Nat.le_refl _)] at hown2
      have E := Lib.hid (areB_eq hall2)
      obtain ⟨B, d, rfl, hsb⟩ : ∃ (B : Option Addr) (d : Nat), u3 = .slice B l.length d ∧ StrsAt wr B (l.map Wr.key) := by
        rcases hown2.2 with ⟨h1, h2⟩ | ⟨g, cap, cur, h1, _⟩
        · exact ⟨none, 0, by rw [h1, h2], fun hp => by rw [hkl] at hp; omega⟩
        · subst h1
          exact ⟨_, _, rfl, StrsAt.own hown2 hkl.symm⟩
      have hR := lrising_any B d (l.map Wr.key) wr hsb (by rw [hkl]; omega) (fun s hs => by obtain ⟨x, hx, rfl⟩ := List.mem_map.1 hs; exact (HRr.out x hx).1)
      rw [hkl] at hR
      have HR := Lib.hid hR
      have HBl := hbel
      clear hall hall2 hown hown2 hsb hR hbel hkl
      go_wp2_with fail
      refine HR.out.mono ?_
      rintro e w1 ⟨rfl, hb⟩
      have HB1 := Lib.hid (HBl.out.trans (hb.mono HBl.out.size))
      clear hb HBl HR
      go_wp2_with fail
      go_ret
      exact ⟨by rw [E.out]; rfl, HB1.out⟩

/-- how much letters of a kind may have -/
structure Rm where
  code : Int
  text : Int
  fewest : Int
  most : Int
  writes : Int

def rmV (r : Rm) : Value := .agg #[.int .i64 r.code, .int .i64 r.text, .int .i64 r.fewest, .int .i64 r.most, .int .i64 r.writes]

def roomR (k : Int) : Rm × Bool :=
  if k = 1 then (⟨0, 0, 1, 1, 0⟩, true) else if k = 2 then (⟨4, 2052, 1, 1, 0⟩, true) else if k = 3 then (⟨0, 0, 0, 16, 16⟩, true) else
  if k = 4 then (⟨1, 0, 0, 0, 0⟩, true) else if k = 8 then (⟨2, 0, 0, 0, 0⟩, true) else if k = 5 ∨ k = 6 ∨ k = 7 then (⟨0, 0, 0, 0, 0⟩, true) else (⟨0, 0, 0, 0, 0⟩, false)

theorem room_blk (w : World) : Cel (w.alloc (.cells #[.int .i64 0, .int .i64 0, .int .i64 0, .int .i64 0, .int .i64 0] 81)) w.heap.size 81 [.int .i64 0, .int .i64 0, .int .i64 0, .int .i64 0, .int .i64 0] := (blk1 w _).2

end Lt
end Go.Proofs.Ytmllaighjhpbmaa
