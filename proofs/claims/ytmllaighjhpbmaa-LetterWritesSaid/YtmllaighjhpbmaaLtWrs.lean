/- What the document's own writes may be; contract; no condition but the range. -/
import Derived.Test.YtmllaighjhpbmaaLtRef
namespace Go.Proofs.Ytmllaighjhpbmaa
namespace Lt
open Go.RowKit Bk

attribute [local go_sem ↓] Go.wp_at_zero Go.wp_at_succ
attribute [local go_sem] floatUpon pick

theorem add_field (a : Addr) (n k : Nat) (hk : 0 < k) : (⟨(a.add n).block, (a.add n).off + k, none⟩ : Addr) = a.add (n + k) := by
  unfold Addr.add
  by_cases h : n = 0
  · rw [if_pos h, if_neg (by omega), h, Nat.zero_add]
  · rw [if_neg h, if_neg (by omega)]
    simp only [Nat.add_assoc]

/-- the slice v holds the writes l: three cells each -/
def WrsAt (w : World) (A : Option Addr) (l : List Wr) : Prop :=
  0 < l.length → ∃ ad, A = some ad ∧ ad.block < w.heap.size ∧ ∀ i (h : i < l.length), w.cell? (ad.add (i * 3)) = some (.string l[i].key) ∧ w.cell? (ad.add (i * 3 + 1)) = some (.string l[i].shard) ∧ w.cell? (ad.add (i * 3 + 2)) = some (.bool l[i].dead)

theorem WrsAt.below {w w' : World} {A : Option Addr} {l : List Wr} (h : WrsAt w A l) (hb : Below w.heap.size w w') : WrsAt w' A l := fun hp => by
  obtain ⟨ad, h1, h2, h3⟩ := h hp
  exact ⟨ad, h1, Nat.lt_of_lt_of_le h2 hb.size, fun i hi => ⟨(cell_kept hb _ (by rw [st_block]; exact h2)).trans (h3 i hi).1, (cell_kept hb _ (by rw [st_block]; exact h2)).trans (h3 i hi).2.1, (cell_kept hb _ (by rw [st_block]; exact h2)).trans (h3 i hi).2.2⟩⟩

theorem WrsAt.alloc {w : World} {A : Option Addr} {l : List Wr} (h : WrsAt w A l) (o : Obj) : WrsAt (w.alloc o) A l := h.below ((Below.refl _ w).alloc (Nat.le_refl _) o)

noncomputable def writesB (l : List Wr) : Bool := @decide (WritesOk l) (Classical.propDecidable _)

theorem writesB_true {l : List Wr} (h : WritesOk l) : writesB l = true := by unfold writesB; exact @decide_eq_true _ (Classical.propDecidable _) h
theorem writesB_false {l : List Wr} (h : ¬ WritesOk l) : writesB l = false := by unfold writesB; exact @decide_eq_false _ (Classical.propDecidable _) h

theorem writesB_eq {l : List Wr} (h1 : l.length ≤ 16) (h2 : ∀ x ∈ l, wrOk x) : writesB l = risesB (l.map Wr.key) := by
  by_cases h : Rises (l.map Wr.key)
  · rw [risesB_true h, writesB_true ⟨h1, h2, h⟩]
  · rw [risesB_false h, writesB_false (fun hh => h hh.2.2)]

theorem mem_take_succ {α : Type} {l : List α} {j : Nat} (h : j < l.length) {p : α → Prop} (h1 : ∀ x ∈ l.take j, p x) (h2 : p l[j]) : ∀ x ∈ l.take (j + 1), p x := by
  intro x hx
  rw [List.take_add_one, List.getElem?_eq_getElem h] at hx
  rcases List.mem_append.1 hx with hx | hx
  · exact h1 x hx
  · rw [Option.toList_some, List.mem_singleton] at hx
    rw [hx]; exact h2

theorem keys_take {l : List Wr} {j : Nat} (h : j < l.length) : strV ((l.map Wr.key).take (j + 1)) = strV ((l.map Wr.key).take j) ++ [.string l[j].key] := by
  unfold strV
  rw [List.take_add_one, List.getElem?_map, List.getElem?_eq_getElem h, List.map_append]
  rfl

set_option maxRecDepth 20000 in
set_option maxHeartbeats 4000000 in
theorem writes_any (A : Option Addr) (c : Nat) (l : List Wr) (w : World) (h : WrsAt w A l) (hn : l.length * 16 + 16 ≤ 140737488355328) (hr : ∀ x ∈ l, x.key.size ≤ 9223372036854775807 ∧ x.shard.size ≤ 9223372036854775807) :
    Calls Try.prog 33 #[.slice A l.length c] w fun e w' => e = .returned (.bool (writesB l)) ∧ Below w.heap.size w w' := by
  obtain ⟨i0, hi, hz0, hz1, hz2⟩ := info_parts Try.infoStr
  have HRr := Lib.hid hr
  have HA := Lib.hid h
  clear h hr
  go_enter Try.func33, Try.ntmps33
  go_wp2_with fail
  go_loopw [3, 4] (fun u i wr => ∃ j : Nat, j ≤ l.length ∧ i = .int .i64 (j : Int) ∧ Hid (∀ x ∈ l.take j, wrOk x) ∧ Hid (wr.ownsRow w.heap.size 9 1 u j (strV ((l.map Wr.key).take j))) ∧ Hid (Below w.heap.size w wr)) (fun _ i _ => l.length - (intOf i).toNat)
  case atStart => exact ⟨0, by omega, rfl, fun x hx => absurd hx (by simp), World.ownsRow_nil _ _ _ _, Below.refl _ _⟩
  case round =>
    obtain ⟨j, hj, rfl, hall, hown, hbel⟩ := hrel
    by_cases hlt : j < l.length
    · have pj : (j : Int) < (l.length : Int) := by omega
      obtain ⟨ad, rfl, _, _⟩ := HA.out (by omega)
      obtain ⟨ad', e', hab, hcl⟩ := (HA.out.below hbel.out) (by omega)
      obtain rfl := Option.some.inj e'
      obtain ⟨x1, -, -⟩ := hcl j hlt
      have hkt := keys_take hlt
      have hmem : l[j] ∈ l := List.getElem_mem hlt
      have HKt := Lib.hid hkt
      generalize hX : l[j] = X at x1 hkt hmem HKt
      have HX := Lib.hid hX
      clear hkt hX hcl e' hab
      go_upto_region 6 with (at_builtin; refine wpList_append_own _ rfl _ _ 22 rfl w.heap.size 9 i0 (.string ⟨#[]⟩) 1 16 Try.underlying22 hi hz0 hz1 hz2 rfl (by decide) _ _ _ rfl (hown.out.alloc _) ⟨wr.heap.size, 0, none⟩ 1 1 [.string X.key] rfl rfl ?c1 ?c2 ?c3 ?c4 ?c5 ?_)
      case c1 => exact cell_one_new _ _ _
      case c2 => intro q hq; simp at hq; subst hq; rfl
      case c3 => unfold maxLen; omega
      case c4 => omega
      case c5 => have := hbel.out.size; simp; omega
      intro v' w5 hown' hgrow _
      have HB5 := Lib.hid (below_append hown.out hbel.out (Nat.le_refl _) hgrow)
      rw [← HKt.out] at hown'
      have HO5 := Lib.hid hown'
      obtain ⟨ad', e', hab, hcl⟩ := (HA.out.below HB5.out) (by omega)
      obtain rfl := Option.some.inj e'
      obtain ⟨-, y1, y2⟩ := hcl j hlt
      rw [HX.out] at y1 y2
      rw [← add_field _ _ _ (by omega)] at y1 y2
      have hrs := (HRr.out _ hmem).2
      clear hown' hgrow hcl e' hab hown hbel x1
      have hno : ¬ wrOk X → ¬ WritesOk l := fun h hw => h (hw.2.1 X hmem)
      have hyes : wrOk X → ∀ x ∈ l.take (j + 1), wrOk x := fun h => mem_take_succ hlt hall.out (by rw [HX.out]; exact h)
      obtain ⟨xk, xs, xd⟩ := X
      simp only at *
      by_cases hs : xs.size ≤ 2052
      · have ps : (xs.size : Int) ≤ 2052 := by omega
        cases xd with
        | false =>
          have HW := Lib.hid (hyes ⟨hs, fun h => by cases h.1⟩)
          clear hno hyes hs hall hmem HX
          go_wp2_with fail
          go_roundw
          case rel => exact ⟨j + 1, by omega, by go_num, HW.out, HO5.out, HB5.out⟩
          case measure => simp [intOf]; omega
        | true =>
          by_cases he : xs = ⟨#[]⟩
          · have HW := Lib.hid (hyes ⟨hs, fun h => h.2 he⟩)
            subst he
            have t0 := text_eq ⟨#[]⟩
            clear hno hyes hs hall hmem HX
            go_wp2_with fail
            go_roundw
            case rel => exact ⟨j + 1, by omega, by go_num, HW.out, HO5.out, HB5.out⟩
            case measure => simp [intOf]; omega
          · have E := Lib.hid (writesB_false (hno (fun h => h.2 ⟨rfl, he⟩)))
            have t0 := text_ne he
            have t1 : ¬ xs.toList = [] := fun h => he (by
              rw [ByteArray.toList_eq] at h
              obtain ⟨a⟩ := xs
              congr 1
              exact Array.toList_inj.1 h)
            have t2 : xs.toList.isEmpty = false := by rw [List.isEmpty_eq_false_iff]; exact t1
            clear hno hyes hs hall hmem HX he
            go_wp2_with fail
            go_ret
            exact ⟨by rw [E.out]; rfl, HB5.out⟩
      · have E := Lib.hid (writesB_false (hno (fun h => hs h.1)))
        have ps : (2052 : Int) < (xs.size : Int) := by omega
        clear hno hyes hs hall hmem HX
        go_wp2_with fail
        go_ret
        exact ⟨by rw [E.out]; rfl, HB5.out⟩
    · obtain rfl : j = l.length := by omega
      have hall2 := hall.out
      rw [List.take_length] at hall2
      have hown2 := hown.out
      have hkl : (l.map Wr.key).length = l.length := List.length_map ..
      rw [List.take_of_length_le (by rw [hkl]; exact Nat.le_refl _)] at hown2
      by_cases h16 : l.length ≤ 16
      · have p16 : (l.length : Int) ≤ 16 := by omega
        have E := Lib.hid (writesB_eq h16 hall2)
        obtain ⟨B, d, rfl, hsb⟩ : ∃ (B : Option Addr) (d : Nat), u3 = .slice B l.length d ∧ StrsAt wr B (l.map Wr.key) := by
          rcases hown2.2 with ⟨h1, h2⟩ | ⟨g, cap, cur, h1, _⟩
          · exact ⟨none, 0, by rw [h1, h2], fun hp => by rw [hkl] at hp; omega⟩
          · subst h1
            exact ⟨_, _, rfl, StrsAt.own hown2 hkl.symm⟩
        have hR := rising_any B d (l.map Wr.key) wr hsb (by rw [hkl]; omega) (fun s hs => by obtain ⟨x, hx, rfl⟩ := List.mem_map.1 hs; exact (HRr.out x hx).1)
        rw [hkl] at hR
        have HR := Lib.hid hR
        have HBl := hbel
        clear hall hall2 hown hown2 hsb hR hbel hkl
        go_wp2_with fail
        refine HR.out.mono ?_
        rintro e w1 ⟨rfl, hb⟩
        have HB1 := Lib.hid (HBl.out.trans (hb.mono HBl.out.size))
        clear hb HBl HR
        go_wp2_with fail
        go_ret
        exact ⟨by rw [E.out]; rfl, HB1.out⟩
      · have p16 : (16 : Int) < (l.length : Int) := by omega
        have E := Lib.hid (writesB_false (fun h => h16 h.1))
        have HBl := hbel
        clear hall hall2 hown hown2 hbel hkl h16
        go_wp2_with fail
        go_ret
        exact ⟨by rw [E.out]; rfl, HBl.out⟩

end Lt
end Go.Proofs.Ytmllaighjhpbmaa
