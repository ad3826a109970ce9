/- Parts of the proof, joined: LtDone1, LtDone2; their conditions stand with each. -/
import Derived.OneCell
import Derived.Test.YtiobhbagjokpcaaGreatM6
import Derived.Test.YtiobhbagjokpcaaGreatM8

/- What the landed package's within, isAddress, Key and Rising answer; contracts; no condition but the range. -/
namespace Go.Proofs.YtiobhbagjokpcaaGreat
namespace Lt
open Go.RowKit Bk

attribute [local go_sem ↓] Go.wp_at_zero Go.wp_at_succ
attribute [local go_sem] floatUpon pick

set_option maxHeartbeats 1000000 in
theorem within_any (n a b : Int) (w : World) :
    Calls Tryz.prog 160 #[.int .i64 n, .int .i64 a, .int .i64 b] w fun e w' => e = .returned (.bool (decide (a ≤ n) && decide (n ≤ b))) ∧ w' = w := by
  by_cases h1 : a ≤ n
  · have E := Lib.hid (show (decide (a ≤ n) && decide (n ≤ b)) = decide (n ≤ b) by rw [decide_eq_true h1, Bool.true_and])
    go_enter Tryz.func160, Tryz.ntmps160
    go_wp2_with fail
    go_ret
    exact ⟨by rw [E.out]; rfl, rfl⟩
  · have E := Lib.hid (show (decide (a ≤ n) && decide (n ≤ b)) = false by rw [decide_eq_false h1, Bool.false_and])
    have h2 : n < a := by omega
    clear h1
    go_enter Tryz.func160, Tryz.ntmps160
    go_wp2_with fail
    go_ret
    exact ⟨by rw [E.out]; rfl, rfl⟩

set_option maxHeartbeats 1000000 in
theorem isAddress_any (n : Int) (w : World) :
    Calls Tryz.prog 159 #[.int .i64 n] w fun e w' => e = .returned (.bool (decide (addr n))) ∧ w' = w := by
  have H1 := Lib.hid (within_any n 0 11 w)
  have H2 := Lib.hid (within_any n 100 115 w)
  by_cases h1 : 0 ≤ n ∧ n ≤ 11
  · have E := Lib.hid (show decide (addr n) = true by rw [decide_eq_true_eq]; unfold addr; omega)
    rw [show (decide (0 ≤ n) && decide (n ≤ 11)) = true by simp [h1]] at H1
    clear h1 H2
    go_enter Tryz.func159, Tryz.ntmps159
    go_wp2_with fail
    refine H1.out.mono ?_
    rintro e w1 ⟨rfl, rfl⟩
    go_wp2_with fail
    go_ret
    exact ⟨by rw [E.out]; rfl, rfl⟩
  · have E := Lib.hid (show decide (addr n) = (decide (100 ≤ n) && decide (n ≤ 115)) by rw [← Bool.decide_and]; unfold addr; congr 1; exact propext ⟨fun h => by omega, fun h => by omega⟩)
    rw [show (decide (0 ≤ n) && decide (n ≤ 11)) = false by rw [← Bool.decide_and, decide_eq_false h1]] at H1
    clear h1
    generalize (decide (100 ≤ n) && decide (n ≤ 115)) = b at E H2
    go_enter Tryz.func159, Tryz.ntmps159
    go_wp2_with fail
    refine H1.out.mono ?_
    rintro e w1 ⟨rfl, rfl⟩
    go_wp2_with fail
    refine H2.out.mono ?_
    rintro e w1 ⟨rfl, rfl⟩
    go_wp2_with fail
    go_ret
    exact ⟨by rw [E.out]; rfl, rfl⟩

set_option maxHeartbeats 1000000 in
theorem lkey_any (s : ByteArray) (w : World) (hs : s.size ≤ 9223372036854775807) :
    Calls Tryz.prog 164 #[.string s] w fun e w' => e = .returned (.bool (decide (keyOk s))) ∧ w' = w := by
  have H1 := Lib.hid (within_any (s.size : Int) 1 32 w)
  rw [show (decide ((1 : Int) ≤ (s.size : Int)) && decide ((s.size : Int) ≤ 32)) = decide (keyOk s) by rw [← Bool.decide_and]; unfold keyOk; congr 1; exact propext ⟨fun h => by omega, fun h => by omega⟩] at H1
  go_enter Tryz.func164, Tryz.ntmps164
  go_wp2_with fail
  refine H1.out.mono ?_
  rintro e w1 ⟨rfl, rfl⟩
  go_wp2_with fail
  go_ret
  exact ⟨rfl, rfl⟩

theorem bytesLess_nil (l : List UInt8) : Op.bytesLess l [] = false := by
  cases l <;> rfl

theorem leT_nil {s : ByteArray} (h : 1 ≤ s.size) : leT s ⟨#[]⟩ = false := by
  unfold leT
  rw [ByteArray.toList_eq, ByteArray.toList_eq]
  show (Op.bytesLess s.data.toList [] || s.data.toList == []) = false
  rw [bytesLess_nil, Bool.false_or]
  obtain ⟨a⟩ := s
  have h2 : 1 ≤ a.size := h
  rw [beq_eq_false_iff_ne]
  intro e
  have := congrArg List.length e
  simp at this
  rw [this] at h2
  simp at h2

/-- the text ahead of place j -/
def aheadT (l : List ByteArray) (j : Nat) : ByteArray := if j = 0 then ⟨#[]⟩ else l.getD (j - 1) ⟨#[]⟩

theorem ahead_succ {l : List ByteArray} {j : Nat} (h : j < l.length) : aheadT l (j + 1) = l[j] := by
  unfold aheadT
  rw [if_neg (by omega), Nat.add_sub_cancel, List.getD_eq_getElem?_getD, List.getElem?_eq_getElem h]; rfl

theorem ahead_le {l : List ByteArray} {j : Nat} (h : j < l.length) (hk : keyOk l[j]) : leT l[j] (aheadT l j) = true ↔ ∃ h0 : 0 < j, leT l[j] (l[j - 1]'(by omega)) = true := by
  unfold aheadT
  by_cases h0 : j = 0
  · subst h0
    rw [if_pos rfl, leT_nil hk.1]
    exact ⟨fun e => (by cases e), fun ⟨e, _⟩ => absurd e (by omega)⟩
  · rw [if_neg h0, List.getD_eq_getElem?_getD, List.getElem?_eq_getElem (by omega)]
    exact ⟨fun e => ⟨by omega, e⟩, fun ⟨_, e⟩ => e⟩

set_option maxRecDepth 20000 in
set_option maxHeartbeats 4000000 in
theorem lrising_any (A : Option Addr) (c : Nat) (l : List ByteArray) (w : World) (h : StrsAt w A l) (hn : l.length ≤ 9223372036854775807) (hr : ∀ s ∈ l, s.size ≤ 9223372036854775807) :
    Calls Tryz.prog 162 #[.slice A l.length c] w fun e w' => e = .returned (.bool (risesB l)) ∧ Below w.heap.size w w' := by
  have HA := Lib.hid h
  have HRr := Lib.hid hr
  clear h hr
  go_enter Tryz.func162, Tryz.ntmps162
  go_wp2_with fail
  go_loopw [3, 8] (fun u i wr => ∃ j : Nat, j ≤ l.length ∧ u = .string (aheadT l j) ∧ i = .int .i64 (j : Int) ∧ Hid (RisesTo l j) ∧ wr = w) (fun _ i _ => l.length - (intOf i).toNat)
  case atStart => exact ⟨0, by omega, rfl, rfl, RisesTo.zero l, rfl⟩
  case round =>
    obtain ⟨j, hj, rfl, rfl, hup, rfl⟩ := hrel
    by_cases hlt : j < l.length
    · have pj : (j : Int) < (l.length : Int) := by omega
      obtain ⟨ad, rfl, hab, hcl⟩ := HA.out (by omega)
      have x1 := hcl j hlt
      have HK := Lib.hid (fun W => lkey_any l[j] W (HRr.out _ (List.getElem_mem hlt)))
      have hsu := ahead_succ hlt
      by_cases hk : keyOk l[j]
      · rw [show decide (keyOk l[j]) = true by simpa using hk] at HK
        have hle := ahead_le hlt hk
        cases hb : leT l[j] (aheadT l j) with
        | true =>
          have E := Lib.hid (risesB_false (not_rises hlt (fun hh => by
            obtain ⟨h0, e⟩ := hle.1 hb
            have := hh.2 h0
            rw [e] at this; cases this)))
          have hle2 : (Op.bytesLess l[j].toList (aheadT l j).toList || l[j].toList == (aheadT l j).toList) = true := hb
          generalize aheadT l j = u at *
          generalize l[j] = x at *
          clear hup hk hle hb hcl hsu
          go_wp2_with fail
          refine (HK.out _).mono ?_
          rintro e w' ⟨rfl, rfl⟩
          go_wp2_with fail
          go_ret
          exact ⟨by rw [E.out]; rfl, Below.refl _ _⟩
        | false =>
          have HU := Lib.hid (hup.out.succ hlt hk (fun h0 => by
            cases e : leT l[j] (l[j - 1]'(by omega)) with
            | false => rfl
            | true => have := hle.2 ⟨h0, e⟩; rw [hb] at this; cases this))
          have hle2 : (Op.bytesLess l[j].toList (aheadT l j).toList || l[j].toList == (aheadT l j).toList) = false := hb
          have HSu := Lib.hid hsu
          generalize aheadT l j = u at *
          generalize l[j] = x at *
          clear hup hk hle hb hcl hsu
          go_wp2_with fail
          refine (HK.out _).mono ?_
          rintro e w' ⟨rfl, rfl⟩
          go_wp2_with fail
          go_roundw
          case rel => exact ⟨j + 1, by omega, by rw [HSu.out], by go_num, HU.out, trivial⟩
          case measure => simp [intOf]; omega
      · rw [show decide (keyOk l[j]) = false by simpa using hk] at HK
        have E := Lib.hid (risesB_false (not_rises hlt (fun hh => hk hh.1)))
        generalize aheadT l j = u at *
        generalize l[j] = x at *
        clear hup hk hcl hsu
        go_wp2_with fail
        refine (HK.out _).mono ?_
        rintro e w' ⟨rfl, rfl⟩
        go_wp2_with fail
        go_ret
        exact ⟨by rw [E.out]; rfl, Below.refl _ _⟩
    · obtain rfl : j = l.length := by omega
      have E := Lib.hid (risesB_true hup.out.all)
      clear hup
      go_wp2_with fail
      go_ret
      exact ⟨by rw [E.out]; rfl, Below.refl _ _⟩

end Lt
end Go.Proofs.YtiobhbagjokpcaaGreat

/- What the landed package's areWrites and roomOf answer; contracts; no condition but the range. -/
namespace Go.Proofs.YtiobhbagjokpcaaGreat
namespace Lt
open Go.RowKit Bk

attribute [local go_sem ↓] Go.wp_at_zero Go.wp_at_succ
attribute [local go_sem] floatUpon pick

/-- writes whose keys rise -/
def AreOk (l : List Wr) : Prop := (∀ x ∈ l, wrOk x) ∧ Rises (l.map Wr.key)

noncomputable def areB (l : List Wr) : Bool := @decide (AreOk l) (Classical.propDecidable _)
theorem areB_true {l : List Wr} (h : AreOk l) : areB l = true := by unfold areB; exact @decide_eq_true _ (Classical.propDecidable _) h
theorem areB_false {l : List Wr} (h : ¬ AreOk l) : areB l = false := by unfold areB; exact @decide_eq_false _ (Classical.propDecidable _) h
theorem areB_eq {l : List Wr} (h2 : ∀ x ∈ l, wrOk x) : areB l = risesB (l.map Wr.key) := by
  by_cases h : Rises (l.map Wr.key)
  · rw [risesB_true h, areB_true ⟨h2, h⟩]
  · rw [risesB_false h, areB_false (fun hh => h hh.2)]

set_option maxRecDepth 20000 in
set_option maxHeartbeats 4000000 in
theorem areWrites_any (A : Option Addr) (c : Nat) (l : List Wr) (w : World) (h : WrsAt w A l) (hn : l.length * 16 + 16 ≤ 140737488355328) (hr : ∀ x ∈ l, x.key.size ≤ 9223372036854775807 ∧ x.shard.size ≤ 9223372036854775807) :
    Calls Tryz.prog 163 #[.slice A l.length c] w fun e w' => e = .returned (.bool (areB l)) ∧ Below w.heap.size w w' := by
  obtain ⟨i0, hi, hz0, hz1, hz2⟩ := info_parts Tryz.infoStr
  have HRr := Lib.hid hr
  have HA := Lib.hid h
  clear h hr
  go_enter Tryz.func163, Tryz.ntmps163
  go_wp2_with fail
  go_loopw [3, 8] (fun u i wr => ∃ j : Nat, j ≤ l.length ∧ i = .int .i64 (j : Int) ∧ Hid (∀ x ∈ l.take j, wrOk x) ∧ Hid (wr.ownsRow w.heap.size 9 1 u j (strV ((l.map Wr.key).take j))) ∧ Hid (Below w.heap.size w wr)) (fun _ i _ => l.length - (intOf i).toNat)
  case atStart => exact ⟨0, by omega, rfl, fun x hx => absurd hx (by simp), World.ownsRow_nil _ _ _ _, Below.refl _ _⟩
  case round =>
    obtain ⟨j, hj, rfl, hall, hown, hbel⟩ := hrel
    by_cases hlt : j < l.length
    · have pj : (j : Int) < (l.length : Int) := by omega
      obtain ⟨ad, rfl, _, _⟩ := HA.out (by omega)
      obtain ⟨ad', e', hab, hcl⟩ := (HA.out.below hbel.out) (by omega)
      obtain rfl := Option.some.inj e'
      obtain ⟨x0, x1, x2⟩ := hcl j hlt
      rw [← add_field _ _ _ (by omega)] at x1 x2
      have HKt := Lib.hid (keys_take hlt)
      have hmem : l[j] ∈ l := List.getElem_mem hlt
      have hrs := (HRr.out _ hmem).2
      have hno : ¬ wrOk l[j] → ¬ AreOk l := fun h hw => h (hw.1 _ hmem)
      have hyes : wrOk l[j] → ∀ x ∈ l.take (j + 1), wrOk x := fun h => mem_take_succ hlt hall.out h
      obtain ⟨X, hX⟩ : ∃ X, X = l[j] := ⟨_, rfl⟩
      rw [← hX] at x0 x1 x2 hrs hno hyes HKt
      clear hX hcl e' hab hmem
      obtain ⟨xk, xs, xd⟩ := X
      simp only at *
      go_upto_region 5 with fail
      have hB1 : Below w.heap.size w (wr.alloc (.cells #[.string xk, .string xs, .bool xd] 45)) := hbel.out.alloc hbel.out.size _
      have hO1 : (wr.alloc (.cells #[.string xk, .string xs, .bool xd] 45)).ownsRow w.heap.size 9 1 u3 j (strV ((l.map Wr.key).take j)) := hown.out.alloc _
      have hC1 : Cel (wr.alloc (.cells #[.string xk, .string xs, .bool xd] 45)) wr.heap.size 45 [.string xk, .string xs, .bool xd] := (blk1 _ _).2
      generalize wr.alloc (.cells #[.string xk, .string xs, .bool xd] 45) = W1 at hB1 hO1 hC1 ⊢
      have z0 := hC1.cell (i := 0) rfl
      have z1 := hC1.cell (i := 1) rfl
      have z2 := hC1.cell (i := 2) rfl
      have HB1 := Lib.hid hB1
      have HO1 := Lib.hid hO1
      have HC1 := Lib.hid hC1
      generalize wr.heap.size = g at *
      clear hB1 hO1 hC1 x0 x1 x2 hown hbel
      by_cases hs : xs.size ≤ 2052
      · have ps : (xs.size : Int) ≤ 2052 := by omega
        cases xd with
        | false =>
          have HW := Lib.hid (hyes ⟨hs, fun h => by cases h.1⟩)
          clear hno hyes hs hall
          go_wp2_with (at_builtin; refine wpList_append_own _ rfl _ _ 23 rfl w.heap.size 9 i0 (.string ⟨#[]⟩) 1 16 Tryz.underlying23 hi hz0 hz1 hz2 rfl (by decide) _ _ _ rfl (HO1.out.alloc _) ⟨W1.heap.size, 0, none⟩ 1 1 [.string xk] rfl rfl ?c1 ?c2 ?c3 ?c4 ?c5 ?_)
          case c1 => exact cell_one_new _ _ _
          case c2 => intro q hq; simp at hq; subst hq; rfl
          case c3 => unfold maxLen; omega
          case c4 => omega
          case c5 => have := HB1.out.size; simp; omega
          intro v' w5 hown' hgrow _
          have HB5 := Lib.hid (below_append HO1.out HB1.out (Nat.le_refl _) hgrow)
          rw [← HKt.out] at hown'
          have HO5 := Lib.hid hown'
          clear hown' hgrow
          go_wp2_with fail
          go_roundw
          case rel => exact ⟨j + 1, by omega, by go_num, HW.out, HO5.out, HB5.out⟩
          case measure => simp [intOf]; omega
        | true =>
          by_cases he : xs = ⟨#[]⟩
          · have HW := Lib.hid (hyes ⟨hs, fun h => h.2 he⟩)
            subst he
            have t0 := text_eq ⟨#[]⟩
            clear hno hyes hs hall
            go_wp2_with (at_builtin; refine wpList_append_own _ rfl _ _ 23 rfl w.heap.size 9 i0 (.string ⟨#[]⟩) 1 16 Tryz.underlying23 hi hz0 hz1 hz2 rfl (by decide) _ _ _ rfl (HO1.out.alloc _) ⟨W1.heap.size, 0, none⟩ 1 1 [.string xk] rfl rfl ?c1 ?c2 ?c3 ?c4 ?c5 ?_)
            case c1 => exact cell_one_new _ _ _
            case c2 => intro q hq; simp at hq; subst hq; rfl
            case c3 => unfold maxLen; omega
            case c4 => omega
            case c5 => have := HB1.out.size; simp; omega
            intro v' w5 hown' hgrow _
            have HB5 := Lib.hid (below_append HO1.out HB1.out (Nat.le_refl _) hgrow)
            rw [← HKt.out] at hown'
            have HO5 := Lib.hid hown'
            clear hown' hgrow
            go_wp2_with fail
            go_roundw
            case rel => exact ⟨j + 1, by omega, by go_num, HW.out, HO5.out, HB5.out⟩
            case measure => simp [intOf]; omega
          · have E := Lib.hid (areB_false (hno (fun h => h.2 ⟨rfl, he⟩)))
            have t0 := text_ne he
            have t1 : ¬ xs.toList = [] := fun h => he (by
              rw [ByteArray.toList_eq] at h
              obtain ⟨a⟩ := xs
              congr 1
              exact Array.toList_inj.1 h)
            have t2 : xs.toList.isEmpty = false := by rw [List.isEmpty_eq_false_iff]; exact t1
            clear hno hyes hs hall he
            go_wp2_with fail
            go_ret
            exact ⟨by rw [E.out]; rfl, HB1.out⟩
      · have E := Lib.hid (areB_false (hno (fun h => hs h.1)))
        have ps : (2052 : Int) < (xs.size : Int) := by omega
        clear hno hyes hs hall
        go_wp2_with fail
        go_ret
        exact ⟨by rw [E.out]; rfl, HB1.out⟩
    · obtain rfl : j = l.length := by omega
      have hall2 := hall.out
      rw [List.take_length] at hall2
      have hown2 := hown.out
      have hkl : (l.map Wr.key).length = l.length := List.length_map ..
      rw [List.take_of_length_le (by rw [hkl]; exact Nat.le_refl _)] at hown2
      have E := Lib.hid (areB_eq hall2)
      obtain ⟨B, d, rfl, hsb⟩ : ∃ (B : Option Addr) (d : Nat), u3 = .slice B l.length d ∧ StrsAt wr B (l.map Wr.key) := by
        rcases hown2.2 with ⟨h1, h2⟩ | ⟨g, cap, cur, h1, _⟩
        · exact ⟨none, 0, by rw [h1, h2], fun hp => by rw [hkl] at hp; omega⟩
        · subst h1
          exact ⟨_, _, rfl, StrsAt.own hown2 hkl.symm⟩
      have hR := lrising_any B d (l.map Wr.key) wr hsb (by rw [hkl]; omega) (fun s hs => by obtain ⟨x, hx, rfl⟩ := List.mem_map.1 hs; exact (HRr.out x hx).1)
      rw [hkl] at hR
      have HR := Lib.hid hR
      have HBl := hbel
      clear hall hall2 hown hown2 hsb hR hbel hkl
      go_wp2_with fail
      refine HR.out.mono ?_
      rintro e w1 ⟨rfl, hb⟩
      have HB1 := Lib.hid (HBl.out.trans (hb.mono HBl.out.size))
      clear hb HBl HR
      go_wp2_with fail
      go_ret
      exact ⟨by rw [E.out]; rfl, HB1.out⟩

/-- how much letters of a kind may have -/
structure Rm where
  code : Int
  text : Int
  fewest : Int
  most : Int
  writes : Int

def rmV (r : Rm) : Value := .agg #[.int .i64 r.code, .int .i64 r.text, .int .i64 r.fewest, .int .i64 r.most, .int .i64 r.writes]

def roomR (k : Int) : Rm × Bool :=
  if k = 1 then (⟨0, 0, 1, 1, 0⟩, true) else if k = 2 then (⟨4, 2052, 1, 1, 0⟩, true) else if k = 3 then (⟨0, 0, 0, 16, 16⟩, true) else
  if k = 4 then (⟨1, 0, 0, 0, 0⟩, true) else if k = 8 then (⟨2, 0, 0, 0, 0⟩, true) else if k = 5 ∨ k = 6 ∨ k = 7 then (⟨0, 0, 0, 0, 0⟩, true) else (⟨0, 0, 0, 0, 0⟩, false)

theorem room_blk (w : World) : Cel (w.alloc (.cells #[.int .i64 0, .int .i64 0, .int .i64 0, .int .i64 0, .int .i64 0] 185)) w.heap.size 185 [.int .i64 0, .int .i64 0, .int .i64 0, .int .i64 0, .int .i64 0] := (blk1 w _).2

end Lt
end Go.Proofs.YtiobhbagjokpcaaGreat
