/- Parts of the proof, joined: ShL2, ShL3; their conditions stand with each. -/
import Derived.Lib.Bytealg
import Derived.Test.YtiobhbagjokpcaaGreatM22

/- The landed shelf: which keys a record reads and writes, by the library's binary searches; contracts; no condition but the order. -/
namespace Go.Proofs.YtiobhbagjokpcaaGreat
namespace Sh
open Go.RowKit Bk Ch Lt Rc Tr

attribute [local go_sem ↓] Go.wp_at_zero Go.wp_at_succ
attribute [local go_sem] floatUpon pick

/-- what a search for a key has behind it and ahead of it -/
structure MidK (l : List ByteArray) (key : ByteArray) (i j : Nat) : Prop where
  le : i ≤ j
  ln : j ≤ l.length
  low : ∀ k (h : k < l.length), k < i → ltK l[k] key = true
  high : ∀ k (h : k < l.length), j ≤ k → ltK l[k] key = false

theorem MidK.start (l : List ByteArray) (key : ByteArray) : MidK l key 0 l.length := ⟨Nat.zero_le _, Nat.le_refl _, fun _ _ h => absurd h (by omega), fun _ h1 h2 => absurd h1 (by omega)⟩

theorem rise_lt {l : List ByteArray} (hr : l.Pairwise (fun x y => ltK x y = true)) {key : ByteArray} {i j : Nat} (hj : j < l.length) (hij : i ≤ j) (h : ltK l[j] key = true) : ltK (l[i]'(by omega)) key = true := by
  rcases Nat.eq_or_lt_of_le hij with e | e
  · subst e; exact h
  · exact lt_trans (List.pairwise_iff_getElem.1 hr i j (by omega) hj e) h

theorem MidK.left {l : List ByteArray} {key : ByteArray} {i j m : Nat} (h : MidK l key i j) (hr : l.Pairwise (fun x y => ltK x y = true)) (hm : m < l.length) (hmj : m < j) (ht : ltK l[m] key = true) : MidK l key (m + 1) j :=
  ⟨by omega, h.ln, fun k _ hkm => rise_lt hr hm (by omega) ht, h.high⟩

theorem MidK.right {l : List ByteArray} {key : ByteArray} {i j m : Nat} (h : MidK l key i j) (hr : l.Pairwise (fun x y => ltK x y = true)) (hm : m < l.length) (him : i ≤ m) (ht : ltK l[m] key = false) : MidK l key i m :=
  ⟨him, by omega, h.low, fun k hk hkm => by
    cases hc : ltK l[k] key with
    | false => rfl
    | true => rw [rise_lt hr hk hkm hc] at ht; cases ht⟩

theorem MidK.out {l : List ByteArray} {key : ByteArray} {i : Nat} (h : MidK l key i i) (hn : ¬ i < l.length) : l.any (fun y => decide (y = key)) = false := by
  rw [List.any_eq_false]
  intro y hy
  obtain ⟨k, hk, rfl⟩ := List.getElem_of_mem hy
  simp only [decide_eq_true_eq]
  exact fun e => lt_ne (h.low k hk (by omega)) e

theorem MidK.hit {l : List ByteArray} {key : ByteArray} {i : Nat} (h : MidK l key i i) (hr : l.Pairwise (fun x y => ltK x y = true)) (hi : i < l.length) : l.any (fun y => decide (y = key)) = decide (l[i] = key) := by
  by_cases e : l[i] = key
  · rw [decide_eq_true e]
    exact List.any_eq_true.2 ⟨_, List.getElem_mem hi, by simp [e]⟩
  · rw [decide_eq_false e, List.any_eq_false]
    intro y hy
    obtain ⟨k, hk, rfl⟩ := List.getElem_of_mem hy
    simp only [decide_eq_true_eq]
    intro ek
    rcases Nat.lt_trichotomy k i with h1 | h1 | h1
    · exact lt_ne (h.low k hk h1) ek
    · subst h1; exact e ek
    · have h2 := List.pairwise_iff_getElem.1 hr i k hi hk h1
      rw [ek] at h2
      rw [h.high i hi (Nat.le_refl _)] at h2
      cases h2

theorem cmp_lt : ∀ a b : List UInt8, Go.Lib.compareBytes a b < 0 ↔ Op.bytesLess a b = true
  | [], [] => by simp [Go.Lib.compareBytes, Op.bytesLess]
  | [], _ :: _ => by simp [Go.Lib.compareBytes, Op.bytesLess]
  | _ :: _, [] => by simp [Go.Lib.compareBytes, Op.bytesLess]
  | a :: x, b :: y => by
    unfold Go.Lib.compareBytes Op.bytesLess
    simp only [Bool.or_eq_true, Bool.and_eq_true, decide_eq_true_eq, beq_iff_eq]
    by_cases h1 : a < b
    · rw [if_pos h1]
      exact ⟨fun _ => .inl h1, fun _ => by decide⟩
    · rw [if_neg h1]
      by_cases h2 : b < a
      · rw [if_pos h2]
        refine ⟨fun h => absurd h (by decide), fun h => ?_⟩
        rcases h with h | ⟨rfl, _⟩
        · exact absurd h h1
        · exact absurd h2 h1
      · rw [if_neg h2]
        have e : a = b := UInt8.le_antisymm (UInt8.not_lt.1 h2) (UInt8.not_lt.1 h1)
        rw [cmp_lt x y]
        exact ⟨fun h => .inr ⟨e, h⟩, fun h => h.elim (fun h => absurd h h1) (fun h => h.2)⟩

theorem cmp_zero : ∀ a b : List UInt8, Go.Lib.compareBytes a b = 0 ↔ a = b
  | [], [] => by simp [Go.Lib.compareBytes]
  | [], _ :: _ => by simp [Go.Lib.compareBytes]
  | _ :: _, [] => by simp [Go.Lib.compareBytes]
  | a :: x, b :: y => by
    unfold Go.Lib.compareBytes
    by_cases h1 : a < b
    · rw [if_pos h1]
      refine ⟨fun h => absurd h (by decide), fun h => ?_⟩
      obtain ⟨rfl, _⟩ := List.cons.inj h
      exact absurd h1 (UInt8.lt_irrefl _)
    · rw [if_neg h1]
      by_cases h2 : b < a
      · rw [if_pos h2]
        refine ⟨fun h => absurd h (by decide), fun h => ?_⟩
        obtain ⟨rfl, _⟩ := List.cons.inj h
        exact absurd h2 (UInt8.lt_irrefl _)
      · rw [if_neg h2]
        have e : a = b := UInt8.le_antisymm (UInt8.not_lt.1 h2) (UInt8.not_lt.1 h1)
        rw [cmp_zero x y]
        exact ⟨fun h => by rw [e, h], fun h => (List.cons.inj h).2⟩

/-- how the library compares two texts -/
def cmpK (a b : ByteArray) : Int := Go.Lib.compareBytes a.data.toList b.data.toList

theorem cmpK_lt (a b : ByteArray) : decide (cmpK a b < 0) = ltK a b := by
  unfold cmpK ltK
  have h := cmp_lt a.data.toList b.data.toList
  rw [← ByteArray.toList_eq, ← ByteArray.toList_eq] at h
  rw [ByteArray.toList_eq, ByteArray.toList_eq] at h ⊢
  cases hc : Op.bytesLess a.data.toList b.data.toList with
  | true => exact decide_eq_true (h.2 hc)
  | false => exact decide_eq_false (fun h2 => by have := h.1 h2; rw [hc] at this; cases this)

theorem cmpK_zero (a b : ByteArray) : cmpK a b = 0 ↔ a = b := by
  unfold cmpK
  rw [cmp_zero]
  constructor
  · intro h
    cases a; cases b
    congr 1
    exact Array.toList_inj.1 h
  · rintro rfl; rfl

theorem isNaN1_any (s : ByteArray) (w : World) : Calls Tryz.prog 145 #[.string s] w fun e w' => e = .returned (.bool false) ∧ w' = w := by
  go_enter Tryz.func145, Tryz.ntmps145
  go_wp2_with fail
  go_ret
  exact ⟨rfl, rfl⟩

theorem isNaN2_any (s : ByteArray) (w : World) : Calls Tryz.prog 122 #[.string s] w fun e w' => e = .returned (.bool false) ∧ w' = w := by
  go_enter Tryz.func122, Tryz.ntmps122
  go_wp2_with fail
  go_ret
  exact ⟨rfl, rfl⟩

theorem less_any (a b : ByteArray) (w : World) : Calls Tryz.prog 121 #[.string a, .string b] w fun e w' => e = .returned (.bool (ltK a b)) ∧ w' = w := by
  have H1 := Lib.hid (isNaN1_any a w)
  have H2 := Lib.hid (isNaN1_any b w)
  go_enter Tryz.func121, Tryz.ntmps121
  go_wp2_with fail
  refine H1.out.mono ?_
  rintro e1 w1 ⟨rfl, rfl⟩
  go_wp2_with fail
  go_ret
  exact ⟨rfl, rfl⟩

set_option maxHeartbeats 1000000 in
set_option maxRecDepth 100000 in
theorem compare_any (a b : ByteArray) (w : World) : Calls Tryz.prog 105 #[.string a, .string b] w fun e w' => e = .returned (.int .i64 (cmpK a b)) ∧ w' = w := by
  have H2 := Lib.hid (show Calls Tryz.prog 120 #[.string a, .string b] w fun e w' => e = .returned (.int .i64 (cmpK a b)) ∧ w' = w by
    go_enter Tryz.func120, Tryz.ntmps120
    go_wp2
    rw [run_callFunc_extern Tryz.func144 (by kernel_rfl) (by kernel_rfl) (by kernel_rfl) (e := Extern.BytealgCompare.compare) (by kernel_rfl), Lib.run_compareString]
    simp only [Result.andThen]
    rw [Oper.upon_value]
    go_wp2
    go_ret
    exact ⟨rfl, rfl⟩)
  go_enter Tryz.func105, Tryz.ntmps105
  go_wp2_with fail
  refine H2.out.mono ?_
  rintro e1 w1 ⟨rfl, rfl⟩
  go_wp2_with fail
  go_ret
  exact ⟨rfl, rfl⟩

/-! ### a record that is held against a key -/

/-- the keys of writes, and their cells -/
theorem wrs_at {W : World} {B : Option Addr} {ws : List Wr} (h : WrsAt W B ws) {i : Nat} (hi : i < ws.length) : ∃ ad, B = some ad ∧ W.cell? (ad.add (i * 3)) = some (.string ws[i].key) ∧ W.cell? ⟨(ad.add (i * 3)).block, (ad.add (i * 3)).off + 1, none⟩ = some (.string ws[i].shard) ∧ W.cell? ⟨(ad.add (i * 3)).block, (ad.add (i * 3)).off + 2, none⟩ = some (.bool ws[i].dead) := by
  obtain ⟨ad, e, _, h2⟩ := h (by omega)
  obtain ⟨x0, x1, x2⟩ := h2 i hi
  exact ⟨ad, e, x0, by rw [Ch.add_field _ _ _ (by omega)]; exact x1, by rw [Ch.add_field _ _ _ (by omega)]; exact x2⟩

theorem writes1_any (k t : ByteArray) (d : Bool) (key : ByteArray) (w : World) : Calls Tryz.prog 104 #[.agg #[.string k, .string t, .bool d], .string key] w fun e w' => e = .returned (.int .i64 (cmpK k key)) ∧ Below w.heap.size w w' := by
  have H := Lib.hid (fun W => compare_any k key W)
  go_enter Tryz.func104, Tryz.ntmps104
  go_wp2_with fail
  refine (H.out _).mono ?_
  rintro e1 w1 ⟨rfl, rfl⟩
  go_wp2_with fail
  go_ret
  exact ⟨rfl, (Below.refl _ _).alloc (Nat.le_refl _) _⟩

set_option maxRecDepth 20000 in
set_option maxHeartbeats 4000000 in
/-- the library's search among keys that rise -/
theorem bsearch_any (A : Option Addr) (c : Nat) (l : List ByteArray) (key : ByteArray) (w : World) (hA : StrsAt w A l) (hr : l.Pairwise (fun x y => ltK x y = true)) (hn : l.length ≤ 1024) :
    Calls Tryz.prog 106 #[.slice A l.length c, .string key] w fun e w' => (∃ n : Int, e = .returned (.tuple #[.int .i64 n, .bool (l.any fun y => decide (y = key))])) ∧ w' = w := by
  have HL := Lib.hid (fun x W => less_any x key W)
  have HN := Lib.hid (fun x W => isNaN2_any x W)
  have HA := Lib.hid hA
  have HR := Lib.hid hr
  have hlen : (l.length : Int) ≤ 1024 := by omega
  clear hA hr hn
  go_enter Tryz.func106, Tryz.ntmps106
  go_wp2_with fail
  go_loopw [7, 8] (fun iv jv wr => ∃ i j : Nat, iv = .int .i64 (i : Int) ∧ jv = .int .i64 (j : Int) ∧ Hid (MidK l key i j) ∧ wr = w) (fun iv jv _ => (RowKit.intOf jv).toNat - (RowKit.intOf iv).toNat)
  case atStart => exact ⟨0, l.length, rfl, rfl, Lib.hid (MidK.start l key), rfl⟩
  case round =>
    obtain ⟨i, j, rfl, rfl, hm, rfl⟩ := hrel
    have hij := hm.out.le
    have hjl := hm.out.ln
    have pj : (j : Int) ≤ 1024 := by omega
    by_cases hlt : i < j
    · have pij : (i : Int) < (j : Int) := by omega
      obtain ⟨m, hmm⟩ : ∃ m : Nat, (i + j) / 2 = m := ⟨_, rfl⟩
      have him : i ≤ m := by omega
      have hmj : m < j := by omega
      have hml : m < l.length := by omega
      obtain ⟨ad, rfl, _, hcl⟩ := HA.out (by omega)
      have x0 := hcl m hml
      go_upto_region 5 with fail
      rw [show ((i : Int) + (j : Int)) / 2 = (m : Int) by omega]
      have pml : (m : Int) < (l.length : Int) := by omega
      have pm : (m : Int) ≤ 1024 := by omega
      cases ht : ltK l[m] key with
      | false =>
        have HM := Lib.hid (hm.out.right HR.out hml him ht)
        have HLm := Lib.hid (HL.out l[m])
        rw [ht] at HLm
        generalize l[m] = k at x0 HLm
        have HLt := Lib.hid hmj
        clear hm ht hmm him hij hjl pij hcl hlt hmj HL HN
        go_wp2_with fail
        refine (HLm.out _).mono ?_
        rintro e2 w2 ⟨rfl, rfl⟩
        go_wp2_with fail
        go_roundw
        case rel => exact ⟨i, m, rfl, rfl, HM, trivial⟩
        case measure => simp [RowKit.intOf]; have := HM.out.le; have := HLt.out; omega
      | true =>
        have HM := Lib.hid (hm.out.left HR.out hml hmj ht)
        have HLm := Lib.hid (HL.out l[m])
        rw [ht] at HLm
        generalize l[m] = k at x0 HLm
        have HMi := Lib.hid him
        have HLt := Lib.hid hlt
        clear hm ht hmm him hij hjl pij hcl hlt hmj HL HN
        go_wp2_with fail
        refine (HLm.out _).mono ?_
        rintro e2 w2 ⟨rfl, rfl⟩
        go_wp2_with fail
        go_roundw
        case rel => exact ⟨m + 1, j, by go_num, rfl, HM, trivial⟩
        case measure => simp [RowKit.intOf]; have := HMi.out; have := HLt.out; omega
    · obtain rfl : i = j := by omega
      by_cases hi : i < l.length
      · have hh := hm.out.hit HR.out hi
        have pi : (i : Int) < (l.length : Int) := by omega
        obtain ⟨ad, rfl, _, hcl⟩ := HA.out (by omega)
        have x0 := hcl i hi
        by_cases e : l[i] = key
        · rw [e] at x0 hh
          simp only [decide_true] at hh
          have HH := Lib.hid hh
          have te := text_eq key
          clear hm hh hcl e HL
          go_wp2_with fail
          go_ret2
          exact ⟨⟨(i : Int), by rw [HH.out]; rfl⟩, rfl⟩
        · rw [decide_eq_false e] at hh
          have HH := Lib.hid hh
          have HNm := Lib.hid (HN.out l[i])
          have te := text_ne e
          generalize l[i] = k at x0 te HNm
          clear hm hh hcl e HL
          go_wp2_with fail
          refine (HNm.out _).mono ?_
          rintro e2 w2 ⟨rfl, rfl⟩
          go_wp2_with fail
          go_ret2
          exact ⟨⟨(i : Int), by rw [HH.out]; rfl⟩, rfl⟩
      · have HH := Lib.hid (hm.out.out hi)
        have pi : ¬ (i : Int) < (l.length : Int) := by omega
        clear hm HL HN
        go_wp2_with fail
        go_ret2
        exact ⟨⟨(i : Int), by rw [HH.out]; rfl⟩, rfl⟩

end Sh
end Go.Proofs.YtiobhbagjokpcaaGreat

/- The landed shelf: does a record read a key, does it write it; contracts; no condition but the order. -/
namespace Go.Proofs.YtiobhbagjokpcaaGreat
namespace Sh
open Go.RowKit Bk Ch Lt Rc Tr

attribute [local go_sem ↓] Go.wp_at_zero Go.wp_at_succ
attribute [local go_sem] floatUpon pick

theorem cmpB {k key : ByteArray} {b : Bool} (h : ltK k key = b) : decide (cmpK k key < 0) = b := by rw [cmpK_lt, h]

set_option maxRecDepth 20000 in
set_option maxHeartbeats 4000000 in
theorem bsearchF_any (A : Option Addr) (c : Nat) (l : List Wr) (key : ByteArray) (w : World) (hA : WrsAt w A l) (hr : (l.map (·.key)).Pairwise (fun x y => ltK x y = true)) (hn : l.length ≤ 1024) :
    Calls Tryz.prog 103 #[.slice A l.length c, .string key, .func (.func 104) #[] #[]] w fun e w' => (∃ n : Int, e = .returned (.tuple #[.int .i64 n, .bool ((l.map (·.key)).any fun y => decide (y = key))])) ∧ Below w.heap.size w w' := by
  have HW := Lib.hid (fun (x : Wr) W => writes1_any x.key x.shard x.dead key W)
  have HA := Lib.hid (fun W (hb : Below w.heap.size w W) i (hi : i < l.length) => wrs_at (hA.below hb) hi)
  have HR := Lib.hid hr
  have hlen : (l.length : Int) ≤ 1024 := by omega
  obtain ⟨ks, hks⟩ : ∃ ks, l.map (·.key) = ks := ⟨_, rfl⟩
  have HKl := Lib.hid (show ks.length = l.length by rw [← hks, List.length_map])
  have HKg := Lib.hid (show ∀ i (h1 : i < ks.length) (h2 : i < l.length), ks[i] = l[i].key from fun i h1 h2 => by simp only [← hks, List.getElem_map])
  rw [hks] at HR ⊢
  clear hA hr hn hks
  go_enter Tryz.func103, Tryz.ntmps103
  go_wp2_with fail
  go_loopw [9, 10] (fun iv jv wr => ∃ i j : Nat, iv = .int .i64 (i : Int) ∧ jv = .int .i64 (j : Int) ∧ Hid (MidK ks key i j) ∧ Hid (Below w.heap.size w wr)) (fun iv jv _ => (RowKit.intOf jv).toNat - (RowKit.intOf iv).toNat)
  case atStart => exact ⟨0, l.length, rfl, rfl, Lib.hid (by have := MidK.start ks key; rwa [HKl.out] at this), Lib.hid (Below.refl _ _)⟩
  case round =>
    obtain ⟨i, j, rfl, rfl, hm, hb⟩ := hrel
    have hij := hm.out.le
    have hjl : j ≤ l.length := by rw [← HKl.out]; exact hm.out.ln
    have pj : (j : Int) ≤ 1024 := by omega
    by_cases hlt : i < j
    · have pij : (i : Int) < (j : Int) := by omega
      obtain ⟨m, hmm⟩ : ∃ m : Nat, (i + j) / 2 = m := ⟨_, rfl⟩
      have him : i ≤ m := by omega
      have hmj : m < j := by omega
      have hml : m < l.length := by omega
      have hmk : m < ks.length := by rw [HKl.out]; exact hml
      obtain ⟨ad, rfl, x0, x1, x2⟩ := HA.out _ hb.out m hml
      have hkg := HKg.out m hmk hml
      go_upto_region 5 with fail
      rw [show ((i : Int) + (j : Int)) / 2 = (m : Int) by omega]
      have pml : (m : Int) < (l.length : Int) := by omega
      have pm : (m : Int) ≤ 1024 := by omega
      cases ht : ltK ks[m] key with
      | false =>
        have HM := Lib.hid (hm.out.right HR.out hmk him ht)
        have HLm := Lib.hid (HW.out l[m])
        rw [hkg] at ht
        have hc := cmpB ht
        simp only [decide_eq_false_iff_not] at hc
        generalize l[m] = k at x0 x1 x2 HLm hc
        obtain ⟨kk, kt, kd⟩ := k
        simp only at x0 x1 x2 HLm hc
        generalize cmpK kk key = cv at HLm hc
        have HLt := Lib.hid hmj
        have HB := hb
        clear hm ht hmm him hij hjl pij hlt hmj HW hkg hmk hb
        go_wp2_with fail
        refine (HLm.out _).mono ?_
        rintro e2 w2 ⟨rfl, hb2⟩
        have HB2 := Lib.hid (HB.out.trans (hb2.mono HB.out.size))
        clear hb2 HB HLm
        go_wp2_with fail
        go_roundw
        case rel => exact ⟨i, m, rfl, rfl, HM, HB2⟩
        case measure => simp [RowKit.intOf]; have := HM.out.le; have := HLt.out; omega
      | true =>
        have HM := Lib.hid (hm.out.left HR.out hmk hmj ht)
        have HLm := Lib.hid (HW.out l[m])
        rw [hkg] at ht
        have hc := cmpB ht
        simp only [decide_eq_true_eq] at hc
        generalize l[m] = k at x0 x1 x2 HLm hc
        obtain ⟨kk, kt, kd⟩ := k
        simp only at x0 x1 x2 HLm hc
        generalize cmpK kk key = cv at HLm hc
        have HMi := Lib.hid him
        have HLt := Lib.hid hlt
        have HB := hb
        clear hm ht hmm him hij hjl pij hlt hmj HW hkg hmk hb
        go_wp2_with fail
        refine (HLm.out _).mono ?_
        rintro e2 w2 ⟨rfl, hb2⟩
        have HB2 := Lib.hid (HB.out.trans (hb2.mono HB.out.size))
        clear hb2 HB HLm
        go_wp2_with fail
        go_roundw
        case rel => exact ⟨m + 1, j, by go_num, rfl, HM, HB2⟩
        case measure => simp [RowKit.intOf]; have := HMi.out; have := HLt.out; omega
    · obtain rfl : i = j := by omega
      by_cases hi : i < l.length
      · have hik : i < ks.length := by rw [HKl.out]; exact hi
        have hh := hm.out.hit HR.out hik
        have pi : (i : Int) < (l.length : Int) := by omega
        obtain ⟨ad, rfl, x0, x1, x2⟩ := HA.out _ hb.out i hi
        have HLm := Lib.hid (HW.out l[i])
        have hz := cmpK_zero l[i].key key
        rw [HKg.out i hik hi] at hh
        generalize l[i] = k at x0 x1 x2 HLm hh hz
        obtain ⟨kk, kt, kd⟩ := k
        simp only at x0 x1 x2 HLm hh hz
        have HB := hb
        by_cases e : kk = key
        · rw [decide_eq_true e] at hh
          have HH := Lib.hid hh
          have hc := hz.2 e
          generalize cmpK kk key = cv at HLm hc
          subst hc
          clear hm hh hz e hb HW hik
          go_wp2_with fail
          refine (HLm.out _).mono ?_
          rintro e2 w2 ⟨rfl, hb2⟩
          have HB2 := Lib.hid (HB.out.trans (hb2.mono HB.out.size))
          clear hb2 HB HLm
          go_wp2_with fail
          go_ret2
          exact ⟨⟨(i : Int), by rw [HH.out]; rfl⟩, HB2.out⟩
        · rw [decide_eq_false e] at hh
          have HH := Lib.hid hh
          have hc : (cmpK kk key == 0) = false := by rw [beq_eq_false_iff_ne]; exact fun h => e (hz.1 h)
          generalize cmpK kk key = cv at HLm hc
          clear hm hh hz e hb HW hik
          go_wp2_with fail
          refine (HLm.out _).mono ?_
          rintro e2 w2 ⟨rfl, hb2⟩
          have HB2 := Lib.hid (HB.out.trans (hb2.mono HB.out.size))
          clear hb2 HB HLm
          go_wp2_with fail
          go_ret2
          exact ⟨⟨(i : Int), by rw [HH.out]; rfl⟩, HB2.out⟩
      · have HH := Lib.hid (hm.out.out (show ¬ i < ks.length by rw [HKl.out]; exact hi))
        have pi : ¬ (i : Int) < (l.length : Int) := by omega
        have HB := hb
        clear hm HW hb
        go_wp2_with fail
        go_ret2
        exact ⟨⟨(i : Int), by rw [HH.out]; rfl⟩, HB.out⟩

/-- a prepared record's lists rise -/
structure Ups (r : Rec) : Prop where
  ks : r.keys.Pairwise (fun x y => ltK x y = true)
  ws : (r.ws.map (·.key)).Pairwise (fun x y => ltK x y = true)
  kl : r.keys.length ≤ 1024
  wl : r.ws.length ≤ 1024

theorem ups_of {r : Rec} (h : RecOk r) (hk : r.kind = 1) : Ups r := by
  obtain ⟨h1, h2, _⟩ := h.bounds
  obtain ⟨_, _, _, h3, _, _, h4⟩ := (kind_1 hk).1 h.2
  exact ⟨rises_ne h3, rises_ne h4, by omega, by omega⟩

set_option maxRecDepth 20000 in
set_option maxHeartbeats 4000000 in
theorem reads_any (x : RI) (key : ByteArray) (w : World) (hv : RecVal w x.A x.B x.c x.d x.l) (hu : Ups x.l) :
    Calls Tryz.prog 79 #[.agg (rcs x).toArray, .string key] w fun e w' => e = .returned (.bool (x.l.keys.any fun y => decide (y = key))) ∧ Below w.heap.size w w' := by
  have HC := Lib.hid (fun W (hb : Below w.heap.size w W) => bsearch_any x.A x.c x.l.keys key W (hv.ks.below hb) hu.ks hu.kl)
  obtain ⟨r, A, B, c, d⟩ := x
  show Calls _ _ #[.agg #[.int .i64 r.kind, .int .i64 r.txn, .int .i64 r.ts, .int .i64 r.coord, .string r.key, .string r.text, .bool r.dead, .slice A r.keys.length c, .slice B r.ws.length d], _] _ _
  simp only at HC
  have hB0 : Below w.heap.size w (w.alloc (.cells #[.int .i64 r.kind, .int .i64 r.txn, .int .i64 r.ts, .int .i64 r.coord, .string r.key, .string r.text, .bool r.dead, .slice A r.keys.length c, .slice B r.ws.length d] 37)) := (Below.refl _ w).alloc (Nat.le_refl _) _
  have HB := Lib.hid hB0
  clear hv hu hB0
  go_enter Tryz.func79, Tryz.ntmps79
  go_wp2_with fail
  refine (HC.out _ HB.out).mono ?_
  rintro e1 w1 ⟨⟨n, rfl⟩, rfl⟩
  go_wp2_with fail
  go_ret
  exact ⟨rfl, HB.out⟩

set_option maxRecDepth 20000 in
set_option maxHeartbeats 4000000 in
theorem writes_any (x : RI) (key : ByteArray) (w : World) (hv : RecVal w x.A x.B x.c x.d x.l) (hu : Ups x.l) :
    Calls Tryz.prog 78 #[.agg (rcs x).toArray, .string key] w fun e w' => e = .returned (.bool (x.l.ws.any fun y => decide (y.key = key))) ∧ Below w.heap.size w w' := by
  have HC := Lib.hid (fun W (hb : Below w.heap.size w W) => bsearchF_any x.B x.d x.l.ws key W (hv.ws.below hb) hu.ws hu.wl)
  have HE := Lib.hid (show ((x.l.ws.map (·.key)).any fun y => decide (y = key)) = (x.l.ws.any fun y => decide (y.key = key)) by rw [List.any_map]; rfl)
  rw [HE.out] at HC
  obtain ⟨r, A, B, c, d⟩ := x
  show Calls _ _ #[.agg #[.int .i64 r.kind, .int .i64 r.txn, .int .i64 r.ts, .int .i64 r.coord, .string r.key, .string r.text, .bool r.dead, .slice A r.keys.length c, .slice B r.ws.length d], _] _ _
  simp only at HC
  have hB0 : Below w.heap.size w (w.alloc (.cells #[.int .i64 r.kind, .int .i64 r.txn, .int .i64 r.ts, .int .i64 r.coord, .string r.key, .string r.text, .bool r.dead, .slice A r.keys.length c, .slice B r.ws.length d] 37)) := (Below.refl _ w).alloc (Nat.le_refl _) _
  have HB := Lib.hid hB0
  clear hv hu hB0 HE
  go_enter Tryz.func78, Tryz.ntmps78
  go_wp2_with fail
  refine (HC.out _ HB.out).mono ?_
  rintro e1 w1 ⟨⟨n, rfl⟩, hb⟩
  have HB2 := Lib.hid (HB.out.trans (hb.mono HB.out.size))
  clear hb
  go_wp2_with fail
  go_ret
  exact ⟨rfl, HB2.out⟩

end Sh
end Go.Proofs.YtiobhbagjokpcaaGreat
