/- What the landed package's within, isAddress, Key and Rising answer; contracts; no condition but the range. -/
import Derived.Test.YtmllaighjhpbmaaLtWrs
namespace Go.Proofs.Ytmllaighjhpbmaa
namespace Lt
open Go.RowKit Bk

attribute [local go_sem ↓] Go.wp_at_zero Go.wp_at_succ
attribute [local go_sem] floatUpon pick

set_option maxHeartbeats 1000000 in
theorem within_any (n a b : Int) (w : World) :
    Calls Try.prog 40 #[.int .i64 n, .int .i64 a, .int .i64 b] w fun e w' => e = .returned (.bool (decide (a ≤ n) && decide (n ≤ b))) ∧ w' = w := by
  by_cases h1 : a ≤ n
  · have E := Lib.hid (show (decide (a ≤ n) && decide (n ≤ b)) = decide (n ≤ b) by rw [decide_eq_true h1, Bool.true_and])
    go_enter Try.func40, Try.ntmps40
    go_wp2_with fail
    go_ret
    exact ⟨by rw [E.out]; rfl, rfl⟩
  · have E := Lib.hid (show (decide (a ≤ n) && decide (n ≤ b)) = false by rw [decide_eq_false h1, Bool.false_and])
    have h2 : n < a := by omega
    clear h1
    go_enter Try.func40, Try.ntmps40
    go_wp2_with fail
    go_ret
    exact ⟨by rw [E.out]; rfl, rfl⟩

set_option maxHeartbeats 1000000 in
theorem isAddress_any (n : Int) (w : World) :
    Calls Try.prog 50 #[.int .i64 n] w fun e w' => e = .returned (.bool (decide (addr n))) ∧ w' = w := by
  have H1 := Lib.hid (within_any n 0 11 w)
  have H2 := Lib.hid (within_any n 100 115 w)
  by_cases h1 : 0 ≤ n ∧ n ≤ 11
  · have E := Lib.hid (show decide (addr n) = true by rw [decide_eq_true_eq]; unfold addr; omega)
    rw [show (decide (0 ≤ n) && decide (n ≤ 11)) = true by simp [h1]] at H1
    clear h1 H2
    go_enter Try.func50, Try.ntmps50
    go_wp2_with fail
    refine H1.out.mono ?_
    rintro e w1 ⟨rfl, rfl⟩
    go_wp2_with fail
    go_ret
    exact ⟨by rw [E.out]; rfl, rfl⟩
  · have E := Lib.hid (show decide (addr n) = (decide (100 ≤ n) && decide (n ≤ 115)) by rw [← Bool.decide_and]; unfold addr; congr 1; exact propext ⟨fun h => by omega, fun h => by omega⟩)
    rw [show (decide (0 ≤ n) && decide (n ≤ 11)) = false by rw [← Bool.decide_and, decide_eq_false h1]] at H1
    clear h1
    generalize (decide (100 ≤ n) && decide (n ≤ 115)) = b at E H2
    go_enter Try.func50, Try.ntmps50
    go_wp2_with fail
    refine H1.out.mono ?_
    rintro e w1 ⟨rfl, rfl⟩
    go_wp2_with fail
    refine H2.out.mono ?_
    rintro e w1 ⟨rfl, rfl⟩
    go_wp2_with fail
    go_ret
    exact ⟨by rw [E.out]; rfl, rfl⟩

set_option maxHeartbeats 1000000 in
theorem lkey_any (s : ByteArray) (w : World) (hs : s.size ≤ 9223372036854775807) :
    Calls Try.prog 20 #[.string s] w fun e w' => e = .returned (.bool (decide (keyOk s))) ∧ w' = w := by
  have H1 := Lib.hid (within_any (s.size : Int) 1 32 w)
  rw [show (decide ((1 : Int) ≤ (s.size : Int)) && decide ((s.size : Int) ≤ 32)) = decide (keyOk s) by rw [← Bool.decide_and]; unfold keyOk; congr 1; exact propext ⟨fun h => by omega, fun h => by omega⟩] at H1
  go_enter Try.func20, Try.ntmps20
  go_wp2_with fail
  refine H1.out.mono ?_
  rintro e w1 ⟨rfl, rfl⟩
  go_wp2_with fail
  go_ret
  exact ⟨rfl, rfl⟩

theorem bytesLess_nil (l : List UInt8) : Op.bytesLess l [] = false := by
  cases l <;> rfl

theorem leT_nil {s : ByteArray} (h : 1 ≤ s.size) : leT s ⟨#[]⟩ = false := by
  unfold leT
  rw [ByteArray.toList_eq, ByteArray.toList_eq]
  show (Op.bytesLess s.data.toList [] || s.data.toList == []) = false
  rw [bytesLess_nil, Bool.false_or]
  obtain ⟨a⟩ := s
  have h2 : 1 ≤ a.size := h
  rw [beq_eq_false_iff_ne]
  intro e
  have := congrArg List.length e
  simp at this
  rw [this] at h2
  simp at h2

/-- the text ahead of place j -/
def aheadT (l : List ByteArray) (j : Nat) : ByteArray := if j = 0 then ⟨#[]⟩ else l.getD (j - 1) ⟨#[]⟩

theorem ahead_succ {l : List ByteArray} {j : Nat} (h : j < l.length) : aheadT l (j + 1) = l[j] := by
  unfold aheadT
  rw [if_neg (by omega), Nat.add_sub_cancel, List.getD_eq_getElem?_getD, List.getElem?_eq_getElem h]; rfl

theorem ahead_le {l : List ByteArray} {j : Nat} (h : j < l.length) (hk : keyOk l[j]) : leT l[j] (aheadT l j) = true ↔ ∃ h0 : 0 < j, leT l[j] (l[j - 1]'(by omega)) = true := by
  unfold aheadT
  by_cases h0 : j = 0
  · subst h0
    rw [if_pos rfl, leT_nil hk.1]
    exact ⟨fun e => (by cases e), fun ⟨e, _⟩ => absurd e (by omega)⟩
  · rw [if_neg h0, List.getD_eq_getElem?_getD, List.getElem?_eq_getElem (by omega)]
    exact ⟨fun e => ⟨by omega, e⟩, fun ⟨_, e⟩ => e⟩

set_option maxRecDepth 20000 in
set_option maxHeartbeats 4000000 in
theorem lrising_any (A : Option Addr) (c : Nat) (l : List ByteArray) (w : World) (h : StrsAt w A l) (hn : l.length ≤ 9223372036854775807) (hr : ∀ s ∈ l, s.size ≤ 9223372036854775807) :
    Calls Try.prog 22 #[.slice A l.length c] w fun e w' => e = .returned (.bool (risesB l)) ∧ Below w.heap.size w w' := by
  have HA := Lib.hid h
  have HRr := Lib.hid hr
  clear h hr
  go_enter Try.func22, Try.ntmps22
  go_wp2_with fail
  go_loopw [3, 8] (fun u i wr => ∃ j : Nat, j ≤ l.length ∧ u = .string (aheadT l j) ∧ i = .int .i64 (j : Int) ∧ Hid (RisesTo l j) ∧ wr = w) (fun _ i _ => l.length - (intOf i).toNat)
  case atStart => exact ⟨0, by omega, rfl, rfl, RisesTo.zero l, rfl⟩
  case round =>
    obtain ⟨j, hj, rfl, rfl, hup, rfl⟩ := hrel
    by_cases hlt : j < l.length
    · have pj : (j : Int) < (l.length : Int) := by omega
      obtain ⟨ad, rfl, hab, hcl⟩ := HA.out (by omega)
      have x1 := hcl j hlt
      have HK := Lib.hid (fun W => lkey_any l[j] W (HRr.out _ (List.getElem_mem hlt)))
      have hsu := ahead_succ hlt
      by_cases hk : keyOk l[j]
      · rw [show decide (keyOk l[j]) = true by simpa using hk] at HK
        have hle := ahead_le hlt hk
        cases hb : leT l[j] (aheadT l j) with
        | true =>
          have E := Lib.hid (risesB_false (not_rises hlt (fun hh => by
            obtain ⟨h0, e⟩ := hle.1 hb
            have := hh.2 h0
            rw [e] at this; cases this)))
          have hle2 : (Op.bytesLess l[j].toList (aheadT l j).toList || l[j].toList == (aheadT l j).toList) = true := hb
          generalize aheadT l j = u at *
          generalize l[j] = x at *
          clear hup hk hle hb hcl hsu
          go_wp2_with fail
          refine (HK.out _).mono ?_
          rintro e w' ⟨rfl, rfl⟩
          go_wp2_with fail
          go_ret
          exact ⟨by rw [E.out]; rfl, Below.refl _ _⟩
        | false =>
          have HU := Lib.hid (hup.out.succ hlt hk (fun h0 => by
            cases e : leT l[j] (l[j - 1]'(by omega)) with
            | false => rfl
            | true => have := hle.2 ⟨h0, e⟩; rw [hb] at this; cases this))
          have hle2 : (Op.bytesLess l[j].toList (aheadT l j).toList || l[j].toList == (aheadT l j).toList) = false := hb
          have HSu := Lib.hid hsu
          generalize aheadT l j = u at *
          generalize l[j] = x at *
          clear hup hk hle hb hcl hsu
          go_wp2_with fail
          refine (HK.out _).mono ?_
          rintro e w' ⟨rfl, rfl⟩
          go_wp2_with fail
          go_roundw
          case rel => exact ⟨j + 1, by omega, by rw [HSu.out], by go_num, HU.out, trivial⟩
          case measure => simp [intOf]; omega
      · rw [show decide (keyOk l[j]) = false by simpa using hk] at HK
        have E := Lib.hid (risesB_false (not_rises hlt (fun hh => hk hh.1)))
        generalize aheadT l j = u at *
        generalize l[j] = x at *
        clear hup hk hcl hsu
        go_wp2_with fail
        refine (HK.out _).mono ?_
        rintro e w' ⟨rfl, rfl⟩
        go_wp2_with fail
        go_ret
        exact ⟨by rw [E.out]; rfl, Below.refl _ _⟩
    · obtain rfl : j = l.length := by omega
      have E := Lib.hid (risesB_true hup.out.all)
      clear hup
      go_wp2_with fail
      go_ret
      exact ⟨by rw [E.out]; rfl, Below.refl _ _⟩

end Lt
end Go.Proofs.Ytmllaighjhpbmaa
