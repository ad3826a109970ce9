/- The table of rows by which the landed package inverts: its rows gone through by methods' values, and the whole elimination; no condition but the range. -/
import Derived.Test.YtlmcpnlnbjloaaaMatTab3
namespace Go.Proofs.Ytlmcpnlnbjloaaa
open Go.RowKit

variable {H tp B rb n : Nat} {g : Nat → Nat} {X Y : Nat → Nat → UInt8} {w w' : World}

set_option maxRecDepth 20000 in
set_option maxHeartbeats 2000000 in
theorem first_any (c : Nat) (h : Tab H w tp B rb n g X) (hc : c < n) (hn : n ≤ 255) :
    Calls Try.prog 54 #[.pointer (some ⟨tp, 0, none⟩), .int .i64 (c : Int), .func (.func 55) #[.pointer (some ⟨tp, 0, none⟩)] #[], .func (.func 56) #[.pointer (some ⟨tp, 0, none⟩)] #[]] w fun e w' =>
      ((∃ a, c ≤ a ∧ a < n ∧ X a c ≠ 0 ∧ e = .returned (.bool true) ∧ Tab H w' tp B rb n (fun i => g (GfU.swp c a i)) (fun i j => X (GfU.swp c a i) j)) ∨ ((∀ i, c ≤ i → i < n → X i c = 0) ∧ e = .returned (.bool false))) ∧ Below H w w' := by
  have hT := Lib.hid h
  have p3 : (c : Int) < (n : Int) := by omega
  clear h
  go_enter Try.func54, Try.ntmps54
  go_wp2_with fail
  go_loopw [9] (fun i wr => ∃ k : Nat, c ≤ k ∧ k ≤ n ∧ i = .int .i64 (k : Int) ∧ Hid (∀ i, c ≤ i → i < k → X i c = 0) ∧ wr = w) (fun i _ => n - (intOf i).toNat)
  case atStart => exact ⟨c, Nat.le_refl _, by omega, rfl, fun i h1 h2 => absurd h1 (by omega), rfl⟩
  case round =>
    obtain ⟨k, hk1, hk2, rfl, h0, rfl⟩ := hrel
    have c1 := hT.out.t1
    by_cases hlt : k < n
    · have pk : (k : Int) < (n : Int) := by omega
      by_cases hx : X k c = 0
      · have HX := Lib.hid hx
        clear hx
        go_wp2_with fail
        refine (leads_no k c hT.out hlt hc hn HX.out).mono ?_
        rintro e w1 ⟨rfl, rfl⟩
        go_wp2_with fail
        go_roundw
        case rel => exact ⟨k + 1, by omega, by omega, by go_num, fun i h1 h2 => by
          by_cases e : i = k
          · subst e; exact HX.out
          · exact h0.out i h1 (by omega), by first | exact trivial | rfl⟩
        case measure => simp [intOf]; omega
      · have HX := Lib.hid hx
        clear hx
        go_wp2_with fail
        refine (leads_yes k c hT.out hlt hc hn HX.out).mono ?_
        rintro e w1 ⟨rfl, rfl⟩
        go_wp2_with fail
        refine (swap_any k c hT.out hlt hc).mono ?_
        rintro e w1 ⟨rfl, hT1, hb1⟩
        have HT1 := Lib.hid hT1
        have HB1 := Lib.hid hb1
        clear hT1 hb1
        go_wp2_with fail
        go_ret
        exact ⟨.inl ⟨k, hk1, hlt, HX.out, rfl, HT1.out⟩, HB1.out⟩
    · obtain rfl : k = n := by omega
      go_wp2_with fail
      go_ret
      exact ⟨.inr ⟨h0.out, rfl⟩, Below.refl _ _⟩

/-- the rows that are reduced, of which the first k -/
def allX (c k : Nat) (X : Nat → Nat → UInt8) (i j : Nat) : UInt8 := if i < k ∧ i ≠ c then X i j ^^^ GfU.ml (X i c) (X c j) else X i j

theorem allX_zero (c : Nat) (X : Nat → Nat → UInt8) : allX c 0 X = X := by funext i j; unfold allX; rw [if_neg (by omega)]

theorem allX_lead (c k : Nat) (X : Nat → Nat → UInt8) (j : Nat) : allX c k X c j = X c j := by unfold allX; rw [if_neg (by omega)]

theorem allX_next (c k : Nat) (X : Nat → Nat → UInt8) (i j : Nat) : redX c k (allX c k X) i j = allX c (k + 1) X i j := by
  unfold redX
  rw [allX_lead]
  unfold allX
  by_cases e : i = k ∧ k ≠ c
  · obtain ⟨rfl, e2⟩ := e
    rw [if_pos ⟨rfl, e2⟩, if_neg (by omega), if_neg (by omega), if_pos ⟨by omega, e2⟩]
  · rw [if_neg e]
    by_cases h : i < k ∧ i ≠ c
    · rw [if_pos h, if_pos ⟨by omega, h.2⟩]
    · rw [if_neg h, if_neg (by omega)]

set_option maxRecDepth 20000 in
set_option maxHeartbeats 2000000 in
theorem each_any (c : Nat) (h : Tab H w tp B rb n g X) (hc : c < n) (hn : n ≤ 255) (hz : ∀ j, j < c → X c j = 0) :
    Calls Try.prog 58 #[.pointer (some ⟨tp, 0, none⟩), .int .i64 (c : Int), .func (.func 59) #[.pointer (some ⟨tp, 0, none⟩)] #[]] w fun e w' =>
      e = .returned (.tuple #[]) ∧ Tab H w' tp B rb n g (allX c n X) ∧ Below H w w' := by
  have hT := Lib.hid h
  have HZ := Lib.hid hz
  have c1 := h.t1
  clear h hz
  go_enter Try.func58, Try.ntmps58
  go_wp2_with fail
  go_loopw [12] (fun i wr => ∃ k : Nat, k ≤ n ∧ i = .int .i64 (k : Int) ∧ Hid (Tab H wr tp B rb n g (allX c k X)) ∧ Hid (Below H w wr)) (fun i _ => n - (intOf i).toNat)
  case atStart => exact ⟨0, by omega, rfl, by rw [allX_zero]; exact hT.out, Below.refl _ _⟩
  case round =>
    obtain ⟨k, hk, rfl, hTk, hbel⟩ := hrel
    clear c1
    by_cases hlt : k < n
    · go_wp2_with fail
      refine (reduce_any k c hTk.out hlt hc hn (fun j hj => by rw [allX_lead]; exact HZ.out j hj)).mono ?_
      rintro e w1 ⟨rfl, hT1, hb1⟩
      have HT1 := Lib.hid (hT1.congr fun i j _ _ => (allX_next c k X i j).symm)
      have HB1 := Lib.hid (hbel.out.trans hb1)
      clear hT1 hb1
      go_wp2_with fail
      go_roundw
      case rel => exact ⟨k + 1, by omega, by go_num, HT1.out, HB1.out⟩
      case measure => simp [intOf]; omega
    · obtain rfl : k = n := by omega
      go_wp2_with fail
      go_end0
      exact ⟨rfl, hTk.out, hbel.out⟩

theorem elim_steps (c : Nat) (X : Nat → Nat → UInt8) (n i j : Nat) (hi : i < n) : GfU.elim c (fun i => X i c) X i j = allX c n (nrm c X) i j := by
  unfold GfU.elim allX
  by_cases e : i = c
  · subst e; rw [if_pos rfl, if_neg (by omega)]; unfold nrm; rw [if_pos rfl]
  · rw [if_neg e, if_pos ⟨hi, e⟩]; unfold nrm; rw [if_neg e, if_neg e, if_pos rfl]

/-- the half behind -/
def behind (n : Nat) (X : Nat → Nat → UInt8) (i j : Nat) : UInt8 := X i (n + j)

theorem nrm_lead (c : Nat) (X : Nat → Nat → UInt8) (hz : ∀ j, j < c → X c j = 0) : ∀ j, j < c → nrm c X c j = 0 := by
  intro j hj; unfold nrm; rw [if_pos rfl, hz j hj, GfU.ml_zero]

set_option maxRecDepth 20000 in
set_option maxHeartbeats 4000000 in
theorem solve_any (M : Nat → Nat → UInt8) (Q0 : Nat → Nat → UInt8) (h : Tab H w tp B rb n g X) (hn : n ≤ 255) (hG : GfU.Going n M Q0 (behind n X) X) :
    Calls Try.prog 39 #[.pointer (some ⟨tp, 0, none⟩)] w fun e w' =>
      ((∃ g' X', e = .returned (.bool true) ∧ Tab H w' tp B rb n g' X' ∧ GfU.sq n (GfU.mm n (behind n X') M) GfU.one ∧ GfU.sq n (GfU.mm n M (behind n X')) GfU.one) ∨ (e = .returned (.bool false) ∧ GfU.Sing n M)) ∧ Below H w w' := by
  have hT := Lib.hid h
  have HG := Lib.hid hG
  have c1 := h.t1
  have hmf : ∀ (fn : Fn) (first cap : Array Value) (w : World), (Instr.makeFunc fn first cap).run Try.prog w = .ok (.func fn first cap) w := fun _ _ _ _ => rfl
  clear h hG
  go_enter Try.func39, Try.ntmps39
  go_wp2_with fail
  go_loopw [9] (fun i wr => ∃ k : Nat, k ≤ n ∧ i = .int .i64 (k : Int) ∧ Hid (∃ g' X' Q', Tab H wr tp B rb n g' X' ∧ GfU.Going n M Q' (behind n X') X' ∧ GfU.plain n k X') ∧ Hid (Below H w wr)) (fun i _ => n - (intOf i).toNat)
  case atStart => exact ⟨0, by omega, rfl, ⟨g, X, Q0, hT.out, HG.out, fun i j _ hj => absurd hj (by omega)⟩, Below.refl _ _⟩
  case round =>
    obtain ⟨k, hk, rfl, hrest, hbel⟩ := hrel
    clear c1
    obtain ⟨g1, X1, Q1, t1, q1, l1⟩ := hrest.out
    have T1 := Lib.hid t1
    have G1 := Lib.hid q1
    have L1 := Lib.hid l1
    clear hrest t1 q1 l1
    by_cases hlt : k < n
    · go_wp2_with fail
      refine (first_any k T1.out hlt hn).mono ?_
      rintro e w2 ⟨⟨a, ha1, ha2, hax, rfl, ht2⟩ | ⟨h0, rfl⟩, hb2⟩
      · have T2 := Lib.hid ht2
        have B2 := Lib.hid (hbel.out.trans hb2)
        obtain ⟨Q2, g2⟩ := GfU.going_swap (n := n) (c := k) (a := a) hlt ha2 G1.out
        have G2 : Hid (GfU.Going n M Q2 (behind n fun i j => X1 (GfU.swp k a i) j) (fun i j => X1 (GfU.swp k a i) j)) := g2
        have L2 := Lib.hid (GfU.plain_swap hlt ha1 ha2 L1.out)
        have hp : (fun i j => X1 (GfU.swp k a i) j) k k ≠ 0 := by
          show X1 (GfU.swp k a k) k ≠ 0
          have : GfU.swp k a k = a := by unfold GfU.swp; rw [if_pos rfl]
          rw [this]; exact hax
        clear ht2 hb2 g2 hax T1 G1 L1
        generalize (fun i j => X1 (GfU.swp k a i) j) = X2 at T2 G2 L2 hp
        generalize (fun i => g1 (GfU.swp k a i)) = g2 at T2
        have hzero : ∀ j, j < k → X2 k j = 0 := fun j hj => by rw [L2.out k j hlt hj]; unfold GfU.one; rw [if_neg (by omega)]
        have HP := Lib.hid hp
        have HZ := Lib.hid hzero
        clear hp hzero
        go_wp2_with fail
        refine (norm_any k T2.out hlt hn).mono ?_
        rintro e w3 ⟨rfl, ht3, hb3⟩
        have T3 := Lib.hid ht3
        have B3 := Lib.hid (B2.out.trans hb3)
        clear ht3 hb3
        go_wp2_with fail
        refine (each_any k T3.out hlt hn (nrm_lead k X2 HZ.out)).mono ?_
        rintro e w4 ⟨rfl, ht4, hb4⟩
        have T4 := Lib.hid (ht4.congr fun i j hi _ => elim_steps k X2 n i j hi)
        have B4 := Lib.hid (B3.out.trans hb4)
        obtain ⟨Q3, g3⟩ := GfU.going_elim (n := n) (c := k) hlt HP.out G2.out
        have G3 : Hid (GfU.Going n M Q3 (behind n (GfU.elim k (fun i => X2 i k) X2)) (GfU.elim k (fun i => X2 i k) X2)) := g3
        have L3 := Lib.hid (GfU.plain_elim hlt HP.out L2.out)
        clear ht4 hb4 g3 T3 B3 B2
        go_wp2_with fail
        go_roundw
        case rel => exact ⟨k + 1, by omega, by go_num, ⟨_, _, Q3, T4.out, G3.out, L3.out⟩, B4.out⟩
        case measure => simp [intOf]; omega
      · have B2 := Lib.hid (hbel.out.trans hb2)
        have S2 := Lib.hid (GfU.going_sing hlt G1.out L1.out h0)
        clear h0 hb2
        go_wp2_with fail
        go_ret
        exact ⟨.inr ⟨rfl, S2.out⟩, B2.out⟩
    · obtain rfl : k = n := by omega
      obtain ⟨z1, z2⟩ := GfU.going_end G1.out (fun i j hi hj => L1.out i j hi hj)
      have Z1 := Lib.hid z1
      have Z2 := Lib.hid z2
      clear z1 z2
      go_wp2_with fail
      go_ret
      exact ⟨.inl ⟨_, _, rfl, T1.out, Z1.out, Z2.out⟩, hbel.out⟩

end Go.Proofs.Ytlmcpnlnbjloaaa
