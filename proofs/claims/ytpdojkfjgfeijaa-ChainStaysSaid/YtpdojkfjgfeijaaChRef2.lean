/- The document's place, At and Last of a chain: contracts; no condition but the range. -/
import Derived.Test.YtpdojkfjgfeijaaChRef
namespace Go.Proofs.Ytpdojkfjgfeijaa
namespace Ch
open Go.RowKit Bk

attribute [local go_sem ↓] Go.wp_at_zero Go.wp_at_succ
attribute [local go_sem] floatUpon pick

theorem low_at {l : List Vr} {t : Int} : ∀ {n : Nat}, n ≤ l.length → (∀ i (h : i < l.length), i < n → l[i].ts ≤ t) → (∀ h : n < l.length, t < l[n].ts) → lowL l t = l.take n := by
  induction l with
  | nil => intro n _ _ _; simp [lowL]
  | cons x r ih =>
    intro n hn h1 h2
    cases n with
    | zero =>
      have := h2 (by simp)
      unfold lowL
      rw [List.takeWhile_cons_of_neg (by simp; exact this), List.take_zero]
    | succ k =>
      have hx := h1 0 (by simp) (by omega)
      unfold lowL at ih ⊢
      rw [List.takeWhile_cons_of_pos (by simpa using hx), List.take_succ_cons, ih (n := k) (by simpa using hn) (fun i h hi => h1 (i + 1) (by simpa using h) (by omega)) (fun h => h2 (by simpa using h))]

theorem place_at {l : List Vr} {t : Int} {n : Nat} (hn : n ≤ l.length) (h1 : ∀ i (h : i < l.length), i < n → l[i].ts ≤ t) (h2 : ∀ h : n < l.length, t < l[n].ts) : placeN l t = n := by
  unfold placeN
  rw [low_at hn h1 h2, List.length_take]
  omega

set_option maxRecDepth 20000 in
set_option maxHeartbeats 4000000 in
theorem rplace_any (A : Option Addr) (c : Nat) (l : List Vr) (t : Int) (w : World) (h : VrsAt w A l) (hn : l.length * 32 ≤ 140737488351232) :
    Calls Try.prog 29 #[.slice A l.length c, .int .i64 t] w fun e w' => e = .returned (.int .i64 (placeN l t : Int)) ∧ Below w.heap.size w w' := by
  have HA := Lib.hid h
  clear h
  have hlen : (l.length : Int) ≤ 9223372036854775807 := by omega
  go_enter Try.func29, Try.ntmps29
  go_wp2_with fail
  go_loopw [5] (fun iv wr => ∃ j : Nat, j ≤ l.length ∧ iv = .int .i64 (j : Int) ∧ Hid (∀ i (h : i < l.length), i < j → l[i].ts ≤ t) ∧ Hid (Below w.heap.size w wr)) (fun iv _ => l.length - (intOf iv).toNat)
  case atStart => exact ⟨0, by omega, rfl, Lib.hid (fun i _ h => absurd h (by omega)), Lib.hid (Below.refl _ _)⟩
  case round =>
    obtain ⟨j, hj, rfl, hs, hb⟩ := hrel
    by_cases hlt : j < l.length
    · have pj : (j : Int) < (l.length : Int) := by omega
      obtain ⟨ad, rfl, hab, hcl⟩ := (HA.out.below hb.out) (by omega)
      obtain ⟨x0, -, -⟩ := hcl j hlt
      obtain ⟨xt, hX⟩ : ∃ xt, l[j].ts = xt := ⟨_, rfl⟩
      have HXe := Lib.hid hX
      rw [hX] at x0
      clear hX hab hcl
      by_cases h1 : xt ≤ t
      · have HS := Lib.hid (show ∀ i (h : i < l.length), i < j + 1 → l[i].ts ≤ t from fun i h hi => by
          by_cases e : i = j
          · subst e; rw [HXe.out]; exact h1
          · exact hs.out i h (by omega))
        have HB := hb
        clear hs hb HXe
        go_wp2_with fail
        go_roundw
        case rel => exact ⟨j + 1, by omega, by go_num, HS, HB⟩
        case measure => simp [intOf]; omega
      · have h2 : t < xt := by omega
        have E := Lib.hid (place_at hj hs.out (fun h => by rw [HXe.out]; exact h2))
        have HB := hb
        clear hs hb HXe h1
        go_wp2_with fail
        go_ret
        exact ⟨by rw [E.out]; rfl, HB.out⟩
    · obtain rfl : j = l.length := by omega
      have E := Lib.hid (place_at (Nat.le_refl _) hs.out (fun h => absurd h (by omega)))
      have HB := hb
      clear hs hb
      go_wp2_with fail
      go_ret
      exact ⟨by rw [E.out]; rfl, HB.out⟩

end Ch
end Go.Proofs.Ytpdojkfjgfeijaa
