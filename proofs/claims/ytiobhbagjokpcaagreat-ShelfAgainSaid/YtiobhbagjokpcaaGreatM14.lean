/- Parts of the proof, joined: ChRef, ChRef2, ChRef3, ChRef4; their conditions stand with each. -/
import Derived.Deep.QuietTactic
import Derived.BigQuiet
import Derived.Test.YtiobhbagjokpcaaGreatM2
import Derived.Test.YtiobhbagjokpcaaGreatM13

/- The document's Check of a chain: contract; no condition but the range. -/
namespace Go.Proofs.YtiobhbagjokpcaaGreat
namespace Ch
open Go.RowKit Bk

attribute [local go_sem ↓] Go.wp_at_zero Go.wp_at_succ
attribute [local go_sem] floatUpon pick

theorem below_drew (B : Nat) (W : World) (n : Nat) : Below B W (W.drewN n) := ⟨rfl, rfl, rfl, Nat.le_refl _, fun _ _ => rfl⟩

def prevT (l : List Vr) (j : Nat) : Option Int := match j with | 0 => none | k + 1 => (l[k]?).map (·.ts)

theorem chk_step {l : List Vr} {j : Nat} (h : j < l.length) : chkL (prevT l j) (l.drop j) j = if bad (prevT l j) l[j] = 0 then chkL (prevT l (j + 1)) (l.drop (j + 1)) (j + 1) else ((j : Int), bad (prevT l j) l[j]) := by
  rw [List.drop_eq_getElem_cons h]
  show (if bad (prevT l j) l[j] = 0 then chkL (some l[j].ts) (l.drop (j + 1)) (j + 1) else _) = _
  have : prevT l (j + 1) = some l[j].ts := by show (l[j]?).map _ = _; rw [List.getElem?_eq_getElem h]; rfl
  rw [this]

theorem bad_1 {p : Option Int} {x : Vr} (h : x.ts < 1 ∨ 1125899906842624 < x.ts) : bad p x = 1 := by unfold bad; rw [if_pos h]
theorem bad_2 {p : Option Int} {x : Vr} (h1 : ¬ x.ts < 1) (h1' : ¬ 1125899906842624 < x.ts) (h2 : 2052 < x.shard.size) : bad p x = 2 := by unfold bad; rw [if_neg (by omega), if_pos h2]
theorem bad_4 {p : Option Int} {x : Vr} (h1 : ¬ x.ts < 1) (h1' : ¬ 1125899906842624 < x.ts) (h2 : ¬ 2052 < x.shard.size) (h3 : x.dead = true ∧ x.shard ≠ ⟨#[]⟩) : bad p x = 4 := by unfold bad; rw [if_neg (by omega), if_neg h2, if_pos h3]
theorem bad_110 {q t : Int} {s : ByteArray} {d : Bool} (h : ¬ t < 1 ∧ ¬ 1125899906842624 < t ∧ ¬ 2052 < s.size ∧ ¬ (d = true ∧ s ≠ ⟨#[]⟩)) (h4 : t ≤ q) : bad (some q) ⟨t, s, d⟩ = 110 := by unfold bad; rw [if_neg (by simp only; omega), if_neg h.2.2.1, if_neg h.2.2.2]; show (if t ≤ q then (110 : Int) else 0) = 110; rw [if_pos h4]
theorem bad_go {p : Option Int} {t : Int} {s : ByteArray} {d : Bool} (h : ¬ t < 1 ∧ ¬ 1125899906842624 < t ∧ ¬ 2052 < s.size ∧ ¬ (d = true ∧ s ≠ ⟨#[]⟩)) (h4 : ∀ q, p = some q → q < t) : bad p ⟨t, s, d⟩ = 0 := bad_ok.2 ⟨⟨by simp only; omega, by simp only; omega, by simp only; omega, h.2.2.2⟩, h4⟩

set_option maxRecDepth 20000 in
set_option maxHeartbeats 8000000 in
theorem rcheck_any (A : Option Addr) (c : Nat) (l : List Vr) (w : World) (h : VrsAt w A l) (hn : l.length * 32 ≤ 140737488351232) (hr : ∀ x ∈ l, VrRng x) :
    Calls Tryz.prog 100 #[.slice A l.length c] w fun e w' => e = .returned (.tuple #[.int .i64 (chkP l).1, .int .i64 (chkP l).2]) ∧ Below w.heap.size w w' := by
  have HA := Lib.hid h
  have HR := Lib.hid hr
  clear h hr
  have hlen : (l.length : Int) ≤ 9223372036854775807 := by omega
  by_cases hl : 1024 < l.length
  · have pl : (1024 : Int) < (l.length : Int) := by omega
    have E := Lib.hid (show chkP l = (-1, 2) by unfold chkP; rw [if_pos hl])
    clear hl
    go_enter Tryz.func100, Tryz.ntmps100
    go_wp2_with fail
    go_ret2
    exact ⟨by rw [E.out]; rfl, Below.refl _ _⟩
  · have pl : ¬ (1024 : Int) < (l.length : Int) := by omega
    have E := Lib.hid (show chkP l = chkL none l 0 by unfold chkP; rw [if_neg hl])
    clear hl
    go_enter Tryz.func100, Tryz.ntmps100
    go_wp2_with fail
    go_loopw [4] (fun iv wr => ∃ j : Nat, j ≤ l.length ∧ iv = .int .i64 (j : Int) ∧ Hid (chkL none l 0 = chkL (prevT l j) (l.drop j) j) ∧ Hid (Below w.heap.size w wr)) (fun iv _ => l.length - (intOf iv).toNat)
    case atStart => exact ⟨0, by omega, rfl, Lib.hid rfl, Lib.hid (Below.refl _ _)⟩
    case round =>
      obtain ⟨j, hj, rfl, hs, hb⟩ := hrel
      by_cases hlt : j < l.length
      · have pj : (j : Int) < (l.length : Int) := by omega
        obtain ⟨ad, rfl, hab, hcl⟩ := (HA.out.below hb.out) (by omega)
        obtain ⟨x0, x1, x2⟩ := hcl j hlt
        have hcl2 : ∀ k (h : k < l.length), wr.cell? (ad.add (k * 3)) = some (.int .i64 l[k].ts) ∧ True ∧ True := fun k h => ⟨(hcl k h).1, trivial, trivial⟩
        have HCl := Lib.hid hcl2
        have ST := Lib.hid (chk_step hlt)
        have hrg := (HR.out _ (List.getElem_mem hlt)).shard
        rw [← add_field _ _ _ (by omega)] at x1 x2
        obtain ⟨X, hX⟩ : ∃ X, l[j] = X := ⟨_, rfl⟩
        have HXe := Lib.hid hX
        rw [hX] at x0 x1 x2 hrg
        clear hX hab hcl hcl2
        obtain ⟨xt, xs, xd⟩ := X
        simp only at x0 x1 x2 hrg
        have rb : reachBytes = 140737488351232 := rfl
        have hxs : (xs.size : Int) ≤ 140737488351232 := by omega
        clear hrg rb
        by_cases h1 : xt < 1
        ·
          have E2 := Lib.hid (show chkP l = ((j : Int), 1) by
            have hbad : bad (prevT l j) ⟨xt, xs, xd⟩ = 1 := bad_1 (.inl h1)
            rw [E.out, hs.out, ST.out, HXe.out, hbad]; rfl)
          have HB := hb
          clear hs hb
          go_wp2_with fail
          go_ret2
          exact ⟨by rw [E2.out]; rfl, HB.out⟩
        by_cases h1' : 1125899906842624 < xt
        ·
          have E2 := Lib.hid (show chkP l = ((j : Int), 1) by
            have hbad : bad (prevT l j) ⟨xt, xs, xd⟩ = 1 := bad_1 (.inr h1')
            rw [E.out, hs.out, ST.out, HXe.out, hbad]; rfl)
          have HB := hb
          clear hs hb
          go_wp2_with fail
          go_ret2
          exact ⟨by rw [E2.out]; rfl, HB.out⟩
        by_cases h2 : 2052 < xs.size
        · have ps : (2052 : Int) < (xs.size : Int) := by omega
          have E2 := Lib.hid (show chkP l = ((j : Int), 2) by
            have hbad : bad (prevT l j) ⟨xt, xs, xd⟩ = 2 := bad_2 h1 h1' h2
            rw [E.out, hs.out, ST.out, HXe.out, hbad]; rfl)
          have HB := hb
          clear hs hb
          go_wp2_with fail
          go_ret2
          exact ⟨by rw [E2.out]; rfl, HB.out⟩
        have ps : ¬ (2052 : Int) < (xs.size : Int) := by omega
        cases xd with
        | false =>
          have h3 : ¬ ((false : Bool) = true ∧ xs ≠ ⟨#[]⟩) := fun h => by cases h.1
          cases hj0 : (decide (j = 0)) with
          | true =>
            have hz : j = 0 := by simpa using hj0
            have HZ := Lib.hid (show prevT l j = none by rw [hz]; rfl)
            have pz : ¬ (0 : Int) < (j : Int) := by omega
            have pz2 : ¬ 0 < j := by omega
            clear hz hj0
            have HS2 := Lib.hid (show chkL none l 0 = chkL (prevT l (j + 1)) (l.drop (j + 1)) (j + 1) by
              have hbad : bad (prevT l j) ⟨xt, xs, false⟩ = 0 := bad_go ⟨h1, h1', h2, h3⟩ (fun q e => by rw [HZ.out] at e; cases e)
              rw [hs.out, ST.out, HXe.out, hbad]; rfl)
            have HB := hb
            clear hs hb
            go_upto_region 12 with fail
            go_quiet (fail)
            rename_i nq
            have HB := Lib.hid (HB.out.trans (below_drew _ _ nq))
            generalize wr.drewN nq = W9 at HB ⊢
            go_wp2_with fail
            go_roundw
            case rel => exact ⟨j + 1, by omega, by go_num, HS2, HB⟩
            case measure => simp [intOf]; omega
          | false =>
            have hz : ¬ j = 0 := by simpa using hj0
            obtain ⟨k, hk⟩ : ∃ k, j = k + 1 := ⟨j - 1, by omega⟩
            have hkl : k < l.length := by omega
            obtain ⟨y0, -, -⟩ := HCl.out k hkl
            have hp : prevT l j = some l[k].ts := by rw [hk]; show (l[k]?).map _ = _; rw [List.getElem?_eq_getElem hkl]; rfl
            generalize l[k].ts = yt at y0 hp
            have hkj : (j : Int) - 1 = (k : Int) := by omega
            have HP := Lib.hid hp
            have hkb : (k : Int) < (l.length : Int) := by omega
            have hjp : (0 : Int) < (j : Int) := by omega
            have hjp2 : 0 < j := by omega
            clear hk hp hz hkl hj0
            by_cases h4 : xt ≤ yt
            · have E2 := Lib.hid (show chkP l = ((j : Int), 110) by
                have hbad : bad (prevT l j) ⟨xt, xs, false⟩ = 110 := by rw [HP.out]; exact bad_110 ⟨h1, h1', h2, h3⟩ h4
                rw [E.out, hs.out, ST.out, HXe.out, hbad]; rfl)
              have HB := hb
              clear hs hb
              go_upto_region 12 with fail
              go_quiet (fail)
              rename_i nq
              have HB := Lib.hid (HB.out.trans (below_drew _ _ nq))
              generalize wr.drewN nq = W9 at HB ⊢
              go_wp2_with fail
              go_ret2
              exact ⟨by rw [E2.out]; rfl, HB.out⟩
            · have h4' : yt < xt := by omega
              have HS2 := Lib.hid (show chkL none l 0 = chkL (prevT l (j + 1)) (l.drop (j + 1)) (j + 1) by
                have hbad : bad (prevT l j) ⟨xt, xs, false⟩ = 0 := bad_go ⟨h1, h1', h2, h3⟩ (fun q e => by rw [HP.out] at e; obtain rfl := Option.some.inj e; exact h4')
                rw [hs.out, ST.out, HXe.out, hbad]; rfl)
              have HB := hb
              clear hs hb
              go_upto_region 12 with fail
              go_quiet (fail)
              rename_i nq
              have HB := Lib.hid (HB.out.trans (below_drew _ _ nq))
              generalize wr.drewN nq = W9 at HB ⊢
              go_wp2_with fail
              go_roundw
              case rel => exact ⟨j + 1, by omega, by go_num, HS2, HB⟩
              case measure => simp [intOf]; omega
        | true =>
          by_cases he : xs = ⟨#[]⟩
          · subst he
            have t0 := text_eq ⟨#[]⟩
            have h3 : ¬ ((true : Bool) = true ∧ (⟨#[]⟩ : ByteArray) ≠ ⟨#[]⟩) := fun h => h.2 rfl
            cases hj0 : (decide (j = 0)) with
            | true =>
              have hz : j = 0 := by simpa using hj0
              have HZ := Lib.hid (show prevT l j = none by rw [hz]; rfl)
              have pz : ¬ (0 : Int) < (j : Int) := by omega
              have pz2 : ¬ 0 < j := by omega
              clear hz hj0
              have HS2 := Lib.hid (show chkL none l 0 = chkL (prevT l (j + 1)) (l.drop (j + 1)) (j + 1) by
                have hbad : bad (prevT l j) ⟨xt, ⟨#[]⟩, true⟩ = 0 := bad_go ⟨h1, h1', h2, h3⟩ (fun q e => by rw [HZ.out] at e; cases e)
                rw [hs.out, ST.out, HXe.out, hbad]; rfl)
              have HB := hb
              clear hs hb
              go_upto_region 12 with fail
              go_quiet (fail)
              rename_i nq
              have HB := Lib.hid (HB.out.trans (below_drew _ _ nq))
              generalize wr.drewN nq = W9 at HB ⊢
              go_wp2_with fail
              go_roundw
              case rel => exact ⟨j + 1, by omega, by go_num, HS2, HB⟩
              case measure => simp [intOf]; omega
            | false =>
              have hz : ¬ j = 0 := by simpa using hj0
              obtain ⟨k, hk⟩ : ∃ k, j = k + 1 := ⟨j - 1, by omega⟩
              have hkl : k < l.length := by omega
              obtain ⟨y0, -, -⟩ := HCl.out k hkl
              have hp : prevT l j = some l[k].ts := by rw [hk]; show (l[k]?).map _ = _; rw [List.getElem?_eq_getElem hkl]; rfl
              generalize l[k].ts = yt at y0 hp
              have hkj : (j : Int) - 1 = (k : Int) := by omega
              have HP := Lib.hid hp
              have hkb : (k : Int) < (l.length : Int) := by omega
              have hjp : (0 : Int) < (j : Int) := by omega
              have hjp2 : 0 < j := by omega
              clear hk hp hz hkl hj0
              by_cases h4 : xt ≤ yt
              · have E2 := Lib.hid (show chkP l = ((j : Int), 110) by
                  have hbad : bad (prevT l j) ⟨xt, ⟨#[]⟩, true⟩ = 110 := by rw [HP.out]; exact bad_110 ⟨h1, h1', h2, h3⟩ h4
                  rw [E.out, hs.out, ST.out, HXe.out, hbad]; rfl)
                have HB := hb
                clear hs hb
                go_upto_region 12 with fail
                go_quiet (fail)
                rename_i nq
                have HB := Lib.hid (HB.out.trans (below_drew _ _ nq))
                generalize wr.drewN nq = W9 at HB ⊢
                go_wp2_with fail
                go_ret2
                exact ⟨by rw [E2.out]; rfl, HB.out⟩
              · have h4' : yt < xt := by omega
                have HS2 := Lib.hid (show chkL none l 0 = chkL (prevT l (j + 1)) (l.drop (j + 1)) (j + 1) by
                  have hbad : bad (prevT l j) ⟨xt, ⟨#[]⟩, true⟩ = 0 := bad_go ⟨h1, h1', h2, h3⟩ (fun q e => by rw [HP.out] at e; obtain rfl := Option.some.inj e; exact h4')
                  rw [hs.out, ST.out, HXe.out, hbad]; rfl)
                have HB := hb
                clear hs hb
                go_upto_region 12 with fail
                go_quiet (fail)
                rename_i nq
                have HB := Lib.hid (HB.out.trans (below_drew _ _ nq))
                generalize wr.drewN nq = W9 at HB ⊢
                go_wp2_with fail
                go_roundw
                case rel => exact ⟨j + 1, by omega, by go_num, HS2, HB⟩
                case measure => simp [intOf]; omega
          · have t0 := text_ne he
            have t1 : ¬ xs.toList = [] := fun h => he (by
              rw [ByteArray.toList_eq] at h
              obtain ⟨a⟩ := xs
              congr 1
              exact Array.toList_inj.1 h)
            have t2 : xs.toList.isEmpty = false := by rw [List.isEmpty_eq_false_iff]; exact t1
            have E2 := Lib.hid (show chkP l = ((j : Int), 4) by
              have hbad : bad (prevT l j) ⟨xt, xs, true⟩ = 4 := bad_4 h1 h1' h2 ⟨rfl, he⟩
              rw [E.out, hs.out, ST.out, HXe.out, hbad]; rfl)
            have HB := hb
            clear hs hb
            go_wp2_with fail
            go_ret2
            exact ⟨by rw [E2.out]; rfl, HB.out⟩
      · obtain rfl : j = l.length := by omega
        have E2 := Lib.hid (show chkP l = (0, 0) by rw [E.out, hs.out, List.drop_length]; rfl)
        have HB := hb
        clear hs hb
        go_wp2_with fail
        go_ret2
        exact ⟨by rw [E2.out]; rfl, HB.out⟩

end Ch
end Go.Proofs.YtiobhbagjokpcaaGreat

/- The document's place, At and Last of a chain: contracts; no condition but the range. -/
namespace Go.Proofs.YtiobhbagjokpcaaGreat
namespace Ch
open Go.RowKit Bk

attribute [local go_sem ↓] Go.wp_at_zero Go.wp_at_succ
attribute [local go_sem] floatUpon pick

theorem low_at {l : List Vr} {t : Int} : ∀ {n : Nat}, n ≤ l.length → (∀ i (h : i < l.length), i < n → l[i].ts ≤ t) → (∀ h : n < l.length, t < l[n].ts) → lowL l t = l.take n := by
  induction l with
  | nil => intro n _ _ _; simp [lowL]
  | cons x r ih =>
    intro n hn h1 h2
    cases n with
    | zero =>
      have := h2 (by simp)
      unfold lowL
      rw [List.takeWhile_cons_of_neg (by simp; exact this), List.take_zero]
    | succ k =>
      have hx := h1 0 (by simp) (by omega)
      unfold lowL at ih ⊢
      rw [List.takeWhile_cons_of_pos (by simpa using hx), List.take_succ_cons, ih (n := k) (by simpa using hn) (fun i h hi => h1 (i + 1) (by simpa using h) (by omega)) (fun h => h2 (by simpa using h))]

theorem place_at {l : List Vr} {t : Int} {n : Nat} (hn : n ≤ l.length) (h1 : ∀ i (h : i < l.length), i < n → l[i].ts ≤ t) (h2 : ∀ h : n < l.length, t < l[n].ts) : placeN l t = n := by
  unfold placeN
  rw [low_at hn h1 h2, List.length_take]
  omega

set_option maxRecDepth 20000 in
set_option maxHeartbeats 4000000 in
theorem rplace_any (A : Option Addr) (c : Nat) (l : List Vr) (t : Int) (w : World) (h : VrsAt w A l) (hn : l.length * 32 ≤ 140737488351232) :
    Calls Tryz.prog 101 #[.slice A l.length c, .int .i64 t] w fun e w' => e = .returned (.int .i64 (placeN l t : Int)) ∧ Below w.heap.size w w' := by
  have HA := Lib.hid h
  clear h
  have hlen : (l.length : Int) ≤ 9223372036854775807 := by omega
  go_enter Tryz.func101, Tryz.ntmps101
  go_wp2_with fail
  go_loopw [5] (fun iv wr => ∃ j : Nat, j ≤ l.length ∧ iv = .int .i64 (j : Int) ∧ Hid (∀ i (h : i < l.length), i < j → l[i].ts ≤ t) ∧ Hid (Below w.heap.size w wr)) (fun iv _ => l.length - (intOf iv).toNat)
  case atStart => exact ⟨0, by omega, rfl, Lib.hid (fun i _ h => absurd h (by omega)), Lib.hid (Below.refl _ _)⟩
  case round =>
    obtain ⟨j, hj, rfl, hs, hb⟩ := hrel
    by_cases hlt : j < l.length
    · have pj : (j : Int) < (l.length : Int) := by omega
      obtain ⟨ad, rfl, hab, hcl⟩ := (HA.out.below hb.out) (by omega)
      obtain ⟨x0, -, -⟩ := hcl j hlt
      obtain ⟨xt, hX⟩ : ∃ xt, l[j].ts = xt := ⟨_, rfl⟩
      have HXe := Lib.hid hX
      rw [hX] at x0
      clear hX hab hcl
      by_cases h1 : xt ≤ t
      · have HS := Lib.hid (show ∀ i (h : i < l.length), i < j + 1 → l[i].ts ≤ t from fun i h hi => by
          by_cases e : i = j
          · subst e; rw [HXe.out]; exact h1
          · exact hs.out i h (by omega))
        have HB := hb
        clear hs hb HXe
        go_wp2_with fail
        go_roundw
        case rel => exact ⟨j + 1, by omega, by go_num, HS, HB⟩
        case measure => simp [intOf]; omega
      · have h2 : t < xt := by omega
        have E := Lib.hid (place_at hj hs.out (fun h => by rw [HXe.out]; exact h2))
        have HB := hb
        clear hs hb HXe h1
        go_wp2_with fail
        go_ret
        exact ⟨by rw [E.out]; rfl, HB.out⟩
    · obtain rfl : j = l.length := by omega
      have E := Lib.hid (place_at (Nat.le_refl _) hs.out (fun h => absurd h (by omega)))
      have HB := hb
      clear hs hb
      go_wp2_with fail
      go_ret
      exact ⟨by rw [E.out]; rfl, HB.out⟩

end Ch
end Go.Proofs.YtiobhbagjokpcaaGreat

/- The document's Last and At of a chain: contracts; no condition but the range. -/
namespace Go.Proofs.YtiobhbagjokpcaaGreat
namespace Ch
open Go.RowKit Bk

attribute [local go_sem ↓] Go.wp_at_zero Go.wp_at_succ
attribute [local go_sem] floatUpon pick

theorem lastT_at {l : List Vr} (h : 0 < l.length) : lastT l = (l[l.length - 1]'(by omega)).ts := by
  unfold lastT
  rw [List.getLast?_eq_getElem?, List.getElem?_eq_getElem (by omega)]

set_option maxRecDepth 20000 in
set_option maxHeartbeats 4000000 in
theorem rlast_any (A : Option Addr) (c : Nat) (l : List Vr) (w : World) (h : VrsAt w A l) (hn : l.length * 32 ≤ 140737488351232) (hr : ∀ x ∈ l, VrRng x) :
    Calls Tryz.prog 77 #[.slice A l.length c] w fun e w' => e = .returned (.tuple #[.int .i64 (lastP l).1, .int .i64 (lastP l).2]) ∧ Below w.heap.size w w' := by
  have HC := Lib.hid (rcheck_any A c l w h hn hr)
  have HA := Lib.hid h
  have hlen : (l.length : Int) ≤ 9223372036854775807 := by omega
  have E := Lib.hid (show lastP l = if (chkP l).2 ≠ 0 then (0, (chkP l).2) else (lastT l, 0) from rfl)
  obtain ⟨a, e, hae⟩ : ∃ a e, chkP l = (a, e) := ⟨_, _, rfl⟩
  rw [hae] at HC E
  simp only at HC E
  clear h hr hae
  go_enter Tryz.func77, Tryz.ntmps77
  go_wp2_with fail
  refine HC.out.mono ?_
  rintro e1 w1 ⟨rfl, hb⟩
  have HB := Lib.hid hb
  clear HC
  by_cases he : e = 0
  · subst he
    by_cases h0 : 0 < l.length
    · obtain ⟨ad, rfl, hab, hcl⟩ := (HA.out.below hb) (by omega)
      obtain ⟨x0, -, -⟩ := hcl (l.length - 1) (by omega)
      have hlt := lastT_at h0
      rw [← hlt] at x0
      have E2 := Lib.hid (show lastP l = (lastT l, 0) by rw [E.out]; rfl)
      have hc1 : (l.length : Int) - 1 = ((l.length - 1 : Nat) : Int) := by omega
      have hc2 : ((l.length - 1 : Nat) : Int) < (l.length : Int) := by omega
      have h0' : ¬ (l.length : Int) = 0 := by omega
      have hz : ((l.length : Int) == 0) = false := by simpa using h0'
      generalize l.length - 1 = k at x0 hc1 hc2
      generalize lastT l = lt at x0 E2
      clear hab hcl hlt E hb h0
      go_wp2_with fail
      go_ret2
      exact ⟨by rw [E2.out]; rfl, HB.out⟩
    · have h00 : l.length = 0 := by omega
      have E2 := Lib.hid (show lastP l = (0, 0) by
        have : l = [] := List.eq_nil_of_length_eq_zero h00
        rw [E.out, this]; rfl)
      rw [h00] at *
      clear h0 h00 E hb
      go_wp2_with fail
      go_ret2
      exact ⟨by rw [E2.out]; rfl, HB.out⟩
  · have E2 := Lib.hid (show lastP l = (0, e) by rw [E.out, if_pos he])
    have hz : (e == 0) = false := by simpa using he
    clear E hb
    go_wp2_with fail
    go_ret2
    exact ⟨by rw [E2.out]; rfl, HB.out⟩

end Ch
end Go.Proofs.YtiobhbagjokpcaaGreat

/- The document's At of a chain: contract; no condition but the range. -/
namespace Go.Proofs.YtiobhbagjokpcaaGreat
namespace Ch
open Go.RowKit Bk

attribute [local go_sem ↓] Go.wp_at_zero Go.wp_at_succ
attribute [local go_sem] floatUpon pick

theorem low_take (l : List Vr) (t : Int) : lowL l t = l.take (placeN l t) := List.prefix_iff_eq_take.1 (List.takeWhile_prefix _)

theorem place_le (l : List Vr) (t : Int) : placeN l t ≤ l.length := (List.takeWhile_prefix _).length_le

theorem low_last {l : List Vr} {t : Int} {k : Nat} (h : placeN l t = k + 1) : ∃ hk : k < l.length, (lowL l t).getLast? = some l[k] := by
  have hl := place_le l t
  refine ⟨by omega, ?_⟩
  rw [low_take, h, List.getLast?_eq_getElem?, List.length_take, List.getElem?_take, Nat.min_eq_left (by omega), if_pos (by omega), Nat.add_sub_cancel, List.getElem?_eq_getElem (by omega)]

theorem low_none {l : List Vr} {t : Int} (h : placeN l t = 0) : lowL l t = [] := by rw [low_take, h, List.take_zero]

/-- a struct of three cells is written over -/
def set3 (W : World) (R : Nat) (v0 v1 v2 : Value) : World := ((W.setCell ⟨R, 0, none⟩ v0).setCell ⟨R, 1, none⟩ v1).setCell ⟨R, 2, none⟩ v2

theorem set3_cel {W : World} {R : Nat} {t : TypeId} {a b c v0 v1 v2 : Value} (h : Cel W R t [a, b, c]) : Cel (set3 W R v0 v1 v2) R t [v0, v1, v2] := ((h.set (i := 0)).set (i := 1)).set (i := 2)

theorem set3_below {W : World} {R B : Nat} {w : World} {v0 v1 v2 : Value} (h : Below B w W) (hR : B ≤ R) : Below B w (set3 W R v0 v1 v2) := ((h.setCell (p := ⟨R, 0, none⟩) hR v0).setCell (p := ⟨R, 1, none⟩) hR v1).setCell (p := ⟨R, 2, none⟩) hR v2

set_option maxRecDepth 20000 in
set_option maxHeartbeats 4000000 in
theorem rat_any (A : Option Addr) (c : Nat) (l : List Vr) (t : Int) (w : World) (h : VrsAt w A l) (hn : l.length * 32 ≤ 140737488351232) (hr : ∀ x ∈ l, VrRng x) :
    Calls Tryz.prog 80 #[.slice A l.length c, .int .i64 t] w fun e w' => e = .returned (.tuple #[.agg (vcs (atP l t).1).toArray, .bool (atP l t).2.1, .int .i64 (atP l t).2.2]) ∧ Below w.heap.size w w' := by
  have HC := Lib.hid (fun W (hb : Below w.heap.size w W) => rcheck_any A c l W (h.below hb) hn hr)
  have HP := Lib.hid (fun W (hb : Below w.heap.size w W) => rplace_any A c l t W (h.below hb) hn)
  have HA := Lib.hid h
  have hlen : (l.length : Int) ≤ 9223372036854775807 := by omega
  have E := Lib.hid (show atP l t = if (chkP l).2 ≠ 0 then (noVr, false, (chkP l).2) else ((atV l t).1, (atV l t).2, 0) from rfl)
  obtain ⟨a, e, hae⟩ : ∃ a e, chkP l = (a, e) := ⟨_, _, rfl⟩
  rw [hae] at HC E
  simp only at HC E
  clear h hr hae
  go_enter Tryz.func80, Tryz.ntmps80
  go_wp2_with fail
  have hR0 : Cel (w.alloc (.cells #[.int .i64 0, .string ⟨#[]⟩, .bool false] 55)) w.heap.size 55 [.int .i64 0, .string ⟨#[]⟩, .bool false] := (blk1 w _).2
  have hB0 : Below w.heap.size w (w.alloc (.cells #[.int .i64 0, .string ⟨#[]⟩, .bool false] 55)) := (Below.refl _ w).alloc (Nat.le_refl _) _
  refine (HC.out _ hB0).mono ?_
  rintro e1 w1 ⟨rfl, hb⟩
  have HR := Lib.hid (hR0.below hb)
  have HB := Lib.hid (hB0.trans (hb.mono hB0.size))
  clear HC hb hR0 hB0
  by_cases he : e = 0
  · subst he
    have hpl := place_le l t
    cases hpn : placeN l t with
    | zero =>
      have E2 := Lib.hid (show atP l t = (noVr, false, 0) by rw [E.out]; unfold atV; rw [low_none hpn]; rfl)
      rw [hpn] at HP
      clear E hpn hpl
      go_wp2_with fail
      refine (HP.out _ HB.out).mono ?_
      rintro e2 w2 ⟨rfl, hb⟩
      have HB2 := Lib.hid (HB.out.trans (hb.mono HB.out.size))
      have HR2 := Lib.hid (HR.out.below hb)
      clear hb
      have zq := fun i => HR2.out.free (i := i)
      have q0 := HR2.out.cell (i := 0) rfl
      have q1 := HR2.out.cell (i := 1) rfl
      have q2 := HR2.out.cell (i := 2) rfl
      go_wp2_with fail
      have HF := Lib.hid (set3_cel (v0 := .int .i64 0) (v1 := .string ⟨#[]⟩) (v2 := .bool false) HR2.out)
      have z0 := HF.out.cell (i := 0) rfl
      have z1 := HF.out.cell (i := 1) rfl
      have z2 := HF.out.cell (i := 2) rfl
      unfold set3 at z0 z1 z2
      exact bodyPost_ret (v := .tuple #[.agg #[.int .i64 0, .string ⟨#[]⟩, .bool false], .bool false, .int .i64 0]) (by simp [results, Tryz.results80, go_sem, z0, z1, z2]) rfl ⟨by rw [E2.out]; rfl, set3_below HB2.out (Nat.le_refl _)⟩
    | succ k =>
      obtain ⟨hk, hlast⟩ := low_last hpn
      obtain ⟨X, hX⟩ : ∃ X, l[k] = X := ⟨_, rfl⟩
      have E2 := Lib.hid (show atP l t = (X, true, 0) by rw [E.out]; unfold atV; rw [hlast, hX]; rfl)
      have HX := Lib.hid hX
      rw [hpn] at HP
      have hc1 : ((k + 1 : Nat) : Int) - 1 = (k : Int) := by omega
      have hc2 : (k : Int) < (l.length : Int) := by omega
      have hz : ¬ ((k + 1 : Nat) : Int) = 0 := by omega
      have hz2 : (((k + 1 : Nat) : Int) == 0) = false := by simpa using hz
      have hc3 : ((k + 1 : Nat) : Int) ≤ 9223372036854775807 := by omega
      have HK := Lib.hid hk
      clear E hpn hpl hlast hX
      generalize k + 1 = n at HP hc1 hz hz2 hc3
      go_wp2_with fail
      refine (HP.out _ HB.out).mono ?_
      rintro e2 w2 ⟨rfl, hb⟩
      have HB2 := Lib.hid (HB.out.trans (hb.mono HB.out.size))
      have HR2 := Lib.hid (HR.out.below hb)
      clear hb
      obtain ⟨ad, rfl, hab, hcl⟩ := (HA.out.below HB2.out) (by have := HK.out; omega)
      obtain ⟨x0, x1, x2⟩ := hcl k HK.out
      rw [HX.out] at x0 x1 x2
      rw [← add_field _ _ _ (by omega)] at x1 x2
      obtain ⟨xt, xs, xd⟩ := X
      simp only at x0 x1 x2
      clear hab hcl HX
      have zq := fun i => HR2.out.free (i := i)
      have q0 := HR2.out.cell (i := 0) rfl
      have q1 := HR2.out.cell (i := 1) rfl
      have q2 := HR2.out.cell (i := 2) rfl
      go_wp2_with fail
      have HF := Lib.hid (set3_cel (v0 := .int .i64 xt) (v1 := .string xs) (v2 := .bool xd) HR2.out)
      have z0 := HF.out.cell (i := 0) rfl
      have z1 := HF.out.cell (i := 1) rfl
      have z2 := HF.out.cell (i := 2) rfl
      unfold set3 at z0 z1 z2
      exact bodyPost_ret (v := .tuple #[.agg #[.int .i64 xt, .string xs, .bool xd], .bool true, .int .i64 0]) (by simp [results, Tryz.results80, go_sem, z0, z1, z2]) rfl ⟨by rw [E2.out]; rfl, set3_below HB2.out (Nat.le_refl _)⟩
  · have E2 := Lib.hid (show atP l t = (noVr, false, e) by rw [E.out, if_pos he])
    have hz : (e == 0) = false := by simpa using he
    clear E
    have zq := fun i => HR.out.free (i := i)
    have q0 := HR.out.cell (i := 0) rfl
    have q1 := HR.out.cell (i := 1) rfl
    have q2 := HR.out.cell (i := 2) rfl
    go_wp2_with fail
    have HF := Lib.hid (set3_cel (v0 := .int .i64 0) (v1 := .string ⟨#[]⟩) (v2 := .bool false) HR.out)
    have z0 := HF.out.cell (i := 0) rfl
    have z1 := HF.out.cell (i := 1) rfl
    have z2 := HF.out.cell (i := 2) rfl
    unfold set3 at z0 z1 z2
    exact bodyPost_ret (v := .tuple #[.agg #[.int .i64 0, .string ⟨#[]⟩, .bool false], .bool false, .int .i64 e]) (by simp [results, Tryz.results80, go_sem, z0, z1, z2]) rfl ⟨by rw [E2.out]; rfl, set3_below HB.out (Nat.le_refl _)⟩

end Ch
end Go.Proofs.YtiobhbagjokpcaaGreat
