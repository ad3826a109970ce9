/- The document's Check of a chain: contract; no condition but the range. -/
import Derived.Test.YtpdojkfjgfeijaaChBook
import Derived.Test.YtpdojkfjgfeijaaChMath2
import Derived.Deep.QuietTactic
import Derived.BigQuiet
namespace Go.Proofs.Ytpdojkfjgfeijaa
namespace Ch
open Go.RowKit Bk

attribute [local go_sem ↓] Go.wp_at_zero Go.wp_at_succ
attribute [local go_sem] floatUpon pick

theorem below_drew (B : Nat) (W : World) (n : Nat) : Below B W (W.drewN n) := ⟨rfl, rfl, rfl, Nat.le_refl _, fun _ _ => rfl⟩

def prevT (l : List Vr) (j : Nat) : Option Int := match j with | 0 => none | k + 1 => (l[k]?).map (·.ts)

theorem chk_step {l : List Vr} {j : Nat} (h : j < l.length) : chkL (prevT l j) (l.drop j) j = if bad (prevT l j) l[j] = 0 then chkL (prevT l (j + 1)) (l.drop (j + 1)) (j + 1) else ((j : Int), bad (prevT l j) l[j]) := by
  rw [List.drop_eq_getElem_cons h]
  show (if bad (prevT l j) l[j] = 0 then chkL (some l[j].ts) (l.drop (j + 1)) (j + 1) else _) = _
  have : prevT l (j + 1) = some l[j].ts := by show (l[j]?).map _ = _; rw [List.getElem?_eq_getElem h]; rfl
  rw [this]

theorem bad_1 {p : Option Int} {x : Vr} (h : x.ts < 1 ∨ 1125899906842624 < x.ts) : bad p x = 1 := by unfold bad; rw [if_pos h]
theorem bad_2 {p : Option Int} {x : Vr} (h1 : ¬ x.ts < 1) (h1' : ¬ 1125899906842624 < x.ts) (h2 : 2052 < x.shard.size) : bad p x = 2 := by unfold bad; rw [if_neg (by omega), if_pos h2]
theorem bad_4 {p : Option Int} {x : Vr} (h1 : ¬ x.ts < 1) (h1' : ¬ 1125899906842624 < x.ts) (h2 : ¬ 2052 < x.shard.size) (h3 : x.dead = true ∧ x.shard ≠ ⟨#[]⟩) : bad p x = 4 := by unfold bad; rw [if_neg (by omega), if_neg h2, if_pos h3]
theorem bad_110 {q t : Int} {s : ByteArray} {d : Bool} (h : ¬ t < 1 ∧ ¬ 1125899906842624 < t ∧ ¬ 2052 < s.size ∧ ¬ (d = true ∧ s ≠ ⟨#[]⟩)) (h4 : t ≤ q) : bad (some q) ⟨t, s, d⟩ = 110 := by unfold bad; rw [if_neg (by simp only; omega), if_neg h.2.2.1, if_neg h.2.2.2]; show (if t ≤ q then (110 : Int) else 0) = 110; rw [if_pos h4]
theorem bad_go {p : Option Int} {t : Int} {s : ByteArray} {d : Bool} (h : ¬ t < 1 ∧ ¬ 1125899906842624 < t ∧ ¬ 2052 < s.size ∧ ¬ (d = true ∧ s ≠ ⟨#[]⟩)) (h4 : ∀ q, p = some q → q < t) : bad p ⟨t, s, d⟩ = 0 := bad_ok.2 ⟨⟨by simp only; omega, by simp only; omega, by simp only; omega, h.2.2.2⟩, h4⟩

set_option maxRecDepth 20000 in
set_option maxHeartbeats 8000000 in
theorem rcheck_any (A : Option Addr) (c : Nat) (l : List Vr) (w : World) (h : VrsAt w A l) (hn : l.length * 32 ≤ 140737488351232) (hr : ∀ x ∈ l, VrRng x) :
    Calls Try.prog 10 #[.slice A l.length c] w fun e w' => e = .returned (.tuple #[.int .i64 (chkP l).1, .int .i64 (chkP l).2]) ∧ Below w.heap.size w w' := by
  have HA := Lib.hid h
  have HR := Lib.hid hr
  clear h hr
  have hlen : (l.length : Int) ≤ 9223372036854775807 := by omega
  by_cases hl : 1024 < l.length
  · have pl : (1024 : Int) < (l.length : Int) := by omega
    have E := Lib.hid (show chkP l = (-1, 2) by unfold chkP; rw [if_pos hl])
    clear hl
    go_enter Try.func10, Try.ntmps10
    go_wp2_with fail
    go_ret2
    exact ⟨by rw [E.out]; rfl, Below.refl _ _⟩
  · have pl : ¬ (1024 : Int) < (l.length : Int) := by omega
    have E := Lib.hid (show chkP l = chkL none l 0 by unfold chkP; rw [if_neg hl])
    clear hl
    go_enter Try.func10, Try.ntmps10
    go_wp2_with fail
    go_loopw [4] (fun iv wr => ∃ j : Nat, j ≤ l.length ∧ iv = .int .i64 (j : Int) ∧ Hid (chkL none l 0 = chkL (prevT l j) (l.drop j) j) ∧ Hid (Below w.heap.size w wr)) (fun iv _ => l.length - (intOf iv).toNat)
    case atStart => exact ⟨0, by omega, rfl, Lib.hid rfl, Lib.hid (Below.refl _ _)⟩
    case round =>
      obtain ⟨j, hj, rfl, hs, hb⟩ := hrel
      by_cases hlt : j < l.length
      · have pj : (j : Int) < (l.length : Int) := by omega
        obtain ⟨ad, rfl, hab, hcl⟩ := (HA.out.below hb.out) (by omega)
        obtain ⟨x0, x1, x2⟩ := hcl j hlt
        have hcl2 : ∀ k (h : k < l.length), wr.cell? (ad.add (k * 3)) = some (.int .i64 l[k].ts) ∧ True ∧ True := fun k h => ⟨(hcl k h).1, trivial, trivial⟩
        have HCl := Lib.hid hcl2
        have ST := Lib.hid (chk_step hlt)
        have hrg := (HR.out _ (List.getElem_mem hlt)).shard
        rw [← add_field _ _ _ (by omega)] at x1 x2
        obtain ⟨X, hX⟩ : ∃ X, l[j] = X := ⟨_, rfl⟩
        have HXe := Lib.hid hX
        rw [hX] at x0 x1 x2 hrg
        clear hX hab hcl hcl2
        obtain ⟨xt, xs, xd⟩ := X
        simp only at x0 x1 x2 hrg
        have rb : reachBytes = 140737488351232 := rfl
        have hxs : (xs.size : Int) ≤ 140737488351232 := by omega
        clear hrg rb
        by_cases h1 : xt < 1
        ·
          have E2 := Lib.hid (show chkP l = ((j : Int), 1) by
            have hbad : bad (prevT l j) ⟨xt, xs, xd⟩ = 1 := bad_1 (.inl h1)
            rw [E.out, hs.out, ST.out, HXe.out, hbad]; rfl)
          have HB := hb
          clear hs hb
          go_wp2_with fail
          go_ret2
          exact ⟨by rw [E2.out]; rfl, HB.out⟩
        by_cases h1' : 1125899906842624 < xt
        ·
          have E2 := Lib.hid (show chkP l = ((j : Int), 1) by
            have hbad : bad (prevT l j) ⟨xt, xs, xd⟩ = 1 := bad_1 (.inr h1')
            rw [E.out, hs.out, ST.out, HXe.out, hbad]; rfl)
          have HB := hb
          clear hs hb
          go_wp2_with fail
          go_ret2
          exact ⟨by rw [E2.out]; rfl, HB.out⟩
        by_cases h2 : 2052 < xs.size
        · have ps : (2052 : Int) < (xs.size : Int) := by omega
          have E2 := Lib.hid (show chkP l = ((j : Int), 2) by
            have hbad : bad (prevT l j) ⟨xt, xs, xd⟩ = 2 := bad_2 h1 h1' h2
            rw [E.out, hs.out, ST.out, HXe.out, hbad]; rfl)
          have HB := hb
          clear hs hb
          go_wp2_with fail
          go_ret2
          exact ⟨by rw [E2.out]; rfl, HB.out⟩
        have ps : ¬ (2052 : Int) < (xs.size : Int) := by omega
        cases xd with
        | false =>
          have h3 : ¬ ((false : Bool) = true ∧ xs ≠ ⟨#[]⟩) := fun h => by cases h.1
          cases hj0 : (decide (j = 0)) with
          | true =>
            have hz : j = 0 := by simpa using hj0
            have HZ := Lib.hid (show prevT l j = none by rw [hz]; rfl)
            have pz : ¬ (0 : Int) < (j : Int) := by omega
            have pz2 : ¬ 0 < j := by omega
            clear hz hj0
            have HS2 := Lib.hid (show chkL none l 0 = chkL (prevT l (j + 1)) (l.drop (j + 1)) (j + 1) by
              have hbad : bad (prevT l j) ⟨xt, xs, false⟩ = 0 := bad_go ⟨h1, h1', h2, h3⟩ (fun q e => by rw [HZ.out] at e; cases e)
              rw [hs.out, ST.out, HXe.out, hbad]; rfl)
            have HB := hb
            clear hs hb
            go_upto_region 12 with fail
            go_quiet (fail)
            rename_i nq
            have HB := Lib.hid (HB.out.trans (below_drew _ _ nq))
            generalize wr.drewN nq = W9 at HB ⊢
            go_wp2_with fail
            go_roundw
            case rel => exact ⟨j + 1, by omega, by go_num, HS2, HB⟩
            case measure => simp [intOf]; omega
          | false =>
            have hz : ¬ j = 0 := by simpa using hj0
            obtain ⟨k, hk⟩ : ∃ k, j = k + 1 := ⟨j - 1, by omega⟩
            have hkl : k < l.length := by omega
            obtain ⟨y0, -, -⟩ := HCl.out k hkl
            have hp : prevT l j = some l[k].ts := by rw [hk]; show (l[k]?).map _ = _; rw [List.getElem?_eq_getElem hkl]; rfl
            generalize l[k].ts = yt at y0 hp
            have hkj : (j : Int) - 1 = (k : Int) := by omega
            have HP := Lib.hid hp
            have hkb : (k : Int) < (l.length : Int) := by omega
            have hjp : (0 : Int) < (j : Int) := by omega
            have hjp2 : 0 < j := by omega
            clear hk hp hz hkl hj0
            by_cases h4 : xt ≤ yt
            · have E2 := Lib.hid (show chkP l = ((j : Int), 110) by
                have hbad : bad (prevT l j) ⟨xt, xs, false⟩ = 110 := by rw [HP.out]; exact bad_110 ⟨h1, h1', h2, h3⟩ h4
                rw [E.out, hs.out, ST.out, HXe.out, hbad]; rfl)
              have HB := hb
              clear hs hb
              go_upto_region 12 with fail
              go_quiet (fail)
              rename_i nq
              have HB := Lib.hid (HB.out.trans (below_drew _ _ nq))
              generalize wr.drewN nq = W9 at HB ⊢
              go_wp2_with fail
              go_ret2
              exact ⟨by rw [E2.out]; rfl, HB.out⟩
            · have h4' : yt < xt := by omega
              have HS2 := Lib.hid (show chkL none l 0 = chkL (prevT l (j + 1)) (l.drop (j + 1)) (j + 1) by
                have hbad : bad (prevT l j) ⟨xt, xs, false⟩ = 0 := bad_go ⟨h1, h1', h2, h3⟩ (fun q e => by rw [HP.out] at e; obtain rfl := Option.some.inj e; exact h4')
                rw [hs.out, ST.out, HXe.out, hbad]; rfl)
              have HB := hb
              clear hs hb
              go_upto_region 12 with fail
              go_quiet (fail)
              rename_i nq
              have HB := Lib.hid (HB.out.trans (below_drew _ _ nq))
              generalize wr.drewN nq = W9 at HB ⊢
              go_wp2_with fail
              go_roundw
              case rel => exact ⟨j + 1, by omega, by go_num, HS2, HB⟩
              case measure => simp [intOf]; omega
        | true =>
          by_cases he : xs = ⟨#[]⟩
          · subst he
            have t0 := text_eq ⟨#[]⟩
            have h3 : ¬ ((true : Bool) = true ∧ (⟨#[]⟩ : ByteArray) ≠ ⟨#[]⟩) := fun h => h.2 rfl
            cases hj0 : (decide (j = 0)) with
            | true =>
              have hz : j = 0 := by simpa using hj0
              have HZ := Lib.hid (show prevT l j = none by rw [hz]; rfl)
              have pz : ¬ (0 : Int) < (j : Int) := by omega
              have pz2 : ¬ 0 < j := by omega
              clear hz hj0
              have HS2 := Lib.hid (show chkL none l 0 = chkL (prevT l (j + 1)) (l.drop (j + 1)) (j + 1) by
                have hbad : bad (prevT l j) ⟨xt, ⟨#[]⟩, true⟩ = 0 := bad_go ⟨h1, h1', h2, h3⟩ (fun q e => by rw [HZ.out] at e; cases e)
                rw [hs.out, ST.out, HXe.out, hbad]; rfl)
              have HB := hb
              clear hs hb
              go_upto_region 12 with fail
              go_quiet (fail)
              rename_i nq
              have HB := Lib.hid (HB.out.trans (below_drew _ _ nq))
              generalize wr.drewN nq = W9 at HB ⊢
              go_wp2_with fail
              go_roundw
              case rel => exact ⟨j + 1, by omega, by go_num, HS2, HB⟩
              case measure => simp [intOf]; omega
            | false =>
              have hz : ¬ j = 0 := by simpa using hj0
              obtain ⟨k, hk⟩ : ∃ k, j = k + 1 := ⟨j - 1, by omega⟩
              have hkl : k < l.length := by omega
              obtain ⟨y0, -, -⟩ := HCl.out k hkl
              have hp : prevT l j = some l[k].ts := by rw [hk]; show (l[k]?).map _ = _; rw [List.getElem?_eq_getElem hkl]; rfl
              generalize l[k].ts = yt at y0 hp
              have hkj : (j : Int) - 1 = (k : Int) := by omega
              have HP := Lib.hid hp
              have hkb : (k : Int) < (l.length : Int) := by omega
              have hjp : (0 : Int) < (j : Int) := by omega
              have hjp2 : 0 < j := by omega
              clear hk hp hz hkl hj0
              by_cases h4 : xt ≤ yt
              · have E2 := Lib.hid (show chkP l = ((j : Int), 110) by
                  have hbad : bad (prevT l j) ⟨xt, ⟨#[]⟩, true⟩ = 110 := by rw [HP.out]; exact bad_110 ⟨h1, h1', h2, h3⟩ h4
                  rw [E.out, hs.out, ST.out, HXe.out, hbad]; rfl)
                have HB := hb
                clear hs hb
                go_upto_region 12 with fail
                go_quiet (fail)
                rename_i nq
                have HB := Lib.hid (HB.out.trans (below_drew _ _ nq))
                generalize wr.drewN nq = W9 at HB ⊢
                go_wp2_with fail
                go_ret2
                exact ⟨by rw [E2.out]; rfl, HB.out⟩
              · have h4' : yt < xt := by omega
                have HS2 := Lib.hid (show chkL none l 0 = chkL (prevT l (j + 1)) (l.drop (j + 1)) (j + 1) by
                  have hbad : bad (prevT l j) ⟨xt, ⟨#[]⟩, true⟩ = 0 := bad_go ⟨h1, h1', h2, h3⟩ (fun q e => by rw [HP.out] at e; obtain rfl := Option.some.inj e; exact h4')
                  rw [hs.out, ST.out, HXe.out, hbad]; rfl)
                have HB := hb
                clear hs hb
                go_upto_region 12 with fail
                go_quiet (fail)
                rename_i nq
                have HB := Lib.hid (HB.out.trans (below_drew _ _ nq))
                generalize wr.drewN nq = W9 at HB ⊢
                go_wp2_with fail
                go_roundw
                case rel => exact ⟨j + 1, by omega, by go_num, HS2, HB⟩
                case measure => simp [intOf]; omega
          · have t0 := text_ne he
            have t1 : ¬ xs.toList = [] := fun h => he (by
              rw [ByteArray.toList_eq] at h
              obtain ⟨a⟩ := xs
              congr 1
              exact Array.toList_inj.1 h)
            have t2 : xs.toList.isEmpty = false := by rw [List.isEmpty_eq_false_iff]; exact t1
            have E2 := Lib.hid (show chkP l = ((j : Int), 4) by
              have hbad : bad (prevT l j) ⟨xt, xs, true⟩ = 4 := bad_4 h1 h1' h2 ⟨rfl, he⟩
              rw [E.out, hs.out, ST.out, HXe.out, hbad]; rfl)
            have HB := hb
            clear hs hb
            go_wp2_with fail
            go_ret2
            exact ⟨by rw [E2.out]; rfl, HB.out⟩
      · obtain rfl : j = l.length := by omega
        have E2 := Lib.hid (show chkP l = (0, 0) by rw [E.out, hs.out, List.drop_length]; rfl)
        have HB := hb
        clear hs hb
        go_wp2_with fail
        go_ret2
        exact ⟨by rw [E2.out]; rfl, HB.out⟩

end Ch
end Go.Proofs.Ytpdojkfjgfeijaa
