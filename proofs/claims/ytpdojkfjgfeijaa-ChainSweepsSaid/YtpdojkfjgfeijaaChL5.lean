/- The landed chain: Sweep, Add; contracts; no condition but the range. -/
import Derived.Test.YtpdojkfjgfeijaaChL4
namespace Go.Proofs.Ytpdojkfjgfeijaa
namespace Ch
open Go.RowKit Bk

attribute [local go_sem ↓] Go.wp_at_zero Go.wp_at_succ
attribute [local go_sem] floatUpon pick

theorem copies_row (ps : List (Value × List Vr)) (c : Nat) (w : World) (L : List Vr) (hL : joinL ps ps.length = L) (hP : ∀ i (h : i < ps.length), PartOf w ps[i].1 ps[i].2) (hsum : L.length * 32 ≤ 140737488355328) (hps : ps.length ≤ 1024) (hok : ∀ x ∈ L, x.shard.size ≤ 281474976710656) :
    Calls Try.prog 26 #[.slice (some ⟨w.heap.size, 0, none⟩) ps.length c] (w.alloc (.cells (ps.map (·.1)).toArray 22)) fun e w' => ∃ v, e = .returned v ∧ w'.ownsRow w.heap.size 24 3 v L.length (vrV L) ∧ Below w.heap.size w w' := by
  subst hL
  have hb : Below w.heap.size w (w.alloc (.cells (ps.map (·.1)).toArray 22)) := (Below.refl _ w).alloc (Nat.le_refl _) _
  refine (copies_any ⟨w.heap.size, 0, none⟩ c ps _ (by simp) (fun i h => ?_) (fun i h => (hP i h).below hb) hsum hps hok).mono ?_
  · rw [addr_head]
    exact blk_cell (blk1 w _).2 (by rw [List.getElem?_toArray, List.getElem?_map, List.getElem?_eq_getElem h]; rfl)
  · rintro e w' ⟨v, rfl, h1, h2⟩
    exact ⟨v, rfl, own_base h1 hb.size, hb.trans (h2.mono hb.size)⟩

theorem reach_ok {l : List Vr} (hr : ∀ x ∈ l, VrRng x) : ∀ x ∈ l, x.shard.size ≤ 281474976710656 := fun x hx => by
  have h1 := (hr x hx).shard
  have rb : reachBytes = 140737488351232 := rfl
  omega

set_option maxRecDepth 20000 in
set_option maxHeartbeats 4000000 in
theorem lsweep_any (A : Option Addr) (c : Nat) (l : List Vr) (t : Int) (w : World) (h : VrsAt w A l) (hn : l.length * 32 ≤ 140737488351232) (hr : ∀ x ∈ l, VrRng x) (hnil : A = none → l.length = 0 ∧ c = 0) (hc : l.length ≤ c) :
    Calls Try.prog 19 #[.slice A l.length c, .int .i64 t] w (RowAns w (sweepP l t)) := by
  have HC := Lib.hid (lcheck_any A c l w h hn hr hc)
  have HP0 := Lib.hid (fun (hok : ChOk l) W (hb : Below w.heap.size w W) => notAbove_any A c l t W (h.below hb) hok.rise hok.len)
  have HOk := Lib.hid (fun (h0 : (chkP l).2 = 0) => chk_ok.1 h0)
  have HA := Lib.hid h
  have HSl := Lib.hid (fun n (hn : n ≤ l.length) => slice_from A l.length c n hn hc hnil)
  have HRg := Lib.hid hr
  have hlen : (l.length : Int) ≤ 4398046511104 := by omega
  have E := Lib.hid (show sweepP l t = if (chkP l).2 ≠ 0 then ([], (chkP l).2) else (sweepL l t, 0) from rfl)
  obtain ⟨a, e, hae⟩ : ∃ a e, chkP l = (a, e) := ⟨_, _, rfl⟩
  rw [hae] at HC E HOk
  simp only at HC E HOk
  clear h hr hae hnil hc
  go_enter Try.func19, Try.ntmps19
  go_wp2_with fail
  refine HC.out.mono ?_
  rintro e1 w1 ⟨rfl, hb⟩
  have HB := Lib.hid hb
  clear HC hb
  by_cases he : e = 0
  · subst he
    have HP := Lib.hid (HP0.out (HOk.out rfl))
    have HLast : Hid (∀ k, goN l t = k → k ≤ l.length → ∀ w2, Below w.heap.size w w2 → ∀ v w', w'.ownsRow w2.heap.size 24 3 v (l.drop k).length (vrV (l.drop k)) → Below w2.heap.size w2 w' → RowAns w (sweepP l t) (.returned (.tuple #[v, .int .i64 0])) w') := Lib.hid (fun k hk hkl w2 hb2 v w' ho hb => by
      have hp : sweepP l t = (l.drop k, 0) := by rw [E.out, ← hk]; rfl
      rw [hp]
      exact ⟨v, rfl, own_base ho hb2.size, hb2.trans (hb.mono hb2.size)⟩)
    clear HP0
    go_wp2_with fail
    refine (HP.out _ HB.out).mono ?_
    rintro e2 w2 ⟨rfl, hb⟩
    have HB2 := Lib.hid (HB.out.trans (hb.mono HB.out.size))
    clear hb HB E
    have hpl := place_le l t
    obtain ⟨k, hgo, hkl, hway⟩ : ∃ k, goN l t = k ∧ k ≤ l.length ∧ (placeN l t = k ∧ (k = 0 ∨ ∃ (h0 : 0 < k) (h1 : k - 1 < l.length), (l[k - 1]'h1).dead = true) ∨ ∃ h1 : k < l.length, placeN l t = k + 1 ∧ l[k].dead = false) := by
      cases hp : placeN l t with
      | zero => exact ⟨0, go_zero hp, Nat.zero_le _, .inl ⟨rfl, .inl rfl⟩⟩
      | succ j =>
        have hj : j < l.length := by omega
        have hg := go_succ hp hj
        by_cases hd : l[j].dead = true
        · rw [if_pos hd] at hg
          exact ⟨j + 1, hg, by omega, .inl ⟨rfl, .inr ⟨by omega, by simpa using hj, by simpa using hd⟩⟩⟩
        · rw [if_neg hd] at hg
          exact ⟨j, hg, by omega, .inr ⟨hj, rfl, by simpa using hd⟩⟩
    obtain ⟨A', c', hsl, hdr, hnil', hcl, hcc⟩ := HSl.out k hkl
    have hdl : (l.drop k).length = l.length - k := List.length_drop
    have HPt : PartOf w2 (.slice A' (l.length - k) c') (l.drop k) := ⟨A', c', (by rw [hdl]), hdr w2 l rfl (HA.out.below HB2.out), fun e => (by rw [hdl]; exact hnil' e)⟩
    have hPs : ∀ i (h : i < [((.slice A' (l.length - k) c' : Value), l.drop k)].length), PartOf w2 [((.slice A' (l.length - k) c' : Value), l.drop k)][i].1 [((.slice A' (l.length - k) c' : Value), l.drop k)][i].2 := fun i h => by
      have hi : i = 0 := by simpa using h
      subst hi
      exact HPt
    have HCp := Lib.hid (copies_row [(.slice A' (l.length - k) c', l.drop k)] 1 w2 (l.drop k) (by simp [joinL]) hPs (by rw [hdl]; omega) (by simp) (fun x hx => reach_ok HRg.out x (List.mem_of_mem_drop hx)))
    have HSl2 := Lib.hid hsl
    have HEnd := Lib.hid (HLast.out k hgo hkl w2 HB2.out)
    have hk0 : (k : Int) ≤ (l.length : Int) := by omega
    simp only [List.map_cons, List.map_nil, List.length_singleton] at HCp
    clear HSl HLast hdr hnil' hsl HPt hdl hPs
    rcases hway with ⟨hp, hz | ⟨h0, h1, hd⟩⟩ | ⟨h1, hp, hd⟩
    · have hz' : ¬ (k : Int) > 0 := by omega
      rw [hp]
      clear hz hp
      have sl := HSl2.out
      go_wp2_with fail
      refine HCp.out.mono ?_
      rintro e3 w3 ⟨v3, rfl, ho, hb⟩
      have HF := Lib.hid (HEnd.out _ _ ho hb)
      clear ho hb sl
      go_wp2_with fail
      go_ret2
      exact HF.out
    · obtain ⟨j, rfl⟩ : ∃ j, k = j + 1 := ⟨k - 1, by omega⟩
      have h1' : j < l.length := by omega
      have hd' : l[j].dead = true := by simpa using hd
      clear hd h1
      obtain ⟨ad, rfl, hab, hcl⟩ := (HA.out.below HB2.out) (by omega)
      obtain ⟨-, -, x2⟩ := hcl j h1'
      rw [hd'] at x2
      rw [← add_field _ _ _ (by omega)] at x2
      have hc1 : ((j + 1 : Nat) : Int) - 1 = (j : Int) := by omega
      have hc2 : (j : Int) < (l.length : Int) := by omega
      have hc3 : ((j + 1 : Nat) : Int) > 0 := by omega
      rw [hp]
      generalize hK : j + 1 = K at *
      clear hab hcl hp h0 hd' h1' hK
      have sl := HSl2.out
      go_wp2_with fail
      refine HCp.out.mono ?_
      rintro e3 w3 ⟨v3, rfl, ho, hb⟩
      have HF := Lib.hid (HEnd.out _ _ ho hb)
      clear ho hb sl
      go_wp2_with fail
      go_ret2
      exact HF.out
    · obtain ⟨ad, rfl, hab, hcl⟩ := (HA.out.below HB2.out) (by omega)
      obtain ⟨-, -, x2⟩ := hcl k h1
      rw [hd] at x2
      rw [← add_field _ _ _ (by omega)] at x2
      have hc1 : ((k + 1 : Nat) : Int) - 1 = (k : Int) := by omega
      have hc2 : (k : Int) < (l.length : Int) := by omega
      have hc3 : ((k + 1 : Nat) : Int) > 0 := by omega
      rw [hp]
      generalize hK : k + 1 = K at *
      clear hab hcl hp hd h1 hK
      have sl := HSl2.out
      go_wp2_with fail
      refine HCp.out.mono ?_
      rintro e3 w3 ⟨v3, rfl, ho, hb⟩
      have HF := Lib.hid (HEnd.out _ _ ho hb)
      clear ho hb sl
      go_wp2_with fail
      go_ret2
      exact HF.out
  · have E2 := Lib.hid (show sweepP l t = ([], e) by rw [E.out, if_pos he])
    have hz : (e == 0) = false := by simpa using he
    clear E
    go_wp2_with fail
    go_ret2
    exact ⟨_, by rw [E2.out]; rfl, by rw [E2.out]; exact World.ownsRow_nil _ _ _ _, HB.out⟩

end Ch
end Go.Proofs.Ytpdojkfjgfeijaa
