/- Parts of the proof, joined: ChL5, ChL6; their conditions stand with each. -/
import Derived.Test.YtiobhbagjokpcaaGreatM26

/- The landed chain: Sweep, Add; contracts; no condition but the range. -/
namespace Go.Proofs.YtiobhbagjokpcaaGreat
namespace Ch
open Go.RowKit Bk

attribute [local go_sem ↓] Go.wp_at_zero Go.wp_at_succ
attribute [local go_sem] floatUpon pick

theorem copies_row (ps : List (Value × List Vr)) (c : Nat) (w : World) (L : List Vr) (hL : joinL ps ps.length = L) (hP : ∀ i (h : i < ps.length), PartOf w ps[i].1 ps[i].2) (hsum : L.length * 32 ≤ 140737488355328) (hps : ps.length ≤ 1024) (hok : ∀ x ∈ L, x.shard.size ≤ 281474976710656) :
    Calls Tryz.prog 99 #[.slice (some ⟨w.heap.size, 0, none⟩) ps.length c] (w.alloc (.cells (ps.map (·.1)).toArray 66)) fun e w' => ∃ v, e = .returned v ∧ w'.ownsRow w.heap.size 55 3 v L.length (vrV L) ∧ Below w.heap.size w w' := by
  subst hL
  have hb : Below w.heap.size w (w.alloc (.cells (ps.map (·.1)).toArray 66)) := (Below.refl _ w).alloc (Nat.le_refl _) _
  refine (copies_any ⟨w.heap.size, 0, none⟩ c ps _ (by simp) (fun i h => ?_) (fun i h => (hP i h).below hb) hsum hps hok).mono ?_
  · rw [addr_head]
    exact blk_cell (blk1 w _).2 (by rw [List.getElem?_toArray, List.getElem?_map, List.getElem?_eq_getElem h]; rfl)
  · rintro e w' ⟨v, rfl, h1, h2⟩
    exact ⟨v, rfl, own_base h1 hb.size, hb.trans (h2.mono hb.size)⟩

theorem reach_ok {l : List Vr} (hr : ∀ x ∈ l, VrRng x) : ∀ x ∈ l, x.shard.size ≤ 281474976710656 := fun x hx => by
  have h1 := (hr x hx).shard
  have rb : reachBytes = 140737488351232 := rfl
  omega

set_option maxRecDepth 20000 in
set_option maxHeartbeats 4000000 in
theorem lsweep_any (A : Option Addr) (c : Nat) (l : List Vr) (t : Int) (w : World) (h : VrsAt w A l) (hn : l.length * 32 ≤ 140737488351232) (hr : ∀ x ∈ l, VrRng x) (hnil : A = none → l.length = 0 ∧ c = 0) (hc : l.length ≤ c) :
    Calls Tryz.prog 64 #[.slice A l.length c, .int .i64 t] w (RowAns w (sweepP l t)) := by
  have HC := Lib.hid (lcheck_any A c l w h hn hr hc)
  have HP0 := Lib.hid (fun (hok : ChOk l) W (hb : Below w.heap.size w W) => notAbove_any A c l t W (h.below hb) hok.rise hok.len)
  have HOk := Lib.hid (fun (h0 : (chkP l).2 = 0) => chk_ok.1 h0)
  have HA := Lib.hid h
  have HSl := Lib.hid (fun n (hn : n ≤ l.length) => slice_from A l.length c n hn hc hnil)
  have HRg := Lib.hid hr
  have hlen : (l.length : Int) ≤ 4398046511104 := by omega
  have E := Lib.hid (show sweepP l t = if (chkP l).2 ≠ 0 then ([], (chkP l).2) else (sweepL l t, 0) from rfl)
  obtain ⟨a, e, hae⟩ : ∃ a e, chkP l = (a, e) := ⟨_, _, rfl⟩
  rw [hae] at HC E HOk
  simp only at HC E HOk
  clear h hr hae hnil hc
  go_enter Tryz.func64, Tryz.ntmps64
  go_wp2_with fail
  refine HC.out.mono ?_
  rintro e1 w1 ⟨rfl, hb⟩
  have HB := Lib.hid hb
  clear HC hb
  by_cases he : e = 0
  · subst he
    have HP := Lib.hid (HP0.out (HOk.out rfl))
    have HLast : Hid (∀ k, goN l t = k → k ≤ l.length → ∀ w2, Below w.heap.size w w2 → ∀ v w', w'.ownsRow w2.heap.size 55 3 v (l.drop k).length (vrV (l.drop k)) → Below w2.heap.size w2 w' → RowAns w (sweepP l t) (.returned (.tuple #[v, .int .i64 0])) w') := Lib.hid (fun k hk hkl w2 hb2 v w' ho hb => by
      have hp : sweepP l t = (l.drop k, 0) := by rw [E.out, ← hk]; rfl
      rw [hp]
      exact ⟨v, rfl, own_base ho hb2.size, hb2.trans (hb.mono hb2.size)⟩)
    clear HP0
    go_wp2_with fail
    refine (HP.out _ HB.out).mono ?_
    rintro e2 w2 ⟨rfl, hb⟩
    have HB2 := Lib.hid (HB.out.trans (hb.mono HB.out.size))
    clear hb HB E
    have hpl := place_le l t
    obtain ⟨k, hgo, hkl, hway⟩ : ∃ k, goN l t = k ∧ k ≤ l.length ∧ (placeN l t = k ∧ (k = 0 ∨ ∃ (h0 : 0 < k) (h1 : k - 1 < l.length), (l[k - 1]'h1).dead = true) ∨ ∃ h1 : k < l.length, placeN l t = k + 1 ∧ l[k].dead = false) := by
      cases hp : placeN l t with
      | zero => exact ⟨0, go_zero hp, Nat.zero_le _, .inl ⟨rfl, .inl rfl⟩⟩
      | succ j =>
        have hj : j < l.length := by omega
        have hg := go_succ hp hj
        by_cases hd : l[j].dead = true
        · rw [if_pos hd] at hg
          exact ⟨j + 1, hg, by omega, .inl ⟨rfl, .inr ⟨by omega, by simpa using hj, by simpa using hd⟩⟩⟩
        · rw [if_neg hd] at hg
          exact ⟨j, hg, by omega, .inr ⟨hj, rfl, by simpa using hd⟩⟩
    obtain ⟨A', c', hsl, hdr, hnil', hcl, hcc⟩ := HSl.out k hkl
    have hdl : (l.drop k).length = l.length - k := List.length_drop
    have HPt : PartOf w2 (.slice A' (l.length - k) c') (l.drop k) := ⟨A', c', (by rw [hdl]), hdr w2 l rfl (HA.out.below HB2.out), fun e => (by rw [hdl]; exact hnil' e)⟩
    have hPs : ∀ i (h : i < [((.slice A' (l.length - k) c' : Value), l.drop k)].length), PartOf w2 [((.slice A' (l.length - k) c' : Value), l.drop k)][i].1 [((.slice A' (l.length - k) c' : Value), l.drop k)][i].2 := fun i h => by
      have hi : i = 0 := by simpa using h
      subst hi
      exact HPt
    have HCp := Lib.hid (copies_row [(.slice A' (l.length - k) c', l.drop k)] 1 w2 (l.drop k) (by simp [joinL]) hPs (by rw [hdl]; omega) (by simp) (fun x hx => reach_ok HRg.out x (List.mem_of_mem_drop hx)))
    have HSl2 := Lib.hid hsl
    have HEnd := Lib.hid (HLast.out k hgo hkl w2 HB2.out)
    have hk0 : (k : Int) ≤ (l.length : Int) := by omega
    simp only [List.map_cons, List.map_nil, List.length_singleton] at HCp
    clear HSl HLast hdr hnil' hsl HPt hdl hPs
    rcases hway with ⟨hp, hz | ⟨h0, h1, hd⟩⟩ | ⟨h1, hp, hd⟩
    · have hz' : ¬ (k : Int) > 0 := by omega
      rw [hp]
      clear hz hp
      have sl := HSl2.out
      go_wp2_with fail
      refine HCp.out.mono ?_
      rintro e3 w3 ⟨v3, rfl, ho, hb⟩
      have HF := Lib.hid (HEnd.out _ _ ho hb)
      clear ho hb sl
      go_wp2_with fail
      go_ret2
      exact HF.out
    · obtain ⟨j, rfl⟩ : ∃ j, k = j + 1 := ⟨k - 1, by omega⟩
      have h1' : j < l.length := by omega
      have hd' : l[j].dead = true := by simpa using hd
      clear hd h1
      obtain ⟨ad, rfl, hab, hcl⟩ := (HA.out.below HB2.out) (by omega)
      obtain ⟨-, -, x2⟩ := hcl j h1'
      rw [hd'] at x2
      rw [← add_field _ _ _ (by omega)] at x2
      have hc1 : ((j + 1 : Nat) : Int) - 1 = (j : Int) := by omega
      have hc2 : (j : Int) < (l.length : Int) := by omega
      have hc3 : ((j + 1 : Nat) : Int) > 0 := by omega
      rw [hp]
      generalize hK : j + 1 = K at *
      clear hab hcl hp h0 hd' h1' hK
      have sl := HSl2.out
      go_wp2_with fail
      refine HCp.out.mono ?_
      rintro e3 w3 ⟨v3, rfl, ho, hb⟩
      have HF := Lib.hid (HEnd.out _ _ ho hb)
      clear ho hb sl
      go_wp2_with fail
      go_ret2
      exact HF.out
    · obtain ⟨ad, rfl, hab, hcl⟩ := (HA.out.below HB2.out) (by omega)
      obtain ⟨-, -, x2⟩ := hcl k h1
      rw [hd] at x2
      rw [← add_field _ _ _ (by omega)] at x2
      have hc1 : ((k + 1 : Nat) : Int) - 1 = (k : Int) := by omega
      have hc2 : (k : Int) < (l.length : Int) := by omega
      have hc3 : ((k + 1 : Nat) : Int) > 0 := by omega
      rw [hp]
      generalize hK : k + 1 = K at *
      clear hab hcl hp hd h1 hK
      have sl := HSl2.out
      go_wp2_with fail
      refine HCp.out.mono ?_
      rintro e3 w3 ⟨v3, rfl, ho, hb⟩
      have HF := Lib.hid (HEnd.out _ _ ho hb)
      clear ho hb sl
      go_wp2_with fail
      go_ret2
      exact HF.out
  · have E2 := Lib.hid (show sweepP l t = ([], e) by rw [E.out, if_pos he])
    have hz : (e == 0) = false := by simpa using he
    clear E
    go_wp2_with fail
    go_ret2
    exact ⟨_, by rw [E2.out]; rfl, by rw [E2.out]; exact World.ownsRow_nil _ _ _ _, HB.out⟩

end Ch
end Go.Proofs.YtiobhbagjokpcaaGreat

/- The landed chain: Add; contract; no condition but the range. -/
namespace Go.Proofs.YtiobhbagjokpcaaGreat
namespace Ch
open Go.RowKit Bk

attribute [local go_sem ↓] Go.wp_at_zero Go.wp_at_succ
attribute [local go_sem] floatUpon pick

theorem joinL_two (v1 v2 : Value) (L1 L2 : List Vr) : joinL [(v1, L1), (v2, L2)] 2 = L1 ++ L2 := by simp [joinL]

theorem copies_two (v1 v2 : Value) (L1 L2 : List Vr) (c : Nat) (w : World) (h1 : PartOf w v1 L1) (h2 : PartOf w v2 L2) (hsum : (L1 ++ L2).length * 32 ≤ 140737488355328) (hok : ∀ x ∈ L1 ++ L2, x.shard.size ≤ 281474976710656) :
    Calls Tryz.prog 99 #[.slice (some ⟨w.heap.size, 0, none⟩) 2 c] (w.alloc (.cells #[v1, v2] 66)) fun e w' => ∃ v, e = .returned v ∧ w'.ownsRow w.heap.size 55 3 v (L1 ++ L2).length (vrV (L1 ++ L2)) ∧ Below w.heap.size w w' := by
  have hPs : ∀ i (h : i < [(v1, L1), (v2, L2)].length), PartOf w [(v1, L1), (v2, L2)][i].1 [(v1, L1), (v2, L2)][i].2 := fun i h => by
    have hi : i = 0 ∨ i = 1 := by simp at h; omega
    rcases hi with rfl | rfl
    · exact h1
    · exact h2
  exact copies_row [(v1, L1), (v2, L2)] c w (L1 ++ L2) (joinL_two v1 v2 L1 L2) hPs hsum (by simp) hok

theorem chk_one (x : Vr) : (chkP [x]).2 = bad none x := by
  unfold chkP
  rw [if_neg (by simp)]
  unfold chkL
  by_cases h : bad none x = 0
  · rw [if_pos h, h]; rfl
  · rw [if_neg h]

set_option maxRecDepth 20000 in
set_option maxHeartbeats 8000000 in
theorem ladd_any (A : Option Addr) (c : Nat) (l : List Vr) (x : Vr) (w : World) (h : VrsAt w A l) (hn : l.length * 32 ≤ 140737488351232) (hr : ∀ x ∈ l, VrRng x) (hx : VrRng x) (hnil : A = none → l.length = 0 ∧ c = 0) (hc : l.length ≤ c) :
    Calls Tryz.prog 98 #[.slice A l.length c, .agg (vcs x).toArray] w (RowAns w (addP l x)) := by
  have HC := Lib.hid (fun W (hb : Below w.heap.size w W) => lcheck_any A c l W (h.below hb) hn hr hc)
  have HFa := Lib.hid (fun W => fault_any x W hx.shard)
  have HOk := Lib.hid (fun (h0 : (chkP l).2 = 0) => chk_ok.1 h0)
  have HL := Lib.hid (fun W (hb : Below w.heap.size w W) => last_in A c l l.length W (h.below hb) rfl (by omega))
  have HA := Lib.hid h
  have HNil := Lib.hid hnil
  have HSh := Lib.hid (show ∀ y ∈ l ++ [x], y.shard.size ≤ 281474976710656 from fun y hy => by
    rcases List.mem_append.1 hy with hy | hy
    · exact reach_ok hr y hy
    · obtain rfl := List.mem_singleton.1 hy
      exact reach_ok (l := [y]) (fun z hz => by rw [List.mem_singleton.1 hz]; exact hx) y (List.mem_singleton.2 rfl))
  have hlen : (l.length : Int) ≤ 4398046511104 := by omega
  have E := Lib.hid (show addP l x = if (chkP l).2 ≠ 0 then ([], (chkP l).2) else if (chkP [x]).2 ≠ 0 then ([], (chkP [x]).2) else if 0 < l.length ∧ x.ts ≤ lastT l then ([], 110) else if 1024 ≤ l.length then ([], 2) else (l ++ [x], 0) from rfl)
  obtain ⟨a, e, hae⟩ : ∃ a e, chkP l = (a, e) := ⟨_, _, rfl⟩
  obtain ⟨f, haf⟩ : ∃ f, bad none x = f := ⟨_, rfl⟩
  have HBn := Lib.hid (fun (h0 : bad none x = 0) => bad_none_pos h0)
  rw [chk_one] at E
  rw [hae] at HC E HOk
  rw [haf] at HFa E HBn
  simp only at HC E HOk
  obtain ⟨xt, xs, xd⟩ := x
  clear h hr hae haf hnil hx hc
  show Calls _ _ #[_, .agg #[.int .i64 xt, .string xs, .bool xd]] _ _
  go_enter Tryz.func98, Tryz.ntmps98
  go_upto_region 1 with fail
  have hR0 : Cel (w.alloc (.cells #[.int .i64 xt, .string xs, .bool xd] 55)) w.heap.size 55 [.int .i64 xt, .string xs, .bool xd] := (blk1 w _).2
  have hB0 : Below w.heap.size w (w.alloc (.cells #[.int .i64 xt, .string xs, .bool xd] 55)) := (Below.refl _ w).alloc (Nat.le_refl _) _
  generalize w.alloc (.cells #[.int .i64 xt, .string xs, .bool xd] 55) = W0 at hR0 hB0 ⊢
  go_wp2_with fail
  refine (HC.out _ hB0).mono ?_
  rintro e1 w1 ⟨rfl, hb⟩
  have hcel1 := hR0.below hb
  have HB := Lib.hid (hB0.trans (hb.mono hB0.size))
  have HR := Lib.hid hcel1
  clear HC hb hR0 hB0
  by_cases he : e = 0
  case neg =>
    have HF := Lib.hid (row_ans_none (w := w) (W := w1) (show addP l ⟨xt, xs, xd⟩ = ([], e) by rw [E.out, if_pos he]) HB.out)
    have hz : (e == 0) = false := by simpa using he
    clear E hcel1
    go_wp2_with fail
    go_ret2
    exact HF.out
  subst he
  have hok := HOk.out rfl
  have hl1 : l.length ≤ 1024 := hok.len
  have q0 := hcel1.cell (i := 0) rfl
  have q1 := hcel1.cell (i := 1) rfl
  have q2 := hcel1.cell (i := 2) rfl
  clear hcel1 hok
  go_wp2_with fail
  refine (HFa.out _).mono ?_
  rintro e2 w2 ⟨rfl, hb⟩
  have HR2 := Lib.hid (HR.out.below hb)
  have HB2 := Lib.hid (HB.out.trans (hb.mono HB.out.size))
  clear hb HR HB q0 q1 q2 HFa
  by_cases hf : f = 0
  case neg =>
    have HF := Lib.hid (row_ans_none (w := w) (W := w2) (show addP l ⟨xt, xs, xd⟩ = ([], f) by rw [E.out, if_neg (by simp), if_pos hf]) HB2.out)
    have hz : (f == 0) = false := by simpa using hf
    clear E
    go_wp2_with fail
    go_ret2
    exact HF.out
  subst hf
  have hxp := HBn.out rfl
  try simp only at hxp
  have q0 := HR2.out.cell (i := 0) rfl
  have HLi := Lib.hid (fun n => HL.out (w2.drewN n) (HB2.out.trans ((below_drew w2.heap.size w2 n).mono HB2.out.size)))
  by_cases h4 : xt ≤ lastT l
  · have h0 : 0 < l.length := by
      refine Nat.pos_of_ne_zero fun h0 => ?_
      obtain rfl : l = [] := List.eq_nil_of_length_eq_zero h0
      have : lastT [] = 0 := rfl
      omega
    have HF : Hid (∀ W, Below w.heap.size w W → RowAns w (addP l ⟨xt, xs, xd⟩) (.returned (.tuple #[.slice none 0 0, .int .i64 110])) W) := Lib.hid (fun W hb => row_ans_none (by rw [E.out, if_neg (by simp), if_neg (by simp), if_pos ⟨h0, h4⟩]) hb)
    clear h0 E HL
    generalize lastT l = lt at HLi h4
    go_upto_region 7 with fail
    go_quiet ((go_at_call 102; exact Calls.quiet_of_same (HLi.out _)))
    rename_i nq
    have HB3 := Lib.hid (HB2.out.trans ((below_drew w2.heap.size w2 nq).mono HB2.out.size))
    generalize w2.drewN nq = W3 at HB3 ⊢
    go_wp2_with fail
    go_ret2
    exact HF.out _ HB3.out
  have HNo := Lib.hid (show ¬ (0 < l.length ∧ xt ≤ lastT l) from fun h => h4 h.2)
  have HEn := Lib.hid (show ∀ r, (if 1024 ≤ l.length then (([], 2) : List Vr × Int) else (l ++ [⟨xt, xs, xd⟩], 0)) = r → addP l ⟨xt, xs, xd⟩ = r from fun r hr => by rw [E.out, if_neg (by simp), if_neg (by simp), if_neg HNo.out]; exact hr)
  clear E HL HNo
  generalize lastT l = lt at HLi h4
  go_upto_region 7 with fail
  go_quiet ((go_at_call 102; exact Calls.quiet_of_same (HLi.out _)))
  rename_i nq
  have HB23 := below_drew w2.heap.size w2 nq
  have HB3 := Lib.hid (HB2.out.trans (HB23.mono HB2.out.size))
  have HR3 := Lib.hid (HR2.out.below HB23)
  generalize w2.drewN nq = W3 at HB3 HR3 ⊢
  clear q0 HB23 HLi HB2 HR2
  by_cases hfull : l.length = 1024
  · have HF := Lib.hid (row_ans_none (w := w) (W := W3) (HEn.out ([], 2) (by rw [if_pos (by omega)])) HB3.out)
    have pf : (l.length : Int) = 1024 := by omega
    have pf2 : ((l.length : Int) == 1024) = true := by simp [pf]
    rw [hfull] at *
    clear HEn hfull
    go_wp2_with fail
    go_ret2
    exact HF.out
  have pf : ¬ (l.length : Int) = 1024 := by omega
  have pf2 : ((l.length : Int) == 1024) = false := by simpa using pf
  have q0 := HR3.out.cell (i := 0) rfl
  have q1 := HR3.out.cell (i := 1) rfl
  have q2 := HR3.out.cell (i := 2) rfl
  have hb4 : Below W3.heap.size W3 (W3.alloc (.cells (vcs ⟨xt, xs, xd⟩).toArray 55)) := (Below.refl _ W3).alloc (Nat.le_refl _) _
  have HP1 : PartOf (W3.alloc (.cells (vcs ⟨xt, xs, xd⟩).toArray 55)) (.slice A l.length c) l := ⟨A, c, rfl, (HA.out.below HB3.out).below hb4, HNil.out⟩
  have HP2 : PartOf (W3.alloc (.cells (vcs ⟨xt, xs, xd⟩).toArray 55)) (.slice (some ⟨W3.heap.size, 0, none⟩) 1 1) [⟨xt, xs, xd⟩] := ⟨_, 1, rfl, one_at W3 _, fun e => by cases e⟩
  have hsm : (l ++ [⟨xt, xs, xd⟩] : List Vr).length * 32 ≤ 140737488355328 := by rw [List.length_append, List.length_singleton]; omega
  have HCp := copies_two (.slice A l.length c) (.slice (some ⟨W3.heap.size, 0, none⟩) 1 1) l [⟨xt, xs, xd⟩] 2 (W3.alloc (.cells (vcs ⟨xt, xs, xd⟩).toArray 55)) HP1 HP2 hsm HSh.out
  have HB4 := Lib.hid (HB3.out.trans (hb4.mono HB3.out.size))
  have hz4 : (W3.alloc (.cells (vcs ⟨xt, xs, xd⟩).toArray 55)).heap.size = W3.heap.size + 1 := by simp
  have HB4s := Lib.hid (show w.heap.size ≤ W3.heap.size + 1 by have := HB3.out.size; omega)
  rw [hz4] at HCp
  have HCp : Hid (Calls Tryz.prog 99 #[.slice (some ⟨W3.heap.size + 1, 0, none⟩) 2 2] ((W3.alloc (.cells #[.int .i64 xt, .string xs, .bool xd] 55)).alloc (.cells #[.slice A l.length c, .slice (some ⟨W3.heap.size, 0, none⟩) 1 1] 66)) _) := Lib.hid HCp
  clear hz4
  have hrr := HEn.out (l ++ [⟨xt, xs, xd⟩], 0) (by rw [if_neg (by omega)])
  have HRr := Lib.hid hrr
  clear HEn hfull HP1 HP2 hb4 hsm hrr
  go_wp2_with fail
  refine HCp.out.mono ?_
  rintro e5 w5 ⟨v5, rfl, ho, hb⟩
  have HF : Hid (RowAns w (addP l ⟨xt, xs, xd⟩) (.returned (.tuple #[v5, .int .i64 0])) w5) := Lib.hid (by
    rw [HRr.out]
    exact ⟨v5, rfl, own_base ho HB4s.out, HB4.out.trans (hb.mono HB4s.out)⟩)
  clear ho hb HCp
  go_wp2_with fail
  go_ret2
  exact HF.out

end Ch
end Go.Proofs.YtiobhbagjokpcaaGreat
