/- Parts of the proof, joined: ShL20, ShLaw1, ShEx, ShLaw2; their conditions stand with each. -/
import Derived.Test.YtiobhbagjokpcaaM16
import Derived.Test.YtiobhbagjokpcaaM31
import Derived.Test.YtiobhbagjokpcaaM37

/- The landed shelf: Apply, New; contracts; no condition but the range. -/
namespace Go.Proofs.Ytiobhbagjokpcaa
namespace Sh
open Go.RowKit Bk Ch Lt Rc Tr

attribute [local go_sem ↓] Go.wp_at_zero Go.wp_at_succ
attribute [local go_sem] floatUpon pick

theorem may_one {r : Rec} (h : RecOk r) (hk : r.kind = 3) : MayW r.ts [⟨r.key, r.text, r.dead⟩] ∧ vrOk ⟨r.ts, r.text, r.dead⟩ := by
  obtain ⟨_, _, _, h1, h2, h3, h4⟩ := (kind_3 hk).1 h.2
  have h5 := h.1.2.1
  unfold stampOk at h5
  have h6 : ¬ (r.dead = true ∧ r.text ≠ ⟨#[]⟩) := fun hc => by
    rcases h4 with h4 | h4
    · rw [h4] at hc; cases hc.1
    · exact hc.2 h4
  exact ⟨⟨by omega, fun x hx => by rw [List.mem_singleton.1 hx]; exact ⟨h2, h3, h6⟩, List.pairwise_singleton ..⟩, by show 1 ≤ r.ts; omega, by show r.ts ≤ _; omega, h3, h6⟩

theorem one_wr (W : World) (k t : ByteArray) (d : Bool) : WrsAt (W.alloc (.cells #[.string k, .string t, .bool d] 36)) (some ⟨W.heap.size, 0, none⟩) [⟨k, t, d⟩] := fun _ => by
  refine ⟨_, rfl, by simp, fun i hi => ?_⟩
  obtain rfl : i = 0 := by simp at hi; omega
  have hc : Cel (W.alloc (.cells #[.string k, .string t, .bool d] 36)) W.heap.size 36 [.string k, .string t, .bool d] := (blk1 W _).2
  exact ⟨hc.cell (i := 0) rfl, hc.cell (i := 1) rfl, hc.cell (i := 2) rfl⟩

theorem LRep.more {W : World} {F F' : Nat → Prop} {g : Nat} {s : Shf} (h : LRep W F g s) (hF : ∀ k, F k → F' k) (hl : ∀ k, F' k → k < W.heap.size) : LRep W F' g s := by
  obtain ⟨bc, bp, v, K, P, h⟩ := h
  exact ⟨bc, bp, v, K, P, h.more hF hl⟩

theorem gr_later {W V w' : World} {F : Nat → Prop} (h : W.heap.size ≤ V.heap.size) : ∀ k, Gr F V w' k → Gr F W w' k := fun _ hk => hk.elim .inl (fun h2 => .inr ⟨Nat.le_trans h h2.1, h2.2⟩)

section
variable {W : World} {F : Nat → Prop} {g bc bp : Nat} {v : Value} {K : List KI} {P : List RI} {s : Shf}

set_option maxRecDepth 20000 in
set_option maxHeartbeats 8000000 in
theorem lapply_any (h : LAt W F g bc bp v K P s) (hs : ShOk s) (x : RI) (hv : RecVal W x.A x.B x.c x.d x.l) :
    Calls Try.prog 11 #[.pointer (some ⟨g, 0, none⟩), .agg (rcs x).toArray] W fun e w' => e = .returned (.int .i64 (applyP s x.l).2) ∧ LRep w' (Gr F W w') g (applyP s x.l).1 ∧ Far F W w' := by
  have HF := Lib.hid h.fl
  have HLat := Lib.hid (show ∀ V w' s', Below W.heap.size W V → LRep w' (Gr F V w') g s' → Far F V w' → LRep w' (Gr F W w') g s' ∧ Far F W w' from fun V w' s' hb hl ha => by
    have haw := (Far.of (F := F) hb).trans ha
    exact ⟨hl.more (gr_later hb.size) (gr_lt h.fl haw.size), haw⟩)
  have HCk := Lib.hid (fun V (hb : Below W.heap.size W V) => lcheckAll x.A x.B x.c x.d x.l V (hv.below hb))
  have HPr := Lib.hid (fun V (hb : Below W.heap.size W V) (hr : RecOk x.l) (hk : x.l.kind = 1) => lprepare_any (h.below hb) hs x (hv.below hb) hr hk)
  have HDo := Lib.hid (fun V (hb : Below W.heap.size W V) (hr : RecOk x.l) (hk : x.l.kind = 2) => lend_any (h.below hb) hs x.l.txn x.l.ts (by
    have h1 := ((kind_2 hk).1 hr.2).2
    rcases hr.1.1 with h2 | h2
    · exact absurd h2 h1
    · exact h2) hr.1.2.1)
  have HWr := Lib.hid (fun V (hb : Below W.heap.size W V) (hr : RecOk x.l) (hk : x.l.kind = 3) => lwrite_any (h.below (hb.trans (((Below.refl _ V).alloc (Nat.le_refl _) (.cells #[.string x.l.key, .string x.l.text, .bool x.l.dead] 36)).mono hb.size))) hs (may_one hr hk).1 (some ⟨V.heap.size, 0, none⟩) 1 (one_wr V x.l.key x.l.text x.l.dead) (fun _ ad e hm => by
    obtain rfl := Option.some.inj e
    have h1 : V.heap.size < W.heap.size := h.mu_lt _ hm
    have := hb.size
    omega) (by simp))
  have HSw := Lib.hid (fun V (hb : Below W.heap.size W V) => lsweeps_any (h.below hb) hs x.l.ts)
  have HOld := Lib.hid (show ∀ V, Below W.heap.size W V → ∀ e, applyP s x.l = (s, e) → LRep V (Gr F W V) g (applyP s x.l).1 ∧ Far F W V from fun V hb e he => by
    rw [he]
    exact ⟨⟨bc, bp, v, K, P, h.gr hb.size (h.below hb)⟩, Far.of hb⟩)
  have H0 := Lib.hid (fun (hr : ¬ RecOk x.l) => show applyP s x.l = (s, 80) by unfold applyP; rw [if_pos hr])
  have H1 := Lib.hid (fun (hr : RecOk x.l) (hk : x.l.kind = 1) => show applyP s x.l = prepareP s x.l by unfold applyP; rw [if_neg (by simpa using hr), if_pos hk])
  have H2 := Lib.hid (fun (hr : RecOk x.l) (hk : x.l.kind = 2) => show applyP s x.l = doP s x.l.txn x.l.ts by unfold applyP; rw [if_neg (by simpa using hr), if_neg (by omega), if_pos hk])
  have H3 := Lib.hid (fun (hr : RecOk x.l) (hk : x.l.kind = 3) => show applyP s x.l = writeP s x.l.ts [⟨x.l.key, x.l.text, x.l.dead⟩] by rw [← ver_write hs (v := ⟨x.l.ts, x.l.text, x.l.dead⟩) (may_one hr hk).2]; unfold applyP; rw [if_neg (by simpa using hr), if_neg (by omega), if_neg (by omega), if_pos hk])
  have H4 := Lib.hid (fun (hr : RecOk x.l) (hk : x.l.kind = 4) => show applyP s x.l = sweepS s x.l.ts by unfold applyP; rw [if_neg (by simpa using hr), if_neg (by omega), if_neg (by omega), if_neg (by omega), if_pos hk])
  have H5 := Lib.hid (fun (hr : RecOk x.l) (h1 : x.l.kind ≠ 1) (h2 : x.l.kind ≠ 2) (h3 : x.l.kind ≠ 3) (h4 : x.l.kind ≠ 4) => show applyP s x.l = (s, 80) by unfold applyP; rw [if_neg (by simpa using hr), if_neg h1, if_neg h2, if_neg h3, if_neg h4])
  obtain ⟨r, A1, B1, c1, d1⟩ := x
  try simp only at HOld
  try simp only at H0
  try simp only at H1
  try simp only at H2
  try simp only at H3
  try simp only at H4
  try simp only at H5
  try simp only at HDo
  try simp only at HSw
  try simp only at HWr
  have HPr2 : Hid (∀ V, Below W.heap.size W V → RecOk r → r.kind = 1 → Calls Try.prog 21 #[.pointer (some ⟨g, 0, none⟩), .agg #[.int .i64 r.kind, .int .i64 r.txn, .int .i64 r.ts, .int .i64 r.coord, .string r.key, .string r.text, .bool r.dead, .slice A1 r.keys.length c1, .slice B1 r.ws.length d1]] V fun e w' => e = .returned (.int .i64 (prepareP s r).2) ∧ LRep w' (Gr F V w') g (prepareP s r).1 ∧ Far F V w') := HPr
  have HCk2 : Hid (∀ V, Below W.heap.size W V → Calls Try.prog 20 #[.agg #[.int .i64 r.kind, .int .i64 r.txn, .int .i64 r.ts, .int .i64 r.coord, .string r.key, .string r.text, .bool r.dead, .slice A1 r.keys.length c1, .slice B1 r.ws.length d1]] V fun e w' => e = .returned (.int .i64 (ckN r : Int)) ∧ Below V.heap.size V w') := HCk
  have hc1 : Cel (W.alloc (.cells (c9 r (.slice A1 r.keys.length c1) (.slice B1 r.ws.length d1)).toArray 32)) W.heap.size 32 (c9 r (.slice A1 r.keys.length c1) (.slice B1 r.ws.length d1)) := (blk1 W _).2
  have hb1 : Below W.heap.size W (W.alloc (.cells (c9 r (.slice A1 r.keys.length c1) (.slice B1 r.ws.length d1)).toArray 32)) := (Below.refl _ W).alloc (Nat.le_refl _) _
  clear h hs hv HPr HCk
  show Calls _ _ #[_, .agg #[.int .i64 r.kind, .int .i64 r.txn, .int .i64 r.ts, .int .i64 r.coord, .string r.key, .string r.text, .bool r.dead, .slice A1 r.keys.length c1, .slice B1 r.ws.length d1]] _ _
  go_enter Try.func11, Try.ntmps11
  go_upto_region 1 with fail
  generalize W.alloc (.cells #[.int .i64 r.kind, .int .i64 r.txn, .int .i64 r.ts, .int .i64 r.coord, .string r.key, .string r.text, .bool r.dead, .slice A1 r.keys.length c1, .slice B1 r.ws.length d1] 32) = W1 at hc1 hb1 ⊢
  have HC1 := Lib.hid hc1
  have HB1 := Lib.hid hb1
  have q0 := hc1.cell (i := 0) rfl
  have q1 := hc1.cell (i := 1) rfl
  have q2 := hc1.cell (i := 2) rfl
  have q3 := hc1.cell (i := 3) rfl
  have q4 := hc1.cell (i := 4) rfl
  have q5 := hc1.cell (i := 5) rfl
  have q6 := hc1.cell (i := 6) rfl
  have q7 := hc1.cell (i := 7) rfl
  have q8 := hc1.cell (i := 8) rfl
  clear hc1 hb1
  go_wp2_with fail
  refine (HCk2.out _ HB1.out).mono ?_
  rintro e1 w1 ⟨rfl, hb⟩
  have HB2 := Lib.hid (HB1.out.trans (hb.mono HB1.out.size))
  have hc2 := HC1.out.below hb
  clear q0 q1 q2 q3 q4 q5 q6 q7 q8 hb HC1 HCk2 HB1
  by_cases hok : RecOk r
  case neg =>
    have E := Lib.hid (H0.out hok)
    rw [ckN_not hok]
    clear hc2 hok
    go_wp2_with fail
    go_ret
    exact ⟨(by rw [E.out]; first | done | rfl), HOld.out _ HB2.out _ E.out⟩
  rw [ckN_of hok]
  have q0 := hc2.cell (i := 0) rfl
  have q1 := hc2.cell (i := 1) rfl
  have q2 := hc2.cell (i := 2) rfl
  have q3 := hc2.cell (i := 3) rfl
  have q4 := hc2.cell (i := 4) rfl
  have q5 := hc2.cell (i := 5) rfl
  have q6 := hc2.cell (i := 6) rfl
  have q7 := hc2.cell (i := 7) rfl
  have q8 := hc2.cell (i := 8) rfl
  have HC2 := Lib.hid hc2
  clear hc2
  have HOk := Lib.hid hok
  by_cases k1 : r.kind = 1
  · have E := Lib.hid (H1.out hok k1)
    have HR := Lib.hid (HPr2.out _ HB2.out hok k1)
    rw [k1] at HR
    clear H0 H1 H2 H3 H4 H5 hok HOld HPr2 HDo HWr HSw
    go_wp2_with fail
    refine HR.out.mono ?_
    rintro e2 w2 ⟨rfl, hl, ha⟩
    have HR2 := Lib.hid (HLat.out _ _ _ HB2.out hl ha)
    clear hl ha HR
    go_wp2_with fail
    go_ret
    exact ⟨(by rw [E.out]; first | done | rfl), by rw [E.out]; exact HR2.out.1, HR2.out.2⟩
  by_cases k2 : r.kind = 2
  · have E := Lib.hid (H2.out hok k2)
    have HR := Lib.hid (HDo.out _ HB2.out hok k2)
    clear H0 H1 H2 H3 H4 H5 hok HOld HPr2 HDo HWr HSw
    go_wp2_with fail
    refine HR.out.mono ?_
    rintro e2 w2 ⟨rfl, hl, ha⟩
    have HR2 := Lib.hid (HLat.out _ _ _ HB2.out hl ha)
    clear hl ha HR
    go_wp2_with fail
    go_ret
    exact ⟨(by rw [E.out]; first | done | rfl), by rw [E.out]; exact HR2.out.1, HR2.out.2⟩
  by_cases k3 : r.kind = 3
  · have E := Lib.hid (H3.out hok k3)
    have HR := Lib.hid (HWr.out _ HB2.out hok k3)
    have HB3 := Lib.hid (HB2.out.trans (((Below.refl _ w1).alloc (Nat.le_refl _) (.cells #[.string r.key, .string r.text, .bool r.dead] 36)).mono HB2.out.size))
    simp only [List.length_cons, List.length_nil, Nat.zero_add] at HR
    clear H0 H1 H2 H3 H4 H5 hok HOld HPr2 HDo HWr HSw
    go_wp2_with fail
    refine HR.out.mono ?_
    rintro e2 w2 ⟨rfl, ⟨K', hl⟩, ha⟩
    have HR2 := Lib.hid (HLat.out _ _ _ HB3.out ⟨_, _, _, _, _, hl⟩ ha)
    clear hl ha HR
    go_wp2_with fail
    go_ret
    exact ⟨(by rw [E.out]; first | done | rfl), by rw [E.out]; exact HR2.out.1, HR2.out.2⟩
  by_cases k4 : r.kind = 4
  · have E := Lib.hid (H4.out hok k4)
    have HR := Lib.hid (HSw.out _ HB2.out)
    clear H0 H1 H2 H3 H4 H5 hok HOld HPr2 HDo HWr HSw
    go_wp2_with fail
    refine HR.out.mono ?_
    rintro e2 w2 ⟨rfl, hl, ha⟩
    have HR2 := Lib.hid (HLat.out _ _ _ HB2.out hl ha)
    clear hl ha HR
    go_wp2_with fail
    go_ret
    exact ⟨(by rw [E.out]; first | done | rfl), by rw [E.out]; exact HR2.out.1, HR2.out.2⟩
  have E := Lib.hid (H5.out hok k1 k2 k3 k4)
  clear H0 H1 H2 H3 H4 H5 hok HPr2 HDo HWr HSw
  go_wp2_with fail
  go_ret
  exact ⟨(by rw [E.out]; first | done | rfl), HOld.out _ HB2.out _ E.out⟩

end

set_option maxRecDepth 20000 in
set_option maxHeartbeats 4000000 in
theorem lnew_any (W : World) : Calls Try.prog 12 #[] W fun e w' => ∃ g F, e = .returned (.pointer (some ⟨g, 0, none⟩)) ∧ LRep w' F g empty ∧ (∀ k, F k → W.heap.size ≤ k) ∧ Below W.heap.size W w' := by
  have hmm := @run_makeMap Try.prog
  go_enter Try.func12, Try.ntmps12
  go_wp2_with fail
  go_ret
  have n1 : (W.alloc (.map #[] 0)).heap.size = W.heap.size + 1 := Array.size_push ..
  have n2 : ((W.alloc (.map #[] 0)).alloc (.map #[] 0)).heap.size = W.heap.size + 1 + 1 := by exact (Array.size_push ..).trans (by rw [n1])
  have b1 : Below W.heap.size W (W.alloc (.map #[] 0)) := (Below.refl _ W).alloc (Nat.le_refl _) _
  have b2 := (Below.refl _ (W.alloc (.map #[] 0))).alloc (Nat.le_refl _) (.map #[] 0)
  have b3 := (Below.refl _ ((W.alloc (.map #[] 0)).alloc (.map #[] 0))).alloc (Nat.le_refl _) (.cells #[.map (some W.heap.size), .map (some (W.heap.size + 1)), .slice none 0 0, .int .i64 0] 59)
  have m1 := mapIs_made strQ W
  have m2 := mapIs_made intQ (W.alloc (.map #[] 0))
  have c1 := (blk1 ((W.alloc (.map #[] 0)).alloc (.map #[] 0)) (.cells #[.map (some W.heap.size), .map (some (W.heap.size + 1)), .slice none 0 0, .int .i64 0] 59)).2
  rw [n1] at m2 b2
  rw [n2] at c1 b3
  refine ⟨_, Mu (W.heap.size + 1 + 1) W.heap.size (W.heap.size + 1) (.slice none 0 0), rfl, ⟨_, _, _, [], [], c1, ?_, ?_, ⟨rfl, .inl ?_⟩, fun _ => rfl, by simp, by simp, rfl, rfl, by omega, fun _ h => h, by simp, by simp, ?_⟩, ?_, ?_⟩
  · exact (m1.kept (b2.block _ (by omega))).kept (b3.block _ (by omega))
  · exact m2.kept (b3.block _ (by omega))
  · exact ⟨rfl, rfl⟩
  · rintro k (h | h | h | h)
    · have n3 : (((W.alloc (.map #[] 0)).alloc (.map #[] 0)).alloc (.cells #[.map (some W.heap.size), .map (some (W.heap.size + 1)), .slice none 0 0, .int .i64 0] 59)).heap.size = W.heap.size + 1 + 1 + 1 := (Array.size_push ..).trans (by rw [n2])
      omega
    · have n3 : (((W.alloc (.map #[] 0)).alloc (.map #[] 0)).alloc (.cells #[.map (some W.heap.size), .map (some (W.heap.size + 1)), .slice none 0 0, .int .i64 0] 59)).heap.size = W.heap.size + 1 + 1 + 1 := (Array.size_push ..).trans (by rw [n2])
      omega
    · have n3 : (((W.alloc (.map #[] 0)).alloc (.map #[] 0)).alloc (.cells #[.map (some W.heap.size), .map (some (W.heap.size + 1)), .slice none 0 0, .int .i64 0] 59)).heap.size = W.heap.size + 1 + 1 + 1 := (Array.size_push ..).trans (by rw [n2])
      omega
    · cases h
  · rintro k (h | h | h | h)
    · omega
    · omega
    · omega
    · cases h
  · exact b1.trans ((b2.mono (by omega)).trans (b3.mono (by omega)))

end Sh
end Go.Proofs.Ytiobhbagjokpcaa

/- The laws over the landed shelf: a shelf that was made; the chapter's example; no condition but the range. -/
namespace Go.Proofs.Ytiobhbagjokpcaa
namespace Sh
open Go.RowKit Bk Ch Lt Rc Tr

attribute [local go_sem ↓] Go.wp_at_zero Go.wp_at_succ
attribute [local go_sem] floatUpon pick

/-- a landed shelf of the call's own -/
structure Live (W w : World) (g : Nat) (F : Nat → Prop) (s : Shf) : Prop where
  rep : LRep w F g s
  ok : ShOk s
  new : ∀ k, F k → W.heap.size ≤ k
  bel : Below W.heap.size W w

theorem Live.step {W w w' : World} {g : Nat} {F : Nat → Prop} {s s' : Shf} (h : Live W w g F s) (hr : LRep w' (Gr F w w') g s') (ho : ShOk s') (hf : Far F w w') : Live W w' g (Gr F w w') s' :=
  ⟨hr, ho, fun k hk => hk.elim (h.new k) (fun h1 => Nat.le_trans h.bel.size h1.1),
   h.bel.trans ⟨hf.st.os, hf.st.tape, hf.st.output, hf.size, fun k hk => hf.block k (Nat.lt_of_lt_of_le hk h.bel.size) (fun hF => by have := h.new k hF; omega)⟩⟩

theorem Live.below {W w w' : World} {g : Nat} {F : Nat → Prop} {s : Shf} (h : Live W w g F s) (hb : Below w.heap.size w w') : Live W w' g F s :=
  ⟨h.rep.below hb, h.ok, h.new, h.bel.trans (hb.mono h.bel.size)⟩

set_option maxRecDepth 20000 in
set_option maxHeartbeats 4000000 in
theorem made_any (W : World) (v : Value) (L : List RI) (hv : RecsOf W v L) :
    Calls Try.prog 5 #[v] W fun e w' => ∃ g F s, e = .returned (.pointer (some ⟨g, 0, none⟩)) ∧ Live W w' g F s := by
  obtain ⟨A, c, rfl, hat, hl16, hok⟩ := hv
  have rb : reachBytes = 140737488351232 := rfl
  have hlen : (L.length : Int) ≤ 9223372036854775807 := by omega
  have HAt := Lib.hid hat
  have HOk := Lib.hid hok
  have HNew := Lib.hid (lnew_any W)
  clear hat hok hl16 rb
  go_enter Try.func5, Try.ntmps5
  go_wp2_with fail
  refine HNew.out.mono ?_
  rintro e1 w1 ⟨g, F, rfl, hr, hF, hb⟩
  have HLv : Hid (Live W w1 g F empty) := Lib.hid ⟨hr, ok_empty, hF, hb⟩
  clear hr hF hb HNew
  go_wp2_with fail
  go_loopw [4] (fun iv wr => ∃ (j : Nat) (F : Nat → Prop) (s : Shf), j ≤ L.length ∧ j ≤ 60 ∧ iv = .int .i64 (j : Int) ∧ Hid (Live W wr g F s)) (fun iv _ => L.length - (RowKit.intOf iv).toNat)
  case atStart => exact ⟨0, F, empty, by omega, by omega, rfl, HLv⟩
  case round =>
    obtain ⟨j, F, s, hj, hj2, rfl, hL⟩ := hrel
    clear HLv
    by_cases hlt : j < L.length ∧ j < 60
    · obtain ⟨hlt, hlt2⟩ := hlt
      have pj : (j : Int) < (L.length : Int) := by omega
      have pj2 : (j : Int) < 60 := by omega
      obtain ⟨ad, rfl, hab, hc⟩ := HAt.out (by omega)
      have hc2 := hc j hlt
      have hval := HOk.out _ (List.getElem_mem hlt)
      generalize L[j] = X at hc2 hval
      have HX : Hid (∀ V, Below W.heap.size W V → ∀ (q : Nat) (v : Value), (rcs X)[q]? = some v → V.cell? (ad.add (j * 9 + q)) = some v) := Lib.hid (fun V hb q v hq => by
        rw [cell_kept hb _ (by rw [st_block]; exact hab)]
        exact hc2 q v hq)
      have HAp := Lib.hid (show Calls Try.prog 11 #[.pointer (some ⟨g, 0, none⟩), .agg (rcs X).toArray] wr (fun e w' => e = .returned (.int .i64 (applyP s X.l).2) ∧ LRep w' (Gr F wr w') g (applyP s X.l).1 ∧ Far F wr w') from by
        obtain ⟨bc, bp, v, K, P, h⟩ := hL.out.rep
        exact lapply_any h hL.out.ok X (hval.below hL.out.bel))
      have x0 := HX.out _ hL.out.bel 0 _ rfl
      have x1 := HX.out _ hL.out.bel 1 _ rfl
      have x2 := HX.out _ hL.out.bel 2 _ rfl
      have x3 := HX.out _ hL.out.bel 3 _ rfl
      have x4 := HX.out _ hL.out.bel 4 _ rfl
      have x5 := HX.out _ hL.out.bel 5 _ rfl
      have x6 := HX.out _ hL.out.bel 6 _ rfl
      have x7 := HX.out _ hL.out.bel 7 _ rfl
      have x8 := HX.out _ hL.out.bel 8 _ rfl
      rw [← Lt.add_field _ _ _ (by omega)] at x1 x2 x3 x4 x5 x6 x7 x8
      rw [Nat.add_zero] at x0
      clear hc hc2 hval hab
      unfold rcs at HAp
      go_wp2_with fail
      refine HAp.out.mono ?_
      rintro e w2 ⟨rfl, hr, hf⟩
      have HL2 := Lib.hid (hL.out.step hr (apply_ok hL.out.ok _) hf)
      clear hr hf x0 x1 x2 x3 x4 x5 x6 x7 x8 HAp
      go_wp2_with fail
      go_roundw
      case rel => exact ⟨j + 1, _, _, by omega, by omega, by go_num, HL2⟩
      case measure => simp [RowKit.intOf]; omega
    · have hx := hL
      by_cases hlt1 : j < L.length
      · have pj : (j : Int) < (L.length : Int) := by omega
        have pj2 : ¬ (j : Int) < 60 := by omega
        go_wp2_with fail
        go_ret
        exact ⟨g, rfl, F, s, hx.out⟩
      · have pj : ¬ (j : Int) < (L.length : Int) := by omega
        go_wp2_with fail
        go_ret
        exact ⟨g, rfl, F, s, hx.out⟩

end Sh
end Go.Proofs.Ytiobhbagjokpcaa

/- The chapter's example of shelves, in plain terms; no condition. -/
namespace Go.Proofs.Ytiobhbagjokpcaa
namespace Sh
open Ch Rc Lt

def kB : ByteArray := ⟨#[107]⟩
def xB : ByteArray := ⟨#[120]⟩
def exP : Rec := ⟨1, 5, 0, 0, ⟨#[]⟩, ⟨#[]⟩, false, [], [⟨kB, xB, false⟩]⟩
def ex1 : Shf := ⟨[], [exP], [], 0⟩
def ex2 : Shf := ⟨[⟨kB, [⟨9, xB, false⟩]⟩], [], [(5, 9)], 0⟩

theorem exP_ok : RecOk exP := by
  refine ⟨⟨.inr ?_, ?_, ?_, ?_⟩, (Rc.kind_1 rfl).2 ?_⟩
  · exact (by decide : txnOk 5)
  · exact (by decide : stampOk 0)
  · decide
  · decide
  · refine ⟨⟨rfl, rfl, rfl⟩, by decide, by decide, Rises.nil, by decide, fun x hx => ?_, fun i hi => ?_⟩
    · obtain rfl : x = ⟨kB, xB, false⟩ := by simpa [exP] using hx
      exact (by decide : wrOk ⟨kB, xB, false⟩)
    · obtain rfl : i = 0 := by simp [exP] at hi; exact hi
      exact ⟨(by decide : keyOk kB), fun h => absurd h (by omega)⟩

theorem ex_prep : applyP empty exP = (ex1, 0) := by
  rw [apply_prep exP_ok rfl]
  rfl

theorem ex_do : applyP ex1 (doR (5, 9)) = (ex2, 0) := by
  rw [apply_do (by decide) (by decide)]
  rfl

theorem ex_r1 : readP ex1 kB 9 = (3, noVr) := by rfl
theorem ex_r2 : readP ex2 kB 9 = (1, ⟨9, xB, false⟩) := by rfl
theorem ex_r3 : readP ex2 kB 8 = (0, noVr) := by rfl
theorem ex_st : stateP ex2 5 = (2, 9) := by rfl

end Sh
end Go.Proofs.Ytiobhbagjokpcaa

/- The chapter's example, as the laws ask it; no condition but the range. -/
namespace Go.Proofs.Ytiobhbagjokpcaa
namespace Sh
open Go.RowKit Bk Ch Lt Rc Tr

attribute [local go_sem ↓] Go.wp_at_zero Go.wp_at_succ
attribute [local go_sem] floatUpon pick

theorem Live.apply {W w : World} {g : Nat} {F : Nat → Prop} {s : Shf} (h : Live W w g F s) (x : RI) (hv : RecVal w x.A x.B x.c x.d x.l) :
    Calls Try.prog 11 #[.pointer (some ⟨g, 0, none⟩), .agg (rcs x).toArray] w fun e w' => e = .returned (.int .i64 (applyP s x.l).2) ∧ Live W w' g (Gr F w w') (applyP s x.l).1 ∧ Far F w w' := by
  obtain ⟨bc, bp, v, K, P, hl⟩ := h.rep
  refine (lapply_any hl h.ok x hv).mono ?_
  rintro e w' ⟨rfl, hr, hf⟩
  exact ⟨rfl, h.step hr (apply_ok h.ok _) hf, hf⟩

theorem Live.read {W w : World} {g : Nat} {F : Nat → Prop} {s : Shf} (h : Live W w g F s) (key : ByteArray) (t : Int) (hk : key.size ≤ maxLen) :
    Calls Try.prog 9 #[.pointer (some ⟨g, 0, none⟩), .string key, .int .i64 t] w fun e w' => e = .returned (.tuple #[.int .i64 (readP s key t).1, .agg (vcs (readP s key t).2).toArray]) ∧ Live W w' g F s ∧ Below w.heap.size w w' := by
  obtain ⟨bc, bp, v, K, P, hl⟩ := h.rep
  refine (lread_any hl h.ok key t hk).mono ?_
  rintro e w' ⟨rfl, hb⟩
  exact ⟨rfl, h.below hb, hb⟩

theorem Live.state {W w : World} {g : Nat} {F : Nat → Prop} {s : Shf} (h : Live W w g F s) (txn : Int) (h1 : -9223372036854775808 ≤ txn) (h2 : txn ≤ 9223372036854775807) :
    Calls Try.prog 13 #[.pointer (some ⟨g, 0, none⟩), .int .i64 txn] w fun e w' => e = .returned (.tuple #[.int .i64 (stateP s txn).1, .int .i64 (stateP s txn).2]) ∧ Live W w' g F s ∧ Below w.heap.size w w' := by
  obtain ⟨bc, bp, v, K, P, hl⟩ := h.rep
  refine (lstate_any hl h.ok txn h1 h2).mono ?_
  rintro e w' ⟨rfl, hb⟩
  exact ⟨rfl, h.below hb, hb⟩

theorem Live.lt {W w : World} {g : Nat} {F : Nat → Prop} {s : Shf} (h : Live W w g F s) : ∀ k, F k → k < w.heap.size := by
  obtain ⟨bc, bp, v, K, P, hl⟩ := h.rep
  exact hl.fl

theorem Live.since {V W w : World} {g : Nat} {F : Nat → Prop} {s : Shf} (h : Live W w g F s) (hb : Below V.heap.size V W) : Live V w g F s :=
  ⟨h.rep, h.ok, fun k hk => Nat.le_trans hb.size (h.new k hk), hb.trans (h.bel.mono hb.size)⟩

theorem exP_val (W : World) : RecVal (W.alloc (.cells #[.string kB, .string xB, .bool false] 36)) none (some ⟨W.heap.size, 0, none⟩) 0 1 exP := by
  exact ⟨fun h => absurd h (by decide), one_wr W kB xB false, ⟨exP_ok.rng, Nat.le_refl _, Nat.le_refl _, Nat.zero_le _, by unfold maxLen; omega⟩, fun _ => ⟨rfl, rfl⟩, fun h => by cases h⟩

theorem doR_val (W : World) (x : Int × Int) (h1 : txnOk x.1) (h2 : stampOk x.2) : RecVal W none none 0 0 (doR x) :=
  bare_val W 2 x.1 x.2 (doR_ok h1 h2)

section
variable {W w : World} {g : Nat} {F : Nat → Prop}

theorem wk_prep (h : Live W w g F empty) :
    Calls Try.prog 11 #[.pointer (some ⟨g, 0, none⟩), .agg #[.int .i64 1, .int .i64 5, .int .i64 0, .int .i64 0, .string ⟨#[]⟩, .string ⟨#[]⟩, .bool false, .slice none 0 0, .slice (some ⟨w.heap.size, 0, none⟩) 1 1]] (w.alloc (.cells #[.string ⟨#[107]⟩, .string ⟨#[120]⟩, .bool false] 36)) fun e w' => e = .returned (.int .i64 0) ∧ Live W w' g (Gr F (w.alloc (.cells #[.string ⟨#[107]⟩, .string ⟨#[120]⟩, .bool false] 36)) w') ex1 := by
  have h1 := (h.below ((Below.refl _ w).alloc (Nat.le_refl _) (.cells #[.string kB, .string xB, .bool false] 36))).apply ⟨exP, none, some ⟨w.heap.size, 0, none⟩, 0, 1⟩ (exP_val w)
  rw [ex_prep] at h1
  exact h1.mono fun e w' h => ⟨h.1, h.2.1⟩

theorem wk_do (h : Live W w g F ex1) :
    Calls Try.prog 11 #[.pointer (some ⟨g, 0, none⟩), .agg #[.int .i64 2, .int .i64 5, .int .i64 9, .int .i64 0, .string ⟨#[]⟩, .string ⟨#[]⟩, .bool false, .slice none 0 0, .slice none 0 0]] w fun e w' => e = .returned (.int .i64 0) ∧ Live W w' g (Gr F w w') ex2 := by
  have h1 := h.apply ⟨doR (5, 9), none, none, 0, 0⟩ (doR_val w _ (by decide) (by decide))
  rw [ex_do] at h1
  exact h1.mono fun e w' h => ⟨h.1, h.2.1⟩

theorem wk_r1 (h : Live W w g F ex1) :
    Calls Try.prog 9 #[.pointer (some ⟨g, 0, none⟩), .string ⟨#[107]⟩, .int .i64 9] w fun e w' => e = .returned (.tuple #[.int .i64 3, .agg #[.int .i64 0, .string ⟨#[]⟩, .bool false]]) ∧ Live W w' g F ex1 ∧ Below w.heap.size w w' := by
  have h1 := h.read kB 9 (by decide)
  rw [ex_r1] at h1
  exact h1

theorem wk_r2 (h : Live W w g F ex2) :
    Calls Try.prog 9 #[.pointer (some ⟨g, 0, none⟩), .string ⟨#[107]⟩, .int .i64 9] w fun e w' => e = .returned (.tuple #[.int .i64 1, .agg #[.int .i64 9, .string ⟨#[120]⟩, .bool false]]) ∧ Live W w' g F ex2 ∧ Below w.heap.size w w' := by
  have h1 := h.read kB 9 (by decide)
  rw [ex_r2] at h1
  exact h1

theorem wk_r3 (h : Live W w g F ex2) :
    Calls Try.prog 9 #[.pointer (some ⟨g, 0, none⟩), .string ⟨#[107]⟩, .int .i64 8] w fun e w' => e = .returned (.tuple #[.int .i64 0, .agg #[.int .i64 0, .string ⟨#[]⟩, .bool false]]) ∧ Live W w' g F ex2 ∧ Below w.heap.size w w' := by
  have h1 := h.read kB 8 (by decide)
  rw [ex_r3] at h1
  exact h1

theorem wk_st (h : Live W w g F ex2) :
    Calls Try.prog 13 #[.pointer (some ⟨g, 0, none⟩), .int .i64 5] w fun e w' => e = .returned (.tuple #[.int .i64 2, .int .i64 9]) ∧ Live W w' g F ex2 ∧ Below w.heap.size w w' := by
  have h1 := h.state 5 (by omega) (by omega)
  rw [ex_st] at h1
  exact h1

end

set_option maxRecDepth 20000 in
set_option maxHeartbeats 4000000 in
theorem works_any (W : World) :
    Calls Try.prog 6 #[] W fun e w' => e = .returned (.bool true) ∧ Below W.heap.size W w' := by
  have HNew := Lib.hid (lnew_any W)
  go_enter Try.func6, Try.ntmps6
  go_wp2_with fail
  refine HNew.out.mono ?_
  rintro e1 w1 ⟨g, F, rfl, hr, hF, hb⟩
  have HLv : Hid (Live W w1 g F empty) := Lib.hid ⟨hr, ok_empty, hF, hb⟩
  clear hr hF hb HNew
  go_wp2_with fail
  refine (wk_prep HLv.out).mono ?_
  rintro e2 w2 ⟨rfl, hl⟩
  have HL2 := Lib.hid hl
  clear hl HLv
  go_wp2_with fail
  refine (wk_r1 HL2.out).mono ?_
  rintro e3 w3 ⟨rfl, hl, -⟩
  have HL3 := Lib.hid hl
  clear hl HL2
  go_wp2_with fail
  refine (wk_do (HL3.out.below ((Below.refl _ w3).alloc (Nat.le_refl _) _))).mono ?_
  rintro e4 w4 ⟨rfl, hl⟩
  have HL4 := Lib.hid hl
  clear hl HL3
  go_wp2_with fail
  refine (wk_r2 HL4.out).mono ?_
  rintro e5 w5 ⟨rfl, hl, -⟩
  have hc : Cel (w5.alloc (.cells #[.int .i64 9, .string ⟨#[120]⟩, .bool false] 38)) w5.heap.size 38 [.int .i64 9, .string ⟨#[120]⟩, .bool false] := (blk1 w5 _).2
  have HL5 := Lib.hid (hl.below ((Below.refl _ w5).alloc (Nat.le_refl _) (.cells #[.int .i64 9, .string ⟨#[120]⟩, .bool false] 38)))
  clear hl HL4
  go_upto_region 8 with fail
  have hsz : w5.heap.size < (w5.alloc (.cells #[.int .i64 9, .string ⟨#[120]⟩, .bool false] 38)).heap.size := by simp
  generalize w5.alloc (.cells #[.int .i64 9, .string ⟨#[120]⟩, .bool false] 38) = W5 at hc HL5 hsz ⊢
  have HC := Lib.hid hc
  clear hc hsz
  go_wp2_with fail
  refine (wk_r3 HL5.out).mono ?_
  rintro e6 w6 ⟨rfl, hl, hb⟩
  have HL6 := Lib.hid (hl.below ((Below.refl _ w6).alloc (Nat.le_refl _) (.cells #[.int .i64 0, .string ⟨#[]⟩, .bool false] 38)))
  have HC6 := Lib.hid ((HC.out.below hb).below ((Below.refl _ w6).alloc (Nat.le_refl _) (.cells #[.int .i64 0, .string ⟨#[]⟩, .bool false] 38)))
  clear hl HL5 HC hb
  go_wp2_with fail
  refine (wk_st HL6.out).mono ?_
  rintro e7 w7 ⟨rfl, hl, hb⟩
  have q1 := (HC6.out.below hb).cell (i := 1) rfl
  have HB7 := Lib.hid hl.bel
  clear hl HL6 HC6 hb
  go_wp2_with fail
  go_ret
  exact ⟨rfl, HB7.out⟩

end Sh
end Go.Proofs.Ytiobhbagjokpcaa
