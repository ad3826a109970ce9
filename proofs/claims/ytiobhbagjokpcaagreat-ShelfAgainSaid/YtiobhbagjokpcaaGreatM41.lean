/- Parts of the proof, joined: RcDone2; their conditions stand with each. -/
import Derived.Test.YtiobhbagjokpcaaGreatM37
import Derived.Test.YtiobhbagjokpcaaGreatM40

/- What the landed package's asPrepared, hasWhatItMust, mayBe and Check answer; contracts; no condition but the range. -/
namespace Go.Proofs.YtiobhbagjokpcaaGreat
namespace Rc
open Go.RowKit Bk Lt

attribute [local go_sem ↓] Go.wp_at_zero Go.wp_at_succ
attribute [local go_sem] floatUpon pick

/-- the letter that keys and writes are held against -/
def prepL (ks : List ByteArray) (ws : List Wr) : Let := ⟨3, 0, 0, 1125899906842623, 0, 0, ⟨#[]⟩, ks, ws⟩
noncomputable def prepB (ks : List ByteArray) (ws : List Wr) : Bool := Lt.okB (prepL ks ws)

theorem prep_iff (ks : List ByteArray) (ws : List Wr) : prepB ks ws = true ↔ ks.length ≤ 16 ∧ Rises ks ∧ WritesOk ws := by
  unfold prepB
  constructor
  · intro h
    have h2 : LetOk (prepL ks ws) := Classical.byContradiction fun hn => by rw [Lt.okB_false hn] at h; cases h
    obtain ⟨_, hk⟩ := h2
    obtain ⟨k1, k2, k3, _, _⟩ := (Lt.kind_3 (l := prepL ks ws) rfl).1 hk
    exact ⟨k1, k2, k3⟩
  · rintro ⟨h1, h2, h3⟩
    refine Lt.okB_true ⟨⟨?_, ?_, ?_, ?_, ?_, ?_⟩, (Lt.kind_3 (l := prepL ks ws) rfl).2 ⟨h1, h2, h3, rfl, rfl⟩⟩
    · show addr 0; decide
    · show addr 0; decide
    · show txnOk 1125899906842623; decide
    · show stampOk 0; decide
    · show (0 : Int) ≤ 0; decide
    · show (0 : Int) ≤ 4; decide

theorem prep_one (k t : ByteArray) (d : Bool) : prepB [] [⟨k, t, d⟩] = true ↔ keyOk k ∧ t.size ≤ 2052 ∧ (d = false ∨ t = ⟨#[]⟩) := by
  rw [prep_iff]
  unfold WritesOk wrOk
  constructor
  · rintro ⟨_, _, _, h2, h3⟩
    obtain ⟨h4, h5⟩ := h2 _ (List.mem_singleton.2 rfl)
    refine ⟨Lt.rises_one.1 h3, h4, ?_⟩
    cases d with
    | false => exact .inl rfl
    | true => exact .inr (Classical.byContradiction fun h => h5 ⟨rfl, h⟩)
  · rintro ⟨h1, h2, h3⟩
    refine ⟨by simp, Rises.nil, by simp, fun x hx => ?_, Lt.rises_one.2 h1⟩
    rw [List.mem_singleton] at hx
    subst hx
    refine ⟨h2, fun h => ?_⟩
    rcases h3 with h3 | h3
    · have := h.1; rw [h3] at this; cases this
    · exact h.2 h3

theorem prep_rng {ks : List ByteArray} {ws : List Wr} (h1 : ks.length * 16 ≤ reachBytes) (h2 : ws.length * 16 ≤ reachBytes) (h3 : ∀ s ∈ ks, s.size ≤ reachBytes) (h4 : ∀ x ∈ ws, x.key.size ≤ reachBytes ∧ x.shard.size ≤ reachBytes) : LetRng (prepL ks ws) := by
  refine ⟨?_, ?_, ?_, ?_, ?_, ?_, Nat.zero_le _, h1, h2, h3, h4⟩ <;> (simp only [prepL]; omega)

set_option maxRecDepth 20000 in
set_option maxHeartbeats 4000000 in
theorem asPrepared_any (A B : Option Addr) (c d : Nat) (ks : List ByteArray) (ws : List Wr) (w : World) (ha : StrsAt w A ks) (hb : WrsAt w B ws) (h1 : ks.length * 16 ≤ reachBytes) (h2 : ws.length * 16 ≤ reachBytes) (h3 : ∀ s ∈ ks, s.size ≤ reachBytes) (h4 : ∀ x ∈ ws, x.key.size ≤ reachBytes ∧ x.shard.size ≤ reachBytes) :
    Calls Tryz.prog 116 #[.slice A ks.length c, .slice B ws.length d] w fun e w' => e = .returned (.bool (prepB ks ws)) ∧ Below w.heap.size w w' := by
  have hC := fun W (hbl : Below w.heap.size w W) => lcheck_any A B c d (prepL ks ws) W (ha.below hbl) (hb.below hbl) (prep_rng h1 h2 h3 h4)
  have hE : (((Lt.ckN (prepL ks ws) : Nat) : Int) == 0) = prepB ks ws := by
    unfold prepB
    by_cases h : LetOk (prepL ks ws)
    · rw [Lt.ckN_of h, Lt.okB_true h]; rfl
    · rw [Lt.ckN_not h, Lt.okB_false h]; rfl
  generalize ((Lt.ckN (prepL ks ws) : Nat) : Int) = n at hC hE
  generalize prepB ks ws = b at hE ⊢
  unfold letV prepL at hC
  simp only at hC
  have HC := Lib.hid hC
  clear hC ha hb h1 h2 h3 h4
  go_enter Tryz.func116, Tryz.ntmps116
  go_upto_region 2 with fail
  have hB1 : Below w.heap.size w (w.alloc (.cells #[.int .i64 3, .int .i64 0, .int .i64 0, .int .i64 1125899906842623, .int .i64 0, .int .i64 0, .string ⟨#[]⟩, .slice A ks.length c, .slice B ws.length d] 169)) := (Below.refl _ w).alloc (Nat.le_refl _) _
  have hP1 : Cel (w.alloc (.cells #[.int .i64 3, .int .i64 0, .int .i64 0, .int .i64 1125899906842623, .int .i64 0, .int .i64 0, .string ⟨#[]⟩, .slice A ks.length c, .slice B ws.length d] 169)) w.heap.size 169 [.int .i64 3, .int .i64 0, .int .i64 0, .int .i64 1125899906842623, .int .i64 0, .int .i64 0, .string ⟨#[]⟩, .slice A ks.length c, .slice B ws.length d] := (blk1 w _).2
  generalize w.alloc (.cells #[.int .i64 3, .int .i64 0, .int .i64 0, .int .i64 1125899906842623, .int .i64 0, .int .i64 0, .string ⟨#[]⟩, .slice A ks.length c, .slice B ws.length d] 169) = W1 at hB1 hP1 ⊢
  have k0 := hP1.cell (i := 0) rfl
  have k1 := hP1.cell (i := 1) rfl
  have k2 := hP1.cell (i := 2) rfl
  have k3 := hP1.cell (i := 3) rfl
  have k4 := hP1.cell (i := 4) rfl
  have k5 := hP1.cell (i := 5) rfl
  have k6 := hP1.cell (i := 6) rfl
  have k7 := hP1.cell (i := 7) rfl
  have k8 := hP1.cell (i := 8) rfl
  have HB1 := Lib.hid hB1
  clear hB1 hP1
  go_wp2_with fail
  refine (HC.out _ HB1.out).mono ?_
  rintro e w2 ⟨rfl, hb⟩
  have HB2 := Lib.hid (HB1.out.trans (hb.mono HB1.out.size))
  clear hb HC
  go_wp2_with fail
  go_ret
  exact ⟨by rw [← hE]; rfl, HB2.out⟩

/-- what the kind asks for -/
noncomputable def must (r : Rec) : Bool :=
  if r.kind = 1 then (r.txn != 0) && prepB r.keys r.ws else
  if r.kind = 2 ∨ r.kind = 6 then r.txn != 0 else
  if r.kind = 3 then (r.ts != 0) && prepB [] [⟨r.key, r.text, r.dead⟩] else
  if r.kind = 5 then (r.txn != 0) && (r.ts != 0) else
  if r.kind = 7 then r.ts != 0 else true

theorem one_wr {W : World} {g : Nat} {k t : ByteArray} {d : Bool} (h : Cel W g 45 [.string k, .string t, .bool d]) : WrsAt W (some ⟨g, 0, none⟩) [⟨k, t, d⟩] := fun _ => by
  refine ⟨_, rfl, h.lt, fun i hi => ?_⟩
  have hi2 : i < 1 := hi
  obtain rfl : i = 0 := by omega
  rw [add_zero', show (⟨g, 0, none⟩ : Addr).add (0 * 3 + 1) = ⟨g, 1, none⟩ from rfl, show (⟨g, 0, none⟩ : Addr).add (0 * 3 + 2) = ⟨g, 2, none⟩ from rfl]
  exact ⟨h.cell (i := 0) rfl, h.cell (i := 1) rfl, h.cell (i := 2) rfl⟩

set_option maxRecDepth 20000 in
set_option maxHeartbeats 4000000 in
theorem must_1 (A B : Option Addr) (c d : Nat) (r : Rec) (hk : r.kind = 1) (w : World) (ha : StrsAt w A r.keys) (hb : WrsAt w B r.ws) (hr : RecRng r) :
    Calls Tryz.prog 93 #[recV r A B c d] w fun e w' => e = .returned (.bool (must r)) ∧ Below w.heap.size w w' := by
  have E := Lib.hid (show must r = ((r.txn != 0) && prepB r.keys r.ws) from by unfold must; simp [hk])
  rw [E.out]
  have HP := Lib.hid (fun W (hbl : Below w.heap.size w W) => asPrepared_any A B c d r.keys r.ws W (ha.below hbl) (hb.below hbl) hr.k16 (by have := hr.w40; omega) hr.kr hr.wr)
  unfold recV
  rw [hk]
  clear ha hb hr hk E
  go_enter Tryz.func93, Tryz.ntmps93
  go_upto_region 1 with fail
  have hB1 : Below w.heap.size w (w.alloc (.cells #[.int .i64 1, .int .i64 r.txn, .int .i64 r.ts, .int .i64 r.coord, .string r.key, .string r.text, .bool r.dead, .slice A r.keys.length c, .slice B r.ws.length d] 37)) := (Below.refl _ w).alloc (Nat.le_refl _) _
  have hP1 : Cel (w.alloc (.cells #[.int .i64 1, .int .i64 r.txn, .int .i64 r.ts, .int .i64 r.coord, .string r.key, .string r.text, .bool r.dead, .slice A r.keys.length c, .slice B r.ws.length d] 37)) w.heap.size 37 [.int .i64 1, .int .i64 r.txn, .int .i64 r.ts, .int .i64 r.coord, .string r.key, .string r.text, .bool r.dead, .slice A r.keys.length c, .slice B r.ws.length d] := (blk1 w _).2
  generalize w.alloc (.cells #[.int .i64 1, .int .i64 r.txn, .int .i64 r.ts, .int .i64 r.coord, .string r.key, .string r.text, .bool r.dead, .slice A r.keys.length c, .slice B r.ws.length d] 37) = W1 at hB1 hP1 ⊢
  have k0 := hP1.cell (i := 0) rfl
  have k1 := hP1.cell (i := 1) rfl
  have k2 := hP1.cell (i := 2) rfl
  have k3 := hP1.cell (i := 3) rfl
  have k4 := hP1.cell (i := 4) rfl
  have k5 := hP1.cell (i := 5) rfl
  have k6 := hP1.cell (i := 6) rfl
  have k7 := hP1.cell (i := 7) rfl
  have k8 := hP1.cell (i := 8) rfl
  have HB1 := Lib.hid hB1
  have HP1 := Lib.hid hP1
  clear hB1 hP1
  by_cases h0 : r.txn = 0
  · have q0 : (r.txn != 0) = false := by simp [h0]
    have E := Lib.hid q0
    clear h0
    go_wp2_with fail
    go_ret
    exact ⟨by rw [E.out]; rfl, HB1.out⟩
  · have q0 : (r.txn != 0) = true := by simp [h0]
    have E := Lib.hid q0
    clear h0
    go_wp2_with fail
    refine (HP.out _ HB1.out).mono ?_
    rintro e w2 ⟨rfl, hb⟩
    have HB2 := Lib.hid (HB1.out.trans (hb.mono HB1.out.size))
    clear hb HP
    go_wp2_with fail
    go_ret
    exact ⟨by rw [E.out, Bool.true_and]; rfl, HB2.out⟩

set_option maxRecDepth 20000 in
set_option maxHeartbeats 4000000 in
theorem must_2 (A B : Option Addr) (c d : Nat) (r : Rec) (hk : r.kind = 2) (w : World) :
    Calls Tryz.prog 93 #[recV r A B c d] w fun e w' => e = .returned (.bool (must r)) ∧ Below w.heap.size w w' := by
  have E := Lib.hid (show must r = (r.txn != 0) from by unfold must; simp [hk])
  rw [E.out]
  unfold recV
  rw [hk]
  clear hk E
  go_enter Tryz.func93, Tryz.ntmps93
  go_upto_region 1 with fail
  have hB1 : Below w.heap.size w (w.alloc (.cells #[.int .i64 2, .int .i64 r.txn, .int .i64 r.ts, .int .i64 r.coord, .string r.key, .string r.text, .bool r.dead, .slice A r.keys.length c, .slice B r.ws.length d] 37)) := (Below.refl _ w).alloc (Nat.le_refl _) _
  have hP1 : Cel (w.alloc (.cells #[.int .i64 2, .int .i64 r.txn, .int .i64 r.ts, .int .i64 r.coord, .string r.key, .string r.text, .bool r.dead, .slice A r.keys.length c, .slice B r.ws.length d] 37)) w.heap.size 37 [.int .i64 2, .int .i64 r.txn, .int .i64 r.ts, .int .i64 r.coord, .string r.key, .string r.text, .bool r.dead, .slice A r.keys.length c, .slice B r.ws.length d] := (blk1 w _).2
  generalize w.alloc (.cells #[.int .i64 2, .int .i64 r.txn, .int .i64 r.ts, .int .i64 r.coord, .string r.key, .string r.text, .bool r.dead, .slice A r.keys.length c, .slice B r.ws.length d] 37) = W1 at hB1 hP1 ⊢
  have k0 := hP1.cell (i := 0) rfl
  have k1 := hP1.cell (i := 1) rfl
  have k2 := hP1.cell (i := 2) rfl
  have k3 := hP1.cell (i := 3) rfl
  have k4 := hP1.cell (i := 4) rfl
  have k5 := hP1.cell (i := 5) rfl
  have k6 := hP1.cell (i := 6) rfl
  have k7 := hP1.cell (i := 7) rfl
  have k8 := hP1.cell (i := 8) rfl
  have HB1 := Lib.hid hB1
  have HP1 := Lib.hid hP1
  clear hB1 hP1
  by_cases h0 : r.txn = 0
  · have q0 : (r.txn != 0) = false := by simp [h0]
    have E := Lib.hid q0
    clear h0
    go_wp2_with fail
    go_ret
    exact ⟨by rw [E.out]; rfl, HB1.out⟩
  · have q0 : (r.txn != 0) = true := by simp [h0]
    have E := Lib.hid q0
    clear h0
    go_wp2_with fail
    go_ret
    exact ⟨by rw [E.out]; rfl, HB1.out⟩

set_option maxRecDepth 20000 in
set_option maxHeartbeats 4000000 in
theorem must_6 (A B : Option Addr) (c d : Nat) (r : Rec) (hk : r.kind = 6) (w : World) :
    Calls Tryz.prog 93 #[recV r A B c d] w fun e w' => e = .returned (.bool (must r)) ∧ Below w.heap.size w w' := by
  have E := Lib.hid (show must r = (r.txn != 0) from by unfold must; simp [hk])
  rw [E.out]
  unfold recV
  rw [hk]
  clear hk E
  go_enter Tryz.func93, Tryz.ntmps93
  go_upto_region 1 with fail
  have hB1 : Below w.heap.size w (w.alloc (.cells #[.int .i64 6, .int .i64 r.txn, .int .i64 r.ts, .int .i64 r.coord, .string r.key, .string r.text, .bool r.dead, .slice A r.keys.length c, .slice B r.ws.length d] 37)) := (Below.refl _ w).alloc (Nat.le_refl _) _
  have hP1 : Cel (w.alloc (.cells #[.int .i64 6, .int .i64 r.txn, .int .i64 r.ts, .int .i64 r.coord, .string r.key, .string r.text, .bool r.dead, .slice A r.keys.length c, .slice B r.ws.length d] 37)) w.heap.size 37 [.int .i64 6, .int .i64 r.txn, .int .i64 r.ts, .int .i64 r.coord, .string r.key, .string r.text, .bool r.dead, .slice A r.keys.length c, .slice B r.ws.length d] := (blk1 w _).2
  generalize w.alloc (.cells #[.int .i64 6, .int .i64 r.txn, .int .i64 r.ts, .int .i64 r.coord, .string r.key, .string r.text, .bool r.dead, .slice A r.keys.length c, .slice B r.ws.length d] 37) = W1 at hB1 hP1 ⊢
  have k0 := hP1.cell (i := 0) rfl
  have k1 := hP1.cell (i := 1) rfl
  have k2 := hP1.cell (i := 2) rfl
  have k3 := hP1.cell (i := 3) rfl
  have k4 := hP1.cell (i := 4) rfl
  have k5 := hP1.cell (i := 5) rfl
  have k6 := hP1.cell (i := 6) rfl
  have k7 := hP1.cell (i := 7) rfl
  have k8 := hP1.cell (i := 8) rfl
  have HB1 := Lib.hid hB1
  have HP1 := Lib.hid hP1
  clear hB1 hP1
  by_cases h0 : r.txn = 0
  · have q0 : (r.txn != 0) = false := by simp [h0]
    have E := Lib.hid q0
    clear h0
    go_wp2_with fail
    go_ret
    exact ⟨by rw [E.out]; rfl, HB1.out⟩
  · have q0 : (r.txn != 0) = true := by simp [h0]
    have E := Lib.hid q0
    clear h0
    go_wp2_with fail
    go_ret
    exact ⟨by rw [E.out]; rfl, HB1.out⟩

set_option maxRecDepth 20000 in
set_option maxHeartbeats 4000000 in
theorem must_3 (A B : Option Addr) (c d : Nat) (r : Rec) (hk : r.kind = 3) (w : World) (hr : RecRng r) :
    Calls Tryz.prog 93 #[recV r A B c d] w fun e w' => e = .returned (.bool (must r)) ∧ Below w.heap.size w w' := by
  have E := Lib.hid (show must r = ((r.ts != 0) && prepB [] [⟨r.key, r.text, r.dead⟩]) from by unfold must; simp [hk])
  rw [E.out]
  have hP : ∀ W g, Cel W g 45 [.string r.key, .string r.text, .bool r.dead] → Calls Tryz.prog 116 #[.slice none 0 0, .slice (some ⟨g, 0, none⟩) 1 1] W fun e w' => e = .returned (.bool (prepB [] [⟨r.key, r.text, r.dead⟩])) ∧ Below W.heap.size W w' := fun W g hc =>
    asPrepared_any none (some ⟨g, 0, none⟩) 0 1 [] [⟨r.key, r.text, r.dead⟩] W (fun h => absurd h (by simp)) (one_wr hc) (Nat.zero_le _) (by show 1 * 16 ≤ _; unfold reachBytes; omega) (fun s h => absurd h (by simp)) (fun x hx => by rw [List.mem_singleton] at hx; subst hx; exact ⟨hr.key, hr.text⟩)
  have HP := Lib.hid hP
  clear hP
  unfold recV
  rw [hk]
  clear hr hk E
  go_enter Tryz.func93, Tryz.ntmps93
  go_upto_region 1 with fail
  have hB1 : Below w.heap.size w (w.alloc (.cells #[.int .i64 3, .int .i64 r.txn, .int .i64 r.ts, .int .i64 r.coord, .string r.key, .string r.text, .bool r.dead, .slice A r.keys.length c, .slice B r.ws.length d] 37)) := (Below.refl _ w).alloc (Nat.le_refl _) _
  have hP1 : Cel (w.alloc (.cells #[.int .i64 3, .int .i64 r.txn, .int .i64 r.ts, .int .i64 r.coord, .string r.key, .string r.text, .bool r.dead, .slice A r.keys.length c, .slice B r.ws.length d] 37)) w.heap.size 37 [.int .i64 3, .int .i64 r.txn, .int .i64 r.ts, .int .i64 r.coord, .string r.key, .string r.text, .bool r.dead, .slice A r.keys.length c, .slice B r.ws.length d] := (blk1 w _).2
  generalize w.alloc (.cells #[.int .i64 3, .int .i64 r.txn, .int .i64 r.ts, .int .i64 r.coord, .string r.key, .string r.text, .bool r.dead, .slice A r.keys.length c, .slice B r.ws.length d] 37) = W1 at hB1 hP1 ⊢
  have k0 := hP1.cell (i := 0) rfl
  have k1 := hP1.cell (i := 1) rfl
  have k2 := hP1.cell (i := 2) rfl
  have k3 := hP1.cell (i := 3) rfl
  have k4 := hP1.cell (i := 4) rfl
  have k5 := hP1.cell (i := 5) rfl
  have k6 := hP1.cell (i := 6) rfl
  have k7 := hP1.cell (i := 7) rfl
  have k8 := hP1.cell (i := 8) rfl
  have HB1 := Lib.hid hB1
  have HP1 := Lib.hid hP1
  clear hB1 hP1
  by_cases h0 : r.ts = 0
  · have q0 : (r.ts != 0) = false := by simp [h0]
    have E := Lib.hid q0
    clear h0
    go_wp2_with fail
    go_ret
    exact ⟨by rw [E.out]; rfl, HB1.out⟩
  · have q0 : (r.ts != 0) = true := by simp [h0]
    have E := Lib.hid q0
    clear h0
    go_wp2_with fail
    refine (HP.out _ _ (blk1 W1 _).2).mono ?_
    rintro e w2 ⟨rfl, hb⟩
    have HB2 := Lib.hid ((HB1.out.alloc HB1.out.size _).trans (hb.mono (HB1.out.alloc HB1.out.size _).size))
    clear hb HP
    go_wp2_with fail
    go_ret
    exact ⟨by rw [E.out, Bool.true_and]; rfl, HB2.out⟩

set_option maxRecDepth 20000 in
set_option maxHeartbeats 4000000 in
theorem must_5 (A B : Option Addr) (c d : Nat) (r : Rec) (hk : r.kind = 5) (w : World) :
    Calls Tryz.prog 93 #[recV r A B c d] w fun e w' => e = .returned (.bool (must r)) ∧ Below w.heap.size w w' := by
  have E := Lib.hid (show must r = ((r.txn != 0) && (r.ts != 0)) from by unfold must; simp [hk])
  rw [E.out]
  unfold recV
  rw [hk]
  clear hk E
  go_enter Tryz.func93, Tryz.ntmps93
  go_upto_region 1 with fail
  have hB1 : Below w.heap.size w (w.alloc (.cells #[.int .i64 5, .int .i64 r.txn, .int .i64 r.ts, .int .i64 r.coord, .string r.key, .string r.text, .bool r.dead, .slice A r.keys.length c, .slice B r.ws.length d] 37)) := (Below.refl _ w).alloc (Nat.le_refl _) _
  have hP1 : Cel (w.alloc (.cells #[.int .i64 5, .int .i64 r.txn, .int .i64 r.ts, .int .i64 r.coord, .string r.key, .string r.text, .bool r.dead, .slice A r.keys.length c, .slice B r.ws.length d] 37)) w.heap.size 37 [.int .i64 5, .int .i64 r.txn, .int .i64 r.ts, .int .i64 r.coord, .string r.key, .string r.text, .bool r.dead, .slice A r.keys.length c, .slice B r.ws.length d] := (blk1 w _).2
  generalize w.alloc (.cells #[.int .i64 5, .int .i64 r.txn, .int .i64 r.ts, .int .i64 r.coord, .string r.key, .string r.text, .bool r.dead, .slice A r.keys.length c, .slice B r.ws.length d] 37) = W1 at hB1 hP1 ⊢
  have k0 := hP1.cell (i := 0) rfl
  have k1 := hP1.cell (i := 1) rfl
  have k2 := hP1.cell (i := 2) rfl
  have k3 := hP1.cell (i := 3) rfl
  have k4 := hP1.cell (i := 4) rfl
  have k5 := hP1.cell (i := 5) rfl
  have k6 := hP1.cell (i := 6) rfl
  have k7 := hP1.cell (i := 7) rfl
  have k8 := hP1.cell (i := 8) rfl
  have HB1 := Lib.hid hB1
  have HP1 := Lib.hid hP1
  clear hB1 hP1
  by_cases h0 : r.txn = 0
  · have q0 : (r.txn != 0) = false := by simp [h0]
    have E := Lib.hid q0
    clear h0
    go_wp2_with fail
    go_ret
    exact ⟨by rw [E.out]; rfl, HB1.out⟩
  · have q0 : (r.txn != 0) = true := by simp [h0]
    have E := Lib.hid q0
    clear h0
    have E2 := E
    clear E
    by_cases h1 : r.ts = 0
    · have q1 : (r.ts != 0) = false := by simp [h1]
      have E := Lib.hid q1
      clear h1
      go_wp2_with fail
      go_ret
      exact ⟨by rw [E.out, E2.out]; rfl, HB1.out⟩
    · have q1 : (r.ts != 0) = true := by simp [h1]
      have E := Lib.hid q1
      clear h1
      go_wp2_with fail
      go_ret
      exact ⟨by rw [E.out, E2.out]; rfl, HB1.out⟩

set_option maxRecDepth 20000 in
set_option maxHeartbeats 4000000 in
theorem must_7 (A B : Option Addr) (c d : Nat) (r : Rec) (hk : r.kind = 7) (w : World) :
    Calls Tryz.prog 93 #[recV r A B c d] w fun e w' => e = .returned (.bool (must r)) ∧ Below w.heap.size w w' := by
  have E := Lib.hid (show must r = (r.ts != 0) from by unfold must; simp [hk])
  rw [E.out]
  unfold recV
  rw [hk]
  clear hk E
  go_enter Tryz.func93, Tryz.ntmps93
  go_upto_region 1 with fail
  have hB1 : Below w.heap.size w (w.alloc (.cells #[.int .i64 7, .int .i64 r.txn, .int .i64 r.ts, .int .i64 r.coord, .string r.key, .string r.text, .bool r.dead, .slice A r.keys.length c, .slice B r.ws.length d] 37)) := (Below.refl _ w).alloc (Nat.le_refl _) _
  have hP1 : Cel (w.alloc (.cells #[.int .i64 7, .int .i64 r.txn, .int .i64 r.ts, .int .i64 r.coord, .string r.key, .string r.text, .bool r.dead, .slice A r.keys.length c, .slice B r.ws.length d] 37)) w.heap.size 37 [.int .i64 7, .int .i64 r.txn, .int .i64 r.ts, .int .i64 r.coord, .string r.key, .string r.text, .bool r.dead, .slice A r.keys.length c, .slice B r.ws.length d] := (blk1 w _).2
  generalize w.alloc (.cells #[.int .i64 7, .int .i64 r.txn, .int .i64 r.ts, .int .i64 r.coord, .string r.key, .string r.text, .bool r.dead, .slice A r.keys.length c, .slice B r.ws.length d] 37) = W1 at hB1 hP1 ⊢
  have k0 := hP1.cell (i := 0) rfl
  have k1 := hP1.cell (i := 1) rfl
  have k2 := hP1.cell (i := 2) rfl
  have k3 := hP1.cell (i := 3) rfl
  have k4 := hP1.cell (i := 4) rfl
  have k5 := hP1.cell (i := 5) rfl
  have k6 := hP1.cell (i := 6) rfl
  have k7 := hP1.cell (i := 7) rfl
  have k8 := hP1.cell (i := 8) rfl
  have HB1 := Lib.hid hB1
  have HP1 := Lib.hid hP1
  clear hB1 hP1
  by_cases h0 : r.ts = 0
  · have q0 : (r.ts != 0) = false := by simp [h0]
    have E := Lib.hid q0
    clear h0
    go_wp2_with fail
    go_ret
    exact ⟨by rw [E.out]; rfl, HB1.out⟩
  · have q0 : (r.ts != 0) = true := by simp [h0]
    have E := Lib.hid q0
    clear h0
    go_wp2_with fail
    go_ret
    exact ⟨by rw [E.out]; rfl, HB1.out⟩

set_option maxRecDepth 20000 in
set_option maxHeartbeats 4000000 in
theorem must_no (A B : Option Addr) (c d : Nat) (r : Rec) (hk : r.kind ≠ 1 ∧ r.kind ≠ 2 ∧ r.kind ≠ 3 ∧ r.kind ≠ 5 ∧ r.kind ≠ 6 ∧ r.kind ≠ 7) (w : World) :
    Calls Tryz.prog 93 #[recV r A B c d] w fun e w' => e = .returned (.bool (must r)) ∧ Below w.heap.size w w' := by
  have E := Lib.hid (show must r = true from by unfold must; simp [hk])
  rw [E.out]
  obtain ⟨h1, h2, h3, h5, h6, h7⟩ := hk
  have q1 : (r.kind == 1) = false := by simpa using h1
  have q2 : (r.kind == 2) = false := by simpa using h2
  have q3 : (r.kind == 3) = false := by simpa using h3
  have q5 : (r.kind == 5) = false := by simpa using h5
  have q6 : (r.kind == 6) = false := by simpa using h6
  have q7 : (r.kind == 7) = false := by simpa using h7
  clear h1 h2 h3 h5 h6 h7 E
  unfold recV

  go_enter Tryz.func93, Tryz.ntmps93
  go_upto_region 1 with fail
  have hB1 : Below w.heap.size w (w.alloc (.cells #[.int .i64 r.kind, .int .i64 r.txn, .int .i64 r.ts, .int .i64 r.coord, .string r.key, .string r.text, .bool r.dead, .slice A r.keys.length c, .slice B r.ws.length d] 37)) := (Below.refl _ w).alloc (Nat.le_refl _) _
  have hP1 : Cel (w.alloc (.cells #[.int .i64 r.kind, .int .i64 r.txn, .int .i64 r.ts, .int .i64 r.coord, .string r.key, .string r.text, .bool r.dead, .slice A r.keys.length c, .slice B r.ws.length d] 37)) w.heap.size 37 [.int .i64 r.kind, .int .i64 r.txn, .int .i64 r.ts, .int .i64 r.coord, .string r.key, .string r.text, .bool r.dead, .slice A r.keys.length c, .slice B r.ws.length d] := (blk1 w _).2
  generalize w.alloc (.cells #[.int .i64 r.kind, .int .i64 r.txn, .int .i64 r.ts, .int .i64 r.coord, .string r.key, .string r.text, .bool r.dead, .slice A r.keys.length c, .slice B r.ws.length d] 37) = W1 at hB1 hP1 ⊢
  have k0 := hP1.cell (i := 0) rfl
  have k1 := hP1.cell (i := 1) rfl
  have k2 := hP1.cell (i := 2) rfl
  have k3 := hP1.cell (i := 3) rfl
  have k4 := hP1.cell (i := 4) rfl
  have k5 := hP1.cell (i := 5) rfl
  have k6 := hP1.cell (i := 6) rfl
  have k7 := hP1.cell (i := 7) rfl
  have k8 := hP1.cell (i := 8) rfl
  have HB1 := Lib.hid hB1
  have HP1 := Lib.hid hP1
  clear hB1 hP1
  go_wp2_with fail
  go_ret
  exact ⟨rfl, HB1.out⟩

theorem must_any (A B : Option Addr) (c d : Nat) (r : Rec) (w : World) (ha : StrsAt w A r.keys) (hb : WrsAt w B r.ws) (hr : RecRng r) :
    Calls Tryz.prog 93 #[recV r A B c d] w fun e w' => e = .returned (.bool (must r)) ∧ Below w.heap.size w w' := by
  by_cases h1 : r.kind = 1
  · exact must_1 A B c d r h1 w ha hb hr
  by_cases h2 : r.kind = 2
  · exact must_2 A B c d r h2 w
  by_cases h3 : r.kind = 3
  · exact must_3 A B c d r h3 w hr
  by_cases h5 : r.kind = 5
  · exact must_5 A B c d r h5 w
  by_cases h6 : r.kind = 6
  · exact must_6 A B c d r h6 w
  by_cases h7 : r.kind = 7
  · exact must_7 A B c d r h7 w
  exact must_no A B c d r ⟨h1, h2, h3, h5, h6, h7⟩ w

end Rc
end Go.Proofs.YtiobhbagjokpcaaGreat
