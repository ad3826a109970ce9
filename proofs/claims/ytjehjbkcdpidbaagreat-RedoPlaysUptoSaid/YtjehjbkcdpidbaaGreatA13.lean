/- Parts of the proof, joined: RdFresh, RdRestarts, RdPStep, RdPFuse, RdPCrash, RdPHand, RdPApp, RdPSyn, RdPRst, RdSpoil, RdPSame; their conditions stand with each. -/
import Derived.Deep.RegionHeld3
import Derived.Test.YtjehjbkcdpidbaaGreatA3
import Derived.Test.YtjehjbkcdpidbaaGreatA12

/- A new device whose first opening is cut off opens as a log without texts: the law's walk, over what is asked; no condition but the range. -/
namespace Go.Proofs.YtjehjbkcdpidbaaGreat
namespace Rd
open Go.RowKit Sc Bk

attribute [local go_sem ↓] Go.wp_at_zero Go.wp_at_succ
attribute [local go_sem] floatUpon pick

variable {Rep : RepT} {LRep : LRepT}

def tX : ByteArray := ⟨#[120]⟩

/-- old numbers stay -/
theorem ints_fr {W W' : World} {F F' : Nat → Prop} {A : Option Addr} {ps : List Int} (h : IntsAt W A ps) (hf : Fr F F' W W') (hn : ∀ x, A = some x → ¬ F x.block) : IntsAt W' A ps := fun hp => by
  obtain ⟨ad, e, hl, hc⟩ := h hp
  refine ⟨ad, e, Nat.lt_of_lt_of_le hl hf.size, fun i hi => ?_⟩
  have hkp := hf.block ad.block hl (hn ad e)
  rw [← st_block ad i] at hkp
  refine Eq.trans ?_ (hc i hi)
  unfold World.cell?
  rw [hkp]

end Rd
end Go.Proofs.YtjehjbkcdpidbaaGreat

/- A log that is restarted with its own texts has them: the law's walk, over what is asked; no condition but the range. -/
namespace Go.Proofs.YtjehjbkcdpidbaaGreat
namespace Rd
open Go.RowKit Sc Bk

attribute [local go_sem ↓] Go.wp_at_zero Go.wp_at_succ
attribute [local go_sem] floatUpon pick

variable {Rep : RepT} {LRep : LRepT}

/-- texts that lie beside a side's blocks -/
structure Held (W : World) (F : Nat → Prop) (A : Option Addr) (ts : List ByteArray) : Prop where
  s : StrsAt W A ts
  n : ∀ x, A = some x → x.block < W.heap.size ∧ ¬ F x.block

theorem Held.act {W W' : World} {F F' : Nat → Prop} {A : Option Addr} {ts : List ByteArray} (h : Held W F A ts) (hf : Fr F F' W W') : Held W' F' A ts :=
  ⟨strs_fr h.s hf (fun x hx => (h.n x hx).2), fun x hx => ⟨Nat.lt_of_lt_of_le (h.n x hx).1 hf.size, fun hF => (hf.foot _ hF).elim (h.n x hx).2 (fun hs => by have := (h.n x hx).1; omega)⟩⟩

theorem Held.step {W W' : World} {F : Nat → Prop} {A : Option Addr} {ts : List ByteArray} (h : Held W F A ts) (hb : Below W.heap.size W W') : Held W' F A ts :=
  ⟨h.s.below hb, fun x hx => ⟨Nat.lt_of_lt_of_le (h.n x hx).1 hb.size, (h.n x hx).2⟩⟩

theorem own_held {W : World} {F : Nat → Prop} {H n : Nat} {v : Value} {ts : List ByteArray} {e : TypeId} (h : W.ownsRow H e 1 v n (strV ts)) (hl : n = ts.length) (hno : ∀ b, v.ownBlock = some b → ¬ F b) : ∃ A c, v = .slice A n c ∧ Held W F A ts ∧ (A = none → c = 0) := by
  obtain ⟨A, c, hv, hst, _, hnc⟩ := strs_own_new h hl
  refine ⟨A, c, hv, ⟨hst, fun x hx => ?_⟩, hnc⟩
  subst hx
  rcases h.2 with ⟨h1, _⟩ | ⟨g', cap', cur, h1, hg, hh, _⟩
  · rw [hv] at h1; cases h1
  · rw [hv] at h1
    simp only [Value.slice.injEq, Option.some.injEq] at h1
    obtain ⟨rfl, -⟩ := h1
    exact ⟨(Array.getElem?_eq_some_iff.1 hh).1, hno g' (by rw [hv]; rfl)⟩

end Rd
end Go.Proofs.YtjehjbkcdpidbaaGreat

/- What happens to both logs: an Append, a Sync, a Restart; contracts; over what is asked; no condition but the ranges. -/
namespace Go.Proofs.YtjehjbkcdpidbaaGreat
namespace Rd
open Go.RowKit Sc Bk

attribute [local go_sem ↓] Go.wp_at_zero Go.wp_at_succ
attribute [local go_sem] floatUpon pick

/-- what happens, and where its texts and numbers lie -/
structure RAct where
  kind : Int
  n : Int
  text : ByteArray
  A : Option Addr
  c : Nat
  ts : List ByteArray
  B : Option Addr
  cB : Nat
  ps : List Int

instance : Inhabited RAct := ⟨⟨0, 0, ⟨#[]⟩, none, 0, [], none, 0, []⟩⟩

def racV (x : RAct) : Value := .agg #[.int .i64 x.kind, .int .i64 x.n, .string x.text, .slice x.A x.ts.length x.c, .slice x.B x.ps.length x.cB]

structure RActOk (w0 : World) (x : RAct) : Prop where
  n63 : -9223372036854775808 ≤ x.n ∧ x.n ≤ 9223372036854775807
  text : x.text.size ≤ reachBytes
  tOf : TextsOf w0 (.slice x.A x.ts.length x.c) x.ts
  cat : (allF x.ts).length ≤ 140737488355328
  at_ : IntsAt w0 x.B x.ps
  p8 : x.ps.length * 8 ≤ reachBytes
  pr : ∀ p ∈ x.ps, -9223372036854775808 ≤ p ∧ p ≤ 9223372036854775807
  pc : x.ps.length ≤ x.cB
  c63 : x.cB ≤ maxLen
  none_ : x.B = none → x.ps = [] ∧ x.cB = 0

section
variable {Rep : RepT} {LRep : LRepT} {w0 W : World} {b g h m y k : Nat} {l l2 : Lg} {o q : Option (Nat × Lg)} {F G : Nat → Prop} {D : Dev}

theorem fr_cell {F F' : Nat → Prop} {W W' : World} (h2 : Fr F F' W W') {a : Addr} (ha : a.block < W.heap.size) (hn : ¬ F a.block) : W'.cell? a = W.cell? a := by
  unfold World.cell?
  rw [h2.block a.block ha hn]

/-- behind what happens -/
def StepPost (Rep : RepT) (LRep : LRepT) (w0 : World) (b g h m : Nat) (e : Ending) (W' : World) : Prop :=
  e = .returned (.bool true) ∧ ∃ (F' G' : Nat → Prop) (o' q' : Option (Nat × Lg)) (D' : Dev), Two Rep LRep w0 W' b g h o' q' F' G' D' D' o' q' ∧ Two2 D' o' q' m

/-- the down mark of the document's device -/
theorem Two.down {vl vk : Option (Nat × Lg)} {E : Dev} (p : Two Rep LRep w0 W b g h vl vk F G D E o q) : W.cell? ⟨h, 3, none⟩ = some (.bool E.down) := by
  obtain ⟨Fd, _, _, _, _, _, _, _, _, h1, _⟩ := p.r.dev
  exact h1.cel.cell (i := 3) rfl

theorem two_app (hok : DevOk D) (p2 : Two2 D (some (y, l)) (some (k, l)) m) (hd : D.down = false) (t : ByteArray) : Two2 D (some (y, (appendP D l t).1)) (some (k, (appendP D l t).1)) (m + 1) := by
  obtain ⟨h1, h2⟩ := p2.lg _ _ rfl hd
  have hc : (appendP D l t).1.cnt = l.cnt := by
    unfold appendP
    split
    · rfl
    split
    · rfl
    · rfl
  exact ⟨rfl, fun p l' e _ => by cases e; exact ⟨app_in hok h1 t, by rw [hc]; omega⟩⟩

theorem two_syn (hok : DevOk D) (p2 : Two2 D (some (y, l)) (some (k, l)) m) (hd : D.down = false) (hm : m ≤ 60) : Two2 (syncP D l).1 (some (y, (syncP D l).2.1)) (some (k, (syncP D l).2.1)) (m + 1) := by
  obtain ⟨h1, h2⟩ := p2.lg _ _ rfl hd
  refine ⟨rfl, fun p l' e hd' => ?_⟩
  cases e
  rcases sync_in hok h1 hd (by omega) with ⟨_, _, q3, q4⟩ | ⟨_, q⟩
  · exact ⟨q3, by omega⟩
  · rw [q] at hd'; cases hd'

theorem two_rst (hok : DevOk D) (p2 : Two2 D (some (y, l)) (some (k, l)) m) (hd : D.down = false) (hm : m ≤ 60) (ts : List ByteArray) : Two2 (restartP D l ts).1 (some (y, (restartP D l ts).2.1)) (some (k, (restartP D l ts).2.1)) (m + 1) := by
  obtain ⟨h1, h2⟩ := p2.lg _ _ rfl hd
  refine ⟨rfl, fun p l' e hd' => ?_⟩
  cases e
  rcases rst_in hok h1 hd (by omega) ts with ⟨_, q3, q4⟩ | ⟨_, q⟩
  · exact ⟨q3, by omega⟩
  · rw [q] at hd'; cases hd'

/-- only where the pointers lead to matters -/
theorem Two.ptr {vl vk vl' vk' : Option (Nat × Lg)} {E : Dev} (p : Two Rep LRep w0 W b g h vl vk F G D E o q) (h1 : ptrV vl' = ptrV vl) (h2 : ptrV vk' = ptrV vk) : Two Rep LRep w0 W b g h vl' vk' F G D E o q :=
  ⟨p.s, p.r, by rw [h1, h2]; exact p.cel, p.bf, p.bg, p.dis, p.bF, p.bG, p.bb, p.bel⟩

set_option maxRecDepth 20000 in
set_option maxHeartbeats 8000000 in
theorem pstep_none (HB : DevBase Rep) (HL : LogAll Rep LRep) (p : Two Rep LRep w0 W b g h none none F G D D none none) (p2 : Two2 D none none m) (x : RAct) (hx : RActOk w0 x) (hk : amongV x.kind 6 ≤ 2) :
    Calls Tryz.prog 10 #[.pointer (some ⟨b, 0, none⟩), racV x] W (StepPost Rep LRep w0 b g h (m + 1)) := by
  obtain ⟨kind, n, text, A, c, ts, B, cB, ps⟩ := x
  have HX := Lib.hid hx
  clear hx
  unfold racV
  simp only at hk ⊢
  have HAm := Lib.hid (fun V => among_any kind 6 V (by omega) (by omega))
  generalize amongV kind 6 = z at hk HAm
  have pz : ¬ (2 < z) := by omega
  have hal := p.step HB HL ((Below.refl _ W).alloc (Nat.le_refl _) (.cells #[.int .i64 kind, .int .i64 n, .string text, .slice A ts.length c, .slice B ps.length cB] 40))
  have hbx : Cel (W.alloc (.cells #[.int .i64 kind, .int .i64 n, .string text, .slice A ts.length c, .slice B ps.length cB] 40)) W.heap.size 40 [.int .i64 kind, .int .i64 n, .string text, .slice A ts.length c, .slice B ps.length cB] := (blk1 W _).2
  have hbf : ¬ F W.heap.size := fun hf => by have := p.s.lt (devF_of HB) HL.log _ hf; omega
  have hbg : ¬ G W.heap.size := fun hf => by have := p.r.lt docDev docLog _ hf; omega
  have hlt : W.heap.size < (W.alloc (.cells #[.int .i64 kind, .int .i64 n, .string text, .slice A ts.length c, .slice B ps.length cB] 40)).heap.size := by simp
  clear p hk
  go_enter Tryz.func10, Tryz.ntmps10
  go_upto_region 1 with fail
  generalize W.alloc (.cells #[.int .i64 kind, .int .i64 n, .string text, .slice A ts.length c, .slice B ps.length cB] 40) = W1 at hal hbx hlt ⊢
  generalize W.heap.size = a at hbx hbf hbg hlt ⊢
  have HP := Lib.hid hal
  have HA := Lib.hid (And.intro hbx (And.intro hbf (And.intro hbg hlt)))
  have x0 := hbx.cell (i := 0) rfl
  have k1 := hal.cel.cell (i := 1) rfl
  have k2 := hal.cel.cell (i := 2) rfl
  have k3 := hal.cel.cell (i := 3) rfl
  have kd := hal.down
  clear hal hbx hbf hbg hlt
  unfold ptrV at k2 k3
  go_wp2_with fail
  refine (HAm.out _).mono ?_
  rintro e W2 ⟨rfl, rfl⟩
  go_wp2_with fail
  go_ret
  exact ⟨rfl, _, _, _, _, _, HP.out, p2.same, fun p l e hd => by have := p2.lg p l e hd; exact ⟨this.1, by omega⟩⟩

set_option maxRecDepth 20000 in
set_option maxHeartbeats 8000000 in
theorem pstep_down (HB : DevBase Rep) (HL : LogAll Rep LRep) (p : Two Rep LRep w0 W b g h (some (y, l)) (some (k, l2)) F G D D (some (y, l)) (some (k, l2))) (p2 : Two2 D (some (y, l)) (some (k, l2)) m) (x : RAct) (hx : RActOk w0 x) (hd : D.down = true) (hk : amongV x.kind 6 ≤ 2) :
    Calls Tryz.prog 10 #[.pointer (some ⟨b, 0, none⟩), racV x] W (StepPost Rep LRep w0 b g h (m + 1)) := by
  obtain ⟨kind, n, text, A, c, ts, B, cB, ps⟩ := x
  have HX := Lib.hid hx
  clear hx
  unfold racV
  simp only at hk ⊢
  have HAm := Lib.hid (fun V => among_any kind 6 V (by omega) (by omega))
  generalize amongV kind 6 = z at hk HAm
  have pz : ¬ (2 < z) := by omega
  have hal := p.step HB HL ((Below.refl _ W).alloc (Nat.le_refl _) (.cells #[.int .i64 kind, .int .i64 n, .string text, .slice A ts.length c, .slice B ps.length cB] 40))
  have hbx : Cel (W.alloc (.cells #[.int .i64 kind, .int .i64 n, .string text, .slice A ts.length c, .slice B ps.length cB] 40)) W.heap.size 40 [.int .i64 kind, .int .i64 n, .string text, .slice A ts.length c, .slice B ps.length cB] := (blk1 W _).2
  have hbf : ¬ F W.heap.size := fun hf => by have := p.s.lt (devF_of HB) HL.log _ hf; omega
  have hbg : ¬ G W.heap.size := fun hf => by have := p.r.lt docDev docLog _ hf; omega
  have hlt : W.heap.size < (W.alloc (.cells #[.int .i64 kind, .int .i64 n, .string text, .slice A ts.length c, .slice B ps.length cB] 40)).heap.size := by simp
  clear p hk
  go_enter Tryz.func10, Tryz.ntmps10
  go_upto_region 1 with fail
  generalize W.alloc (.cells #[.int .i64 kind, .int .i64 n, .string text, .slice A ts.length c, .slice B ps.length cB] 40) = W1 at hal hbx hlt ⊢
  generalize W.heap.size = a at hbx hbf hbg hlt ⊢
  have HP := Lib.hid hal
  have HA := Lib.hid (And.intro hbx (And.intro hbf (And.intro hbg hlt)))
  have x0 := hbx.cell (i := 0) rfl
  have k1 := hal.cel.cell (i := 1) rfl
  have k2 := hal.cel.cell (i := 2) rfl
  have k3 := hal.cel.cell (i := 3) rfl
  have kd := hal.down
  clear hal hbx hbf hbg hlt
  unfold ptrV at k2 k3
  rw [hd] at kd
  go_wp2_with fail
  refine (HAm.out _).mono ?_
  rintro e W2 ⟨rfl, rfl⟩
  go_wp2_with fail
  go_ret
  exact ⟨rfl, _, _, _, _, _, HP.out, p2.same, fun p l e hd => by have := p2.lg p l e hd; exact ⟨this.1, by omega⟩⟩

end

end Rd
end Go.Proofs.YtjehjbkcdpidbaaGreat

/- A fuse, of both devices: contract; over what is asked; no condition but the ranges. -/
namespace Go.Proofs.YtjehjbkcdpidbaaGreat
namespace Rd
open Go.RowKit Sc Bk

attribute [local go_sem ↓] Go.wp_at_zero Go.wp_at_succ
attribute [local go_sem] floatUpon pick

section
variable {Rep : RepT} {LRep : LRepT} {w0 W : World} {b g h m y k : Nat} {l l2 : Lg} {o q : Option (Nat × Lg)} {F G : Nat → Prop} {D : Dev}

theorem two_more (h : Two2 D o q m) : Two2 D o q (m + 1) := ⟨h.same, fun p l e hd => by have := h.lg p l e hd; exact ⟨this.1, by omega⟩⟩

set_option maxRecDepth 20000 in
set_option maxHeartbeats 8000000 in
theorem pout_fuse (HB : DevBase Rep) (HL : LogAll Rep LRep) (p : Two Rep LRep w0 W b g h o q F G D D o q) (p2 : Two2 D o q m) (x : RAct) (hx : RActOk w0 x) (hk : amongV x.kind 6 = 3) :
    Calls Tryz.prog 32 #[.pointer (some ⟨b, 0, none⟩), racV x] W (StepPost Rep LRep w0 b g h (m + 1)) := by
  obtain ⟨kind, n, text, A, c, ts, B, cB, ps⟩ := x
  have HX := Lib.hid hx
  clear hx
  unfold racV
  simp only at hk ⊢
  have HAm := Lib.hid (fun V => among_any kind 6 V (by omega) (by omega))
  rw [hk] at HAm
  have hal := p.step HB HL ((Below.refl _ W).alloc (Nat.le_refl _) (.cells #[.int .i64 kind, .int .i64 n, .string text, .slice A ts.length c, .slice B ps.length cB] 40))
  have hbx : Cel (W.alloc (.cells #[.int .i64 kind, .int .i64 n, .string text, .slice A ts.length c, .slice B ps.length cB] 40)) W.heap.size 40 [.int .i64 kind, .int .i64 n, .string text, .slice A ts.length c, .slice B ps.length cB] := (blk1 W _).2
  have hbf : ¬ F W.heap.size := fun hf => by have := p.s.lt (devF_of HB) HL.log _ hf; omega
  have hbg : ¬ G W.heap.size := fun hf => by have := p.r.lt docDev docLog _ hf; omega
  have hb0 : w0.heap.size ≤ W.heap.size := p.bel.size
  have hlt : W.heap.size < (W.alloc (.cells #[.int .i64 kind, .int .i64 n, .string text, .slice A ts.length c, .slice B ps.length cB] 40)).heap.size := by simp
  clear p hk
  go_enter Tryz.func32, Tryz.ntmps32
  go_upto_region 1 with fail
  generalize W.alloc (.cells #[.int .i64 kind, .int .i64 n, .string text, .slice A ts.length c, .slice B ps.length cB] 40) = W1 at hal hbx hlt ⊢
  generalize W.heap.size = a at hbx hbf hbg hlt hb0 ⊢
  have HP := Lib.hid hal
  have HA := Lib.hid (And.intro hbx (And.intro hbf (And.intro hbg (And.intro hlt hb0))))
  have x0 := hbx.cell (i := 0) rfl
  have k0 := hal.cel.cell (i := 0) rfl
  have k1 := hal.cel.cell (i := 1) rfl
  clear hal hbx hbf hbg hlt hb0
  have kx := HA.out.1.cell (i := 1) rfl
  have HC := Lib.hid (fun V (t : Two Rep LRep w0 V b g h o q F G D D o q) => t.s.fuse (devF_of HB) HL.log n HX.out.n63)
  have q0 := beq_self_eq_true (fuD D n).2
  go_wp2_with fail
  refine (HAm.out _).mono ?_
  rintro e W2 ⟨rfl, rfl⟩
  go_upto_region 3 with fail
  go_region_with (first
    | (refine (HC.out _ (HP.out.step HB HL (Below.refl _ _).drew)).mono ?_
       rintro e W4 ⟨rfl, F1, hs1, hf1⟩
       have hp1 := (HP.out.step HB HL (Below.refl _ _).drew).actD hs1 hf1
       have kx1 := (fr_cell hf1 (a := ⟨a, 1, none⟩) HA.out.2.2.2.1 HA.out.2.1).trans kx
       have kk1 := hp1.cel.cell (i := 1) rfl
       have HP1 := Lib.hid hp1
       clear hs1 hf1 hp1)
    | (refine (HP1.out.r.fuse docDev docLog n HX.out.n63).mono ?_
       rintro e W5 ⟨rfl, G1, hs2, hf2⟩
       have HP2 := Lib.hid (HP1.out.actR HB HL hs2 hf2)
       clear hs2 hf2))
  all_goals
    go_wp2_with fail
    go_ret
    exact ⟨rfl, _, _, _, _, _, HP2.out, two_more (two_fuse p2 n)⟩

end

end Rd
end Go.Proofs.YtjehjbkcdpidbaaGreat

/- A crash, of both devices, and both logs anew: contract; over what is asked; no condition but the ranges. -/
namespace Go.Proofs.YtjehjbkcdpidbaaGreat
namespace Rd
open Go.RowKit Sc Bk

attribute [local go_sem ↓] Go.wp_at_zero Go.wp_at_succ
attribute [local go_sem] floatUpon pick

section
variable {Rep : RepT} {LRep : LRepT} {w0 W : World} {b g h m y k : Nat} {l l2 : Lg} {o q : Option (Nat × Lg)} {F G : Nat → Prop} {D : Dev}

theorem ints_lt {w : World} {A : Option Addr} {l : List Int} (h : IntsAt w A l) : 0 < l.length → ∀ x, A = some x → x.block < w.heap.size := fun hp x hx => by
  obtain ⟨ad, e1, h2, _⟩ := h hp
  rw [e1] at hx
  cases hx
  exact h2

set_option maxRecDepth 20000 in
set_option maxHeartbeats 8000000 in
theorem pout_crash (HB : DevBase Rep) (HL : LogAll Rep LRep) (p : Two Rep LRep w0 W b g h o q F G D D o q) (_p2 : Two2 D o q m) (x : RAct) (hx : RActOk w0 x) (hk : amongV x.kind 6 = 4) :
    Calls Tryz.prog 32 #[.pointer (some ⟨b, 0, none⟩), racV x] W (StepPost Rep LRep w0 b g h (m + 1)) := by
  obtain ⟨kind, n, text, A, c, ts, B, cB, ps⟩ := x
  have HX := Lib.hid hx
  clear hx
  unfold racV
  simp only at hk ⊢
  have HAm := Lib.hid (fun V => among_any kind 6 V (by omega) (by omega))
  rw [hk] at HAm
  have hal := p.step HB HL ((Below.refl _ W).alloc (Nat.le_refl _) (.cells #[.int .i64 kind, .int .i64 n, .string text, .slice A ts.length c, .slice B ps.length cB] 40))
  have hbx : Cel (W.alloc (.cells #[.int .i64 kind, .int .i64 n, .string text, .slice A ts.length c, .slice B ps.length cB] 40)) W.heap.size 40 [.int .i64 kind, .int .i64 n, .string text, .slice A ts.length c, .slice B ps.length cB] := (blk1 W _).2
  have hbf : ¬ F W.heap.size := fun hf => by have := p.s.lt (devF_of HB) HL.log _ hf; omega
  have hbg : ¬ G W.heap.size := fun hf => by have := p.r.lt docDev docLog _ hf; omega
  have hb0 : w0.heap.size ≤ W.heap.size := p.bel.size
  have hlt : W.heap.size < (W.alloc (.cells #[.int .i64 kind, .int .i64 n, .string text, .slice A ts.length c, .slice B ps.length cB] 40)).heap.size := by simp
  clear p hk
  go_enter Tryz.func32, Tryz.ntmps32
  go_upto_region 1 with fail
  generalize W.alloc (.cells #[.int .i64 kind, .int .i64 n, .string text, .slice A ts.length c, .slice B ps.length cB] 40) = W1 at hal hbx hlt ⊢
  generalize W.heap.size = a at hbx hbf hbg hlt hb0 ⊢
  have HP := Lib.hid hal
  have HA := Lib.hid (And.intro hbx (And.intro hbf (And.intro hbg (And.intro hlt hb0))))
  have x0 := hbx.cell (i := 0) rfl
  have k0 := hal.cel.cell (i := 0) rfl
  have k1 := hal.cel.cell (i := 1) rfl
  clear hal hbx hbf hbg hlt hb0
  have kx := HA.out.1.cell (i := 4) rfl
  have HC := Lib.hid (fun V (t : Two Rep LRep w0 V b g h o q F G D D o q) => t.s.crash (devF_of HB) B cB ps (HX.out.at_.below t.bel) (fun hp x hx hf => by have := ints_lt HX.out.at_ hp x hx; have := t.bF _ hf; omega) HX.out.p8 HX.out.pr)
  go_wp2_with fail
  refine (HAm.out _).mono ?_
  rintro e W2 ⟨rfl, rfl⟩
  go_upto_region 9 with fail
  go_region_with (first
    | (refine (HC.out _ (HP.out.step HB HL (Below.refl _ _).drew)).mono ?_
       rintro e W4 ⟨rfl, F1, hs1, hf1⟩
       have hp1 := (HP.out.step HB HL (Below.refl _ _).drew).actD hs1 hf1
       have kx1 := (fr_cell hf1 (a := ⟨a, 4, none⟩) HA.out.2.2.2.1 HA.out.2.1).trans kx
       have kk1 := hp1.cel.cell (i := 1) rfl
       have HP1 := Lib.hid hp1
       have hla := Nat.lt_of_lt_of_le HA.out.2.2.2.1 hf1.size
       clear hs1 hf1 hp1 kx x0 k0 k1))
  all_goals
    have HR := Lib.hid (fun V (t : Two Rep LRep w0 V b g h o q F1 G (crD D ps) D none q) => t.r.crash docDev B cB ps (HX.out.at_.below t.bel) (fun hp x hx hf => by have := ints_lt HX.out.at_ hp x hx; have := t.bG _ hf; omega) HX.out.p8 HX.out.pr)
    go_upto_region 10 with fail
    go_region_with (first
      | (refine (HR.out _ (HP1.out.step HB HL (Below.refl _ _).drew)).mono ?_
         rintro e W5 ⟨rfl, G1, hs2, hf2⟩
         have HP2 := Lib.hid ((HP1.out.step HB HL (Below.refl _ _).drew).actR HB HL hs2 hf2)
         clear hs2 hf2))
    all_goals
      have HOk := Lib.hid (HP2.out.s.ok (devF_of HB))
      go_wp2_with fail
      refine (both_open HB HL HP2.out).mono ?_
      rintro e W6 ⟨rfl, F3, G3, o3, q3, hp3, ho3, hq3⟩
      have HP3 := Lib.hid (And.intro hp3 (two_open HOk.out ho3 hq3 (m + 1)))
      clear hp3 ho3 hq3
      go_wp2_with fail
      go_ret
      exact ⟨rfl, _, _, _, _, _, HP3.out.1, HP3.out.2⟩

end

end Rd
end Go.Proofs.YtjehjbkcdpidbaaGreat

/- A sector by hand, on both devices, and both logs anew: contract; over what is asked; no condition but the ranges. -/
namespace Go.Proofs.YtjehjbkcdpidbaaGreat
namespace Rd
open Go.RowKit Sc Bk

attribute [local go_sem ↓] Go.wp_at_zero Go.wp_at_succ
attribute [local go_sem] floatUpon pick

section
variable {Rep : RepT} {LRep : LRepT} {w0 W : World} {b g h m y k : Nat} {l l2 : Lg} {o q : Option (Nat × Lg)} {F G : Nat → Prop} {D : Dev}

/-- a text as a sector's 64 bytes -/
def fitL (s : ByteArray) : List UInt8 := s.data.toList.take 64 ++ List.replicate (64 - min s.size 64) (0 : UInt8)

theorem fitL_len (s : ByteArray) : (fitL s).length = 64 := by
  have hl : s.data.toList.length = s.size := rfl
  unfold fitL
  rw [List.length_append, List.length_take, List.length_replicate]; omega

theorem fitL_row (s : ByteArray) : (Lib.byteCells (s.data.toList.take (min s.size 64)) ++ (Lib.byteCells (List.replicate 64 (0 : UInt8))).toArray.toList.drop (min s.size 64)).toArray = (Lib.byteCells (fitL s)).toArray := by
  congr 1
  unfold Lib.byteCells fitL
  rw [List.map_append, List.toList_toArray, ← List.map_drop, List.drop_replicate]
  congr 2
  have hl : s.data.toList.length = s.size := rfl
  by_cases h : s.size ≤ 64
  · rw [List.take_of_length_le (show s.data.toList.length ≤ min s.size 64 from by show s.size ≤ _; omega), List.take_of_length_le (show s.data.toList.length ≤ 64 from h)]
  · rw [show min s.size 64 = 64 by omega]

/-- the row of bytes lies beside both sides -/
structure Byt (W : World) (F G : Nat → Prop) (sg : Nat) (l : List UInt8) : Prop where
  c : W.heap[sg]? = some (.cells (Lib.byteCells l).toArray 5 (0, 0))
  nf : ¬ F sg
  ng : ¬ G sg

theorem Byt.lt {W : World} {F G : Nat → Prop} {sg : Nat} {l : List UInt8} (h : Byt W F G sg l) : sg < W.heap.size := (Array.getElem?_eq_some_iff.1 h.c).1

theorem Byt.actD {W W' : World} {F G F' : Nat → Prop} {sg : Nat} {l : List UInt8} (h : Byt W F G sg l) (hf : Fr F F' W W') : Byt W' F' G sg l :=
  ⟨(hf.block sg h.lt h.nf).trans h.c, fun hk => (hf.foot sg hk).elim h.nf (fun hs => by have := h.lt; omega), h.ng⟩

theorem Byt.actR {W W' : World} {F G G' : Nat → Prop} {sg : Nat} {l : List UInt8} (h : Byt W F G sg l) (hf : Fr G G' W W') : Byt W' F G' sg l :=
  ⟨(hf.block sg h.lt h.ng).trans h.c, h.nf, fun hk => (hf.foot sg hk).elim h.ng (fun hs => by have := h.lt; omega)⟩

theorem Byt.drew {W : World} {F G : Nat → Prop} {sg : Nat} {l : List UInt8} (h : Byt W F G sg l) : Byt W.drew F G sg l := ⟨h.c, h.nf, h.ng⟩

theorem Byt.back {W : World} {F G : Nat → Prop} {sg : Nat} {l : List UInt8} (h : Byt W F G sg l) (hl : l.length = 64) : (convert 82 9 (.slice (some ⟨sg, 0, none⟩) 64 64)).run Tryz.prog W = .ok (.string ⟨l.toArray⟩) W := back_of h.c hl

set_option maxRecDepth 20000 in
set_option maxHeartbeats 8000000 in
theorem pout_hand (HB : DevBase Rep) (HL : LogAll Rep LRep) (p : Two Rep LRep w0 W b g h o q F G D D o q) (_p2 : Two2 D o q m) (x : RAct) (hx : RActOk w0 x) (hk : amongV x.kind 6 = 5) :
    Calls Tryz.prog 32 #[.pointer (some ⟨b, 0, none⟩), racV x] W (StepPost Rep LRep w0 b g h (m + 1)) := by
  obtain ⟨kind, n, text, A, c, ts, B, cB, ps⟩ := x
  have HX := Lib.hid hx
  clear hx
  unfold racV
  simp only at hk ⊢
  have HAm := Lib.hid (fun V => among_any kind 6 V (by omega) (by omega))
  rw [hk] at HAm
  have hal := p.step HB HL ((Below.refl _ W).alloc (Nat.le_refl _) (.cells #[.int .i64 kind, .int .i64 n, .string text, .slice A ts.length c, .slice B ps.length cB] 40))
  have hbx : Cel (W.alloc (.cells #[.int .i64 kind, .int .i64 n, .string text, .slice A ts.length c, .slice B ps.length cB] 40)) W.heap.size 40 [.int .i64 kind, .int .i64 n, .string text, .slice A ts.length c, .slice B ps.length cB] := (blk1 W _).2
  have hbf : ¬ F W.heap.size := fun hf => by have := p.s.lt (devF_of HB) HL.log _ hf; omega
  have hbg : ¬ G W.heap.size := fun hf => by have := p.r.lt docDev docLog _ hf; omega
  have hb0 : w0.heap.size ≤ W.heap.size := p.bel.size
  have hlt : W.heap.size < (W.alloc (.cells #[.int .i64 kind, .int .i64 n, .string text, .slice A ts.length c, .slice B ps.length cB] 40)).heap.size := by simp
  clear p hk
  go_enter Tryz.func32, Tryz.ntmps32
  go_upto_region 1 with fail
  generalize W.alloc (.cells #[.int .i64 kind, .int .i64 n, .string text, .slice A ts.length c, .slice B ps.length cB] 40) = W1 at hal hbx hlt ⊢
  generalize W.heap.size = a at hbx hbf hbg hlt hb0 ⊢
  have HP := Lib.hid hal
  have HA := Lib.hid (And.intro hbx (And.intro hbf (And.intro hbg (And.intro hlt hb0))))
  have x0 := hbx.cell (i := 0) rfl
  have k0 := hal.cel.cell (i := 0) rfl
  have k1 := hal.cel.cell (i := 1) rfl
  clear hal hbx hbf hbg hlt hb0
  have kx := HA.out.1.cell (i := 2) rfl
  have kn := HA.out.1.cell (i := 1) rfl
  have kp := HA.out.1.cell (i := 4) rfl
  have hmk := make_64
  have hinfo : (Tryz.prog.info? 5).map (·.size) = some 1 := by
    obtain ⟨i0, hi, hz0, hz1, hz2⟩ := info_parts Bk.Tryz.infoU8
    rw [hi]; simp [hz1]
  obtain ⟨m6, hm6⟩ : ∃ z, z = min text.size 64 := ⟨_, rfl⟩
  have hMs : (Lib.byteCells (List.replicate 64 (0 : UInt8))).toArray.size = 64 := by rw [List.size_toArray, Lib.byteCells_length]; simp
  have hrow := fitL_row text
  rw [← hm6] at hrow
  have hcp := fun W : World => copy_some (P := Tryz.prog) (W.alloc (.cells (Lib.byteCells (List.replicate 64 (0 : UInt8))).toArray 5)) 82 9 3 5 W.heap.size 64 64 m6 text _ 5 Tryz.underlying82 hinfo (heap_alloc_new W _) hm6 (by rw [hMs]; omega)
  rw [hrow] at hcp
  obtain ⟨Y, hY⟩ : ∃ Y, Y = (Lib.byteCells (fitL text)).toArray := ⟨_, rfl⟩
  rw [← hY] at hcp
  generalize (Lib.byteCells (List.replicate 64 (0 : UInt8))).toArray = M at hmk hcp
  have HY := Lib.hid hY
  clear hrow hm6 hMs hinfo hY
  go_wp2_with fail
  refine (HAm.out _).mono ?_
  rintro e W2 ⟨rfl, rfl⟩
  have ka : ((W2.alloc (.cells M 5))).cell? ⟨a, 2, none⟩ = some (.string text) := (cell_kept ((Below.refl _ W2).alloc (Nat.le_refl _) (.cells M 5)) ⟨a, 2, none⟩ HA.out.2.2.2.1).trans kx
  go_upto_region 7 with fail
  have hB2 : Below W2.heap.size W2 ((W2.alloc (.cells M 5)).setRow W2.heap.size Y) := ((Below.refl _ W2).alloc (Nat.le_refl _) _).trans ⟨rfl, rfl, rfl, by simp, fun k hk => setRow_other _ _ _ _ (by omega)⟩
  have hgY : ((W2.alloc (.cells M 5)).setRow W2.heap.size Y).heap[W2.heap.size]? = some (.cells Y 5 (0, 0)) := setRow_heap _ _ _ _ 5 (0, 0) (heap_alloc_new W2 _)
  have hnf : ¬ F W2.heap.size := fun hf => by have := HP.out.s.lt (devF_of HB) HL.log _ hf; omega
  have hng : ¬ G W2.heap.size := fun hf => by have := HP.out.r.lt docDev docLog _ hf; omega
  have HP3 := Lib.hid (HP.out.step HB HL hB2)
  have kn3 := (cell_kept hB2 ⟨a, 1, none⟩ HA.out.2.2.2.1).trans kn
  have kp3 := (cell_kept hB2 ⟨a, 4, none⟩ HA.out.2.2.2.1).trans kp
  have hla : a < _ := Nat.lt_of_lt_of_le HA.out.2.2.2.1 hB2.size
  generalize (W2.alloc (.cells M 5)).setRow W2.heap.size Y = W3 at HP3 kn3 kp3 hla hgY ⊢
  generalize W2.heap.size = sg at hgY hnf hng ⊢
  rw [HY.out] at hgY
  have HBy : Hid (Byt W3 F G sg (fitL text)) := Lib.hid ⟨hgY, hnf, hng⟩
  have hcv := HBy.out.drew.back (fitL_len text)
  have HN := Lib.hid (And.intro HA.out.2.1 (And.intro HA.out.2.2.1 hla))
  obtain ⟨s, hs⟩ : ∃ s : ByteArray, s = ⟨(fitL text).toArray⟩ := ⟨_, rfl⟩
  rw [← hs] at hcv
  have hs64 : s.size ≤ reachBytes := by
    rw [hs]
    show (fitL text).toArray.size ≤ _
    rw [List.size_toArray, fitL_len]
    unfold reachBytes; omega
  have HS := Lib.hid (And.intro hs hs64)
  have kk0 := HP3.out.cel.cell (i := 0) rfl
  have kk01 := HP3.out.cel.cell (i := 1) rfl
  clear hs hs64 hB2 hgY hnf hng HP hmk hcp ka x0 k0 k1 kx kn kp HAm HA hla HY
  have HC := Lib.hid (fun V (t : Two Rep LRep w0 V b g h o q F G D D o q) => t.s.write (devF_of HB) n HX.out.n63 s HS.out.2)
  have q0 := bne_self_eq_false' (wrD D n s).2
  have q1 := bne_self_eq_false' (flD (wrD D n s).1).2
  have kk2a : W3.cell? ⟨b, 1, none⟩ = some (.pointer (some ⟨h, 0, none⟩)) := HP3.out.cel.cell (i := 1) rfl
  go_region_held3 (fun w' => w'.cell? ⟨b, 0, none⟩ = some (.pointer (some ⟨g, 0, none⟩)) ∧ w'.cell? ⟨b, 1, none⟩ = some (.pointer (some ⟨h, 0, none⟩)) ∧ w'.cell? ⟨a, 1, none⟩ = some (.int .i64 n) ∧ (convert 82 9 (.slice (some ⟨sg, 0, none⟩) 64 64)).run Tryz.prog w' = .ok (.string s) w')
    (first | (refine ⟨?_, ?_, ?_, ?_⟩ <;> assumption) | go_keep)
    (first
    | (go_at_call 71
       refine (HC.out _ (by first | exact HP3.out | exact HP3.out.step HB HL (Below.refl _ _).drew)).mono ?_
       rintro e W4 ⟨rfl, F1, hs1, hf1⟩
       have hp1 := (HP3.out.step HB HL (Below.refl _ _).drew).actD hs1 hf1
       have kn4 := (fr_cell hf1 (a := ⟨a, 1, none⟩) HN.out.2.2 HN.out.1).trans kn3
       have kp4 := (fr_cell hf1 (a := ⟨a, 4, none⟩) HN.out.2.2 HN.out.1).trans kp3
       have HB4 := Lib.hid (HBy.out.drew.actD hf1)
       have hcv4 := HB4.out.back (fitL_len text)
       rw [← HS.out.1] at hcv4
       have kk40 := hp1.cel.cell (i := 0) rfl
       have kk41 := hp1.cel.cell (i := 1) rfl
       have hla4 := Nat.lt_of_lt_of_le HN.out.2.2 hf1.size
       have hlf4 : ¬ F1 a := fun hk => (hf1.foot a hk).elim HN.out.1 (fun hs => by have h9 := HN.out.2.2; exact absurd h9 (Nat.not_lt.2 hs))
       have HP4 := Lib.hid hp1
       clear hs1 hf1 hp1)
    | (go_at_call 60
       refine (HP4.out.r.write docDev n HX.out.n63 s HS.out.2).mono ?_
       rintro e W5 ⟨rfl, G1, hs2, hf2⟩
       have hp2 := HP4.out.actR HB HL hs2 hf2
       have kn5 := (fr_cell hf2 (a := ⟨a, 1, none⟩) hla4 HN.out.2.1).trans kn4
       have kp5 := (fr_cell hf2 (a := ⟨a, 4, none⟩) hla4 HN.out.2.1).trans kp4
       have HB5 := Lib.hid (HB4.out.actR hf2)
       have hcv5 := HB5.out.back (fitL_len text)
       rw [← HS.out.1] at hcv5
       have kk50 := hp2.cel.cell (i := 0) rfl
       have kk51 := hp2.cel.cell (i := 1) rfl
       have hla5 := Nat.lt_of_lt_of_le hla4 hf2.size
       have hlg5 : ¬ G1 a := fun hk => (hf2.foot a hk).elim HN.out.2.1 (fun hs => absurd hla4 (Nat.not_lt.2 hs))
       have HP5 := Lib.hid hp2
       clear hs2 hf2 hp2)
    | (go_at_call 72
       refine (HP5.out.s.flush (devF_of HB)).mono ?_
       rintro e W6 ⟨rfl, F3, hs3, hf3⟩
       have hp3 := HP5.out.actD hs3 hf3
       have kn6 := (fr_cell hf3 (a := ⟨a, 1, none⟩) hla5 hlf4).trans kn5
       have kp6 := (fr_cell hf3 (a := ⟨a, 4, none⟩) hla5 hlf4).trans kp5
       have HB6 := Lib.hid (HB5.out.actD hf3)
       have hcv6 := HB6.out.back (fitL_len text)
       rw [← HS.out.1] at hcv6
       have kk60 := hp3.cel.cell (i := 0) rfl
       have kk61 := hp3.cel.cell (i := 1) rfl
       have hla6 := Nat.lt_of_lt_of_le hla5 hf3.size
       have hlf6 : ¬ F3 a := fun hk => (hf3.foot a hk).elim hlf4 (fun hs => absurd hla5 (Nat.not_lt.2 hs))
       have HP6 := Lib.hid hp3
       clear hs3 hf3 hp3)
    | (go_at_call 62
       refine (HP6.out.r.flush docDev).mono ?_
       rintro e W7 ⟨rfl, G4, hs4, hf4⟩
       have hp4 := HP6.out.actR HB HL hs4 hf4
       have kn7 := (fr_cell hf4 (a := ⟨a, 1, none⟩) hla6 hlg5).trans kn6
       have kp7 := (fr_cell hf4 (a := ⟨a, 4, none⟩) hla6 hlg5).trans kp6
       have HB7 := Lib.hid (HB6.out.actR hf4)
       have hcv7 := HB7.out.back (fitL_len text)
       rw [← HS.out.1] at hcv7
       have kk70 := hp4.cel.cell (i := 0) rfl
       have kk71 := hp4.cel.cell (i := 1) rfl
       have hla7 := Nat.lt_of_lt_of_le hla6 hf4.size
       have hlf7 : ¬ F3 a := hlf6
       have HP7 := Lib.hid hp4
       clear hs4 hf4 hp4))
  all_goals
    have HOk7 := Lib.hid (HP7.out.s.ok (devF_of HB))
    clear kk0 kk01 kk2a kk40 kk41 kk50 kk51 kk60 kk61 kn3 kn4 kn5 kn6 kn7 kp3 kp4 kp5 kp6 hcv hcv4 hcv5 hcv6 hcv7 q0 q1 HC HB4 HB5 HB6 HB7 HP3 HP4 HP5 HP6 HBy
    generalize (flD (wrD D n s).1).1 = D7 at HP7 HOk7
    have HC2 := Lib.hid (fun V (t : Two Rep LRep w0 V b g h o q F3 G4 D7 D7 none none) => t.s.crash (devF_of HB) B cB ps (HX.out.at_.below t.bel) (fun hp x hx hf => by have := ints_lt HX.out.at_ hp x hx; have := t.bF _ hf; omega) HX.out.p8 HX.out.pr)
    go_upto_region 9 with fail
    go_region_with (first
      | (refine (HC2.out _ (HP7.out.step HB HL (Below.refl _ _).drew)).mono ?_
         rintro e W8 ⟨rfl, F8, hs1, hf1⟩
         have hp1 := (HP7.out.step HB HL (Below.refl _ _).drew).actD hs1 hf1
         have kx8 := (fr_cell hf1 (a := ⟨a, 4, none⟩) hla7 hlf7).trans kp7
         have kk8 := hp1.cel.cell (i := 1) rfl
         have HP8 := Lib.hid hp1
         clear hs1 hf1 hp1 kp7 kk70 kk71))
    all_goals
      have HR := Lib.hid (fun V (t : Two Rep LRep w0 V b g h o q F8 G4 (crD D7 ps) D7 none none) => t.r.crash docDev B cB ps (HX.out.at_.below t.bel) (fun hp x hx hf => by have := ints_lt HX.out.at_ hp x hx; have := t.bG _ hf; omega) HX.out.p8 HX.out.pr)
      go_upto_region 10 with fail
      go_region_with (first
        | (refine (HR.out _ (HP8.out.step HB HL (Below.refl _ _).drew)).mono ?_
           rintro e W9 ⟨rfl, G9, hs2, hf2⟩
           have HP9 := Lib.hid ((HP8.out.step HB HL (Below.refl _ _).drew).actR HB HL hs2 hf2)
           clear hs2 hf2))
      all_goals
        have HOk := Lib.hid (HP9.out.s.ok (devF_of HB))
        go_wp2_with fail
        refine (both_open HB HL HP9.out).mono ?_
        rintro e W10 ⟨rfl, F10, G10, o3, q3, hp3, ho3, hq3⟩
        have HP10 := Lib.hid (And.intro hp3 (two_open HOk.out ho3 hq3 (m + 1)))
        clear hp3 ho3 hq3
        go_wp2_with fail
        go_ret
        exact ⟨rfl, _, _, _, _, _, HP10.out.1, HP10.out.2⟩

end

end Rd
end Go.Proofs.YtjehjbkcdpidbaaGreat

/- An Append, of both logs: contract; over what is asked; no condition but the ranges. -/
namespace Go.Proofs.YtjehjbkcdpidbaaGreat
namespace Rd
open Go.RowKit Sc Bk

attribute [local go_sem ↓] Go.wp_at_zero Go.wp_at_succ
attribute [local go_sem] floatUpon pick

section
variable {Rep : RepT} {LRep : LRepT} {w0 W : World} {b g h m y k : Nat} {l l2 : Lg} {o q : Option (Nat × Lg)} {F G : Nat → Prop} {D : Dev}

set_option maxRecDepth 20000 in
set_option maxHeartbeats 8000000 in
theorem pstep_app (HB : DevBase Rep) (HL : LogAll Rep LRep) (p : Two Rep LRep w0 W b g h (some (y, l)) (some (k, l)) F G D D (some (y, l)) (some (k, l))) (p2 : Two2 D (some (y, l)) (some (k, l)) m) (x : RAct) (hx : RActOk w0 x) (hd : D.down = false) (hk : amongV x.kind 6 = 0) :
    Calls Tryz.prog 10 #[.pointer (some ⟨b, 0, none⟩), racV x] W (StepPost Rep LRep w0 b g h (m + 1)) := by
  obtain ⟨kind, n, text, A, c, ts, B, cB, ps⟩ := x
  have HX := Lib.hid hx
  clear hx
  unfold racV
  simp only at hk ⊢
  have HAm := Lib.hid (fun V => among_any kind 6 V (by omega) (by omega))
  rw [hk] at HAm
  have hal := p.step HB HL ((Below.refl _ W).alloc (Nat.le_refl _) (.cells #[.int .i64 kind, .int .i64 n, .string text, .slice A ts.length c, .slice B ps.length cB] 40))
  have hbx : Cel (W.alloc (.cells #[.int .i64 kind, .int .i64 n, .string text, .slice A ts.length c, .slice B ps.length cB] 40)) W.heap.size 40 [.int .i64 kind, .int .i64 n, .string text, .slice A ts.length c, .slice B ps.length cB] := (blk1 W _).2
  have hbf : ¬ F W.heap.size := fun hf => by have := p.s.lt (devF_of HB) HL.log _ hf; omega
  have hbg : ¬ G W.heap.size := fun hf => by have := p.r.lt docDev docLog _ hf; omega
  have hlt : W.heap.size < (W.alloc (.cells #[.int .i64 kind, .int .i64 n, .string text, .slice A ts.length c, .slice B ps.length cB] 40)).heap.size := by simp
  clear p hk
  go_enter Tryz.func10, Tryz.ntmps10
  go_upto_region 1 with fail
  generalize W.alloc (.cells #[.int .i64 kind, .int .i64 n, .string text, .slice A ts.length c, .slice B ps.length cB] 40) = W1 at hal hbx hlt ⊢
  generalize W.heap.size = a at hbx hbf hbg hlt ⊢
  have HP := Lib.hid hal
  have HA := Lib.hid (And.intro hbx (And.intro hbf (And.intro hbg hlt)))
  have x0 := hbx.cell (i := 0) rfl
  have k1 := hal.cel.cell (i := 1) rfl
  have k2 := hal.cel.cell (i := 2) rfl
  have k3 := hal.cel.cell (i := 3) rfl
  have kd := hal.down
  clear hal hbx hbf hbg hlt
  unfold ptrV at k2 k3
  rw [hd] at kd
  have HI := Lib.hid (p2.lg _ _ rfl hd)
  have kx := HA.out.1.cell (i := 2) rfl
  go_wp2_with fail
  refine (HAm.out _).mono ?_
  rintro e W2 ⟨rfl, rfl⟩
  have HC := Lib.hid (fun V (t : Two Rep LRep w0 V b g h (some (y, l)) (some (k, l)) F G D D (some (y, l)) (some (k, l))) => t.s.app HL.log HI.out.1 hd text HX.out.text)
  have q0 := beq_self_eq_true (appendP D l text).2
  go_upto_region 8 with fail
  go_region_with (first
    | (refine (HC.out _ (HP.out.step HB HL (Below.refl _ _).drew)).mono ?_
       rintro e W4 ⟨rfl, F1, hs1, hf1⟩
       have hp1 := (HP.out.step HB HL (Below.refl _ _).drew).actD hs1 hf1
       have kx1 := (fr_cell hf1 (a := ⟨a, 2, none⟩) HA.out.2.2.2 HA.out.2.1).trans kx
       have kk1 := hp1.cel.cell (i := 3) rfl
       unfold ptrV at kk1
       have HP1 := Lib.hid hp1
       clear hs1 hf1 hp1)
    | (refine (HP1.out.r.app docLog HI.out.1 hd text HX.out.text).mono ?_
       rintro e W5 ⟨rfl, G1, hs2, hf2⟩
       have HP2 := Lib.hid (HP1.out.actR HB HL hs2 hf2)
       clear hs2 hf2))
  all_goals
    go_wp2_with fail
    go_ret
    exact ⟨rfl, _, _, _, _, _, HP2.out.ptr rfl rfl, two_app (HP.out.s.ok (devF_of HB)) p2 hd text⟩

end

end Rd
end Go.Proofs.YtjehjbkcdpidbaaGreat

/- A Sync, of both logs: contract; over what is asked; no condition but the ranges. -/
namespace Go.Proofs.YtjehjbkcdpidbaaGreat
namespace Rd
open Go.RowKit Sc Bk

attribute [local go_sem ↓] Go.wp_at_zero Go.wp_at_succ
attribute [local go_sem] floatUpon pick

section
variable {Rep : RepT} {LRep : LRepT} {w0 W : World} {b g h m y k : Nat} {l l2 : Lg} {o q : Option (Nat × Lg)} {F G : Nat → Prop} {D : Dev}

set_option maxRecDepth 20000 in
set_option maxHeartbeats 8000000 in
theorem pstep_syn (HB : DevBase Rep) (HL : LogAll Rep LRep) (p : Two Rep LRep w0 W b g h (some (y, l)) (some (k, l)) F G D D (some (y, l)) (some (k, l))) (p2 : Two2 D (some (y, l)) (some (k, l)) m) (x : RAct) (hx : RActOk w0 x) (hd : D.down = false) (hk : amongV x.kind 6 = 1) (hm : m ≤ 60) :
    Calls Tryz.prog 10 #[.pointer (some ⟨b, 0, none⟩), racV x] W (StepPost Rep LRep w0 b g h (m + 1)) := by
  obtain ⟨kind, n, text, A, c, ts, B, cB, ps⟩ := x
  have HX := Lib.hid hx
  clear hx
  unfold racV
  simp only at hk ⊢
  have HAm := Lib.hid (fun V => among_any kind 6 V (by omega) (by omega))
  rw [hk] at HAm
  have hal := p.step HB HL ((Below.refl _ W).alloc (Nat.le_refl _) (.cells #[.int .i64 kind, .int .i64 n, .string text, .slice A ts.length c, .slice B ps.length cB] 40))
  have hbx : Cel (W.alloc (.cells #[.int .i64 kind, .int .i64 n, .string text, .slice A ts.length c, .slice B ps.length cB] 40)) W.heap.size 40 [.int .i64 kind, .int .i64 n, .string text, .slice A ts.length c, .slice B ps.length cB] := (blk1 W _).2
  have hbf : ¬ F W.heap.size := fun hf => by have := p.s.lt (devF_of HB) HL.log _ hf; omega
  have hbg : ¬ G W.heap.size := fun hf => by have := p.r.lt docDev docLog _ hf; omega
  have hlt : W.heap.size < (W.alloc (.cells #[.int .i64 kind, .int .i64 n, .string text, .slice A ts.length c, .slice B ps.length cB] 40)).heap.size := by simp
  clear p hk
  go_enter Tryz.func10, Tryz.ntmps10
  go_upto_region 1 with fail
  generalize W.alloc (.cells #[.int .i64 kind, .int .i64 n, .string text, .slice A ts.length c, .slice B ps.length cB] 40) = W1 at hal hbx hlt ⊢
  generalize W.heap.size = a at hbx hbf hbg hlt ⊢
  have HP := Lib.hid hal
  have HA := Lib.hid (And.intro hbx (And.intro hbf (And.intro hbg hlt)))
  have x0 := hbx.cell (i := 0) rfl
  have k1 := hal.cel.cell (i := 1) rfl
  have k2 := hal.cel.cell (i := 2) rfl
  have k3 := hal.cel.cell (i := 3) rfl
  have kd := hal.down
  clear hal hbx hbf hbg hlt
  unfold ptrV at k2 k3
  rw [hd] at kd
  have HI := Lib.hid (p2.lg _ _ rfl hd)
  go_wp2_with fail
  refine (HAm.out _).mono ?_
  rintro e W2 ⟨rfl, rfl⟩
  have HC := Lib.hid (fun V (t : Two Rep LRep w0 V b g h (some (y, l)) (some (k, l)) F G D D (some (y, l)) (some (k, l))) => t.s.syn HL.log HI.out.1 hd)
  have q0 := beq_self_eq_true (syncP D l).2.2
  go_upto_region 10 with fail
  go_region_with (first
    | (refine (HC.out _ (HP.out.step HB HL (Below.refl _ _).drew)).mono ?_
       rintro e W4 ⟨rfl, F1, hs1, hf1⟩
       have hp1 := (HP.out.step HB HL (Below.refl _ _).drew).actD hs1 hf1
       have kk1 := hp1.cel.cell (i := 3) rfl
       unfold ptrV at kk1
       have HP1 := Lib.hid hp1
       clear hs1 hf1 hp1)
    | (refine (HP1.out.r.syn docLog HI.out.1 hd).mono ?_
       rintro e W5 ⟨rfl, G1, hs2, hf2⟩
       have HP2 := Lib.hid (HP1.out.actR HB HL hs2 hf2)
       clear hs2 hf2))
  all_goals
    go_wp2_with fail
    go_ret
    exact ⟨rfl, _, _, _, _, _, HP2.out.ptr rfl rfl, two_syn (HP.out.s.ok (devF_of HB)) p2 hd hm⟩

end

end Rd
end Go.Proofs.YtjehjbkcdpidbaaGreat

/- A Restart, of both logs: contract; over what is asked; no condition but the ranges. -/
namespace Go.Proofs.YtjehjbkcdpidbaaGreat
namespace Rd
open Go.RowKit Sc Bk

attribute [local go_sem ↓] Go.wp_at_zero Go.wp_at_succ
attribute [local go_sem] floatUpon pick

section
variable {Rep : RepT} {LRep : LRepT} {w0 W : World} {b g h m y k : Nat} {l l2 : Lg} {o q : Option (Nat × Lg)} {F G : Nat → Prop} {D : Dev}

theorem texts_step {w W : World} {v : Value} {l : List ByteArray} (h : TextsOf w v l) (hb : Below w.heap.size w W) : TextsOf W v l := by
  obtain ⟨A, c, e, hst, r⟩ := h
  exact ⟨A, c, e, hst.below hb, r⟩

/-- .. over what may change other blocks -/
theorem texts_fr {w W : World} {F F' : Nat → Prop} {A : Option Addr} {c : Nat} {l : List ByteArray} (h : TextsOf w (.slice A l.length c) l) (hf : Fr F F' w W) (hn : 0 < l.length → ∀ x, A = some x → ¬ F x.block) : TextsOf W (.slice A l.length c) l := by
  obtain ⟨A', c', e, hst, r⟩ := h
  simp only [Value.slice.injEq, true_and] at e
  obtain ⟨rfl, rfl⟩ := e
  refine ⟨A, c, rfl, fun hp => ?_, r⟩
  obtain ⟨ad, e1, h2, h3⟩ := hst hp
  refine ⟨ad, e1, Nat.lt_of_lt_of_le h2 hf.size, fun i hi => ?_⟩
  exact (fr_cell hf (a := ad.add i) (by rw [st_block]; exact h2) (by rw [st_block]; exact hn hp ad e1)).trans (h3 i hi)

theorem texts_at {w : World} {A : Option Addr} {c : Nat} {l : List ByteArray} (h : TextsOf w (.slice A l.length c) l) : StrsAt w A l ∧ (A = none → l = [] ∧ c = 0) ∧ l.length * 16 ≤ reachBytes ∧ (∀ s ∈ l, s.size ≤ reachBytes) := by
  obtain ⟨A', c', e, hst, h1, h2, h3, _⟩ := h
  simp only [Value.slice.injEq, true_and] at e
  obtain ⟨rfl, rfl⟩ := e
  exact ⟨hst, h1, h2, h3⟩

theorem texts_lt {w : World} {A : Option Addr} {c : Nat} {l : List ByteArray} (h : TextsOf w (.slice A l.length c) l) : 0 < l.length → ∀ x, A = some x → x.block < w.heap.size := fun hp x hx => by
  obtain ⟨ad, e1, h2, _⟩ := (texts_at h).1 hp
  rw [e1] at hx
  cases hx
  exact h2

theorem row_kept {w W : World} {H size n : Nat} {e : TypeId} {v : Value} {xs : List Value} (h : w.ownsRow H e size v n xs) (hk : ∀ g, v.ownBlock = some g → W.heap[g]? = w.heap[g]?) : W.ownsRow H e size v n xs := by
  rcases h with ⟨hl, hn | ⟨g, cap, cur, hv, hb, hg, rest⟩⟩
  · exact ⟨hl, .inl hn⟩
  · exact ⟨hl, .inr ⟨g, cap, cur, hv, hb, (hk g (by rw [hv]; rfl)).trans hg, rest⟩⟩

/-- what was lent lies beside both sides -/
structure Lent (W : World) (H : Nat) (F G : Nat → Prop) (gg cap : Nat) (l : List ByteArray) : Prop where
  own : W.ownsRow H 9 1 (.slice (some ⟨gg, 0, none⟩) (l.length + 1) cap) (l.length + 1) (strV l ++ [.string markS])
  lt : gg < W.heap.size
  nf : ¬ F gg
  ng : ¬ G gg

theorem Lent.actD {W W' : World} {H gg cap : Nat} {F G F' : Nat → Prop} {l : List ByteArray} (h : Lent W H F G gg cap l) (hf : Fr F F' W W') : Lent W' H F' G gg cap l :=
  ⟨row_kept h.own (fun g e => by cases e; exact hf.block gg h.lt h.nf), Nat.lt_of_lt_of_le h.lt hf.size, fun hk => (hf.foot gg hk).elim h.nf (fun hs => by have := h.lt; omega), h.ng⟩

theorem Lent.actR {W W' : World} {H gg cap : Nat} {F G G' : Nat → Prop} {l : List ByteArray} (h : Lent W H F G gg cap l) (hf : Fr G G' W W') : Lent W' H F G' gg cap l :=
  ⟨row_kept h.own (fun g e => by cases e; exact hf.block gg h.lt h.ng), Nat.lt_of_lt_of_le h.lt hf.size, h.nf, fun hk => (hf.foot gg hk).elim h.ng (fun hs => by have := h.lt; omega)⟩

theorem Lent.drew {W : World} {H gg cap : Nat} {F G : Nat → Prop} {l : List ByteArray} (h : Lent W H F G gg cap l) : Lent W.drew H F G gg cap l := ⟨h.own, h.lt, h.nf, h.ng⟩

set_option maxRecDepth 20000 in
set_option maxHeartbeats 8000000 in
theorem pstep_rst (HB : DevBase Rep) (HL : LogAll Rep LRep) (p : Two Rep LRep w0 W b g h (some (y, l)) (some (k, l)) F G D D (some (y, l)) (some (k, l))) (p2 : Two2 D (some (y, l)) (some (k, l)) m) (x : RAct) (hx : RActOk w0 x) (hd : D.down = false) (hk : amongV x.kind 6 = 2) (hm : m ≤ 60) :
    Calls Tryz.prog 10 #[.pointer (some ⟨b, 0, none⟩), racV x] W (StepPost Rep LRep w0 b g h (m + 1)) := by
  obtain ⟨kind, n, text, A, c, ts, B, cB, ps⟩ := x
  have HX := Lib.hid hx
  clear hx
  unfold racV
  simp only at hk ⊢
  have HAm := Lib.hid (fun V => among_any kind 6 V (by omega) (by omega))
  rw [hk] at HAm
  have hal := p.step HB HL ((Below.refl _ W).alloc (Nat.le_refl _) (.cells #[.int .i64 kind, .int .i64 n, .string text, .slice A ts.length c, .slice B ps.length cB] 40))
  have hbx : Cel (W.alloc (.cells #[.int .i64 kind, .int .i64 n, .string text, .slice A ts.length c, .slice B ps.length cB] 40)) W.heap.size 40 [.int .i64 kind, .int .i64 n, .string text, .slice A ts.length c, .slice B ps.length cB] := (blk1 W _).2
  have hbf : ¬ F W.heap.size := fun hf => by have := p.s.lt (devF_of HB) HL.log _ hf; omega
  have hbg : ¬ G W.heap.size := fun hf => by have := p.r.lt docDev docLog _ hf; omega
  have hlt : W.heap.size < (W.alloc (.cells #[.int .i64 kind, .int .i64 n, .string text, .slice A ts.length c, .slice B ps.length cB] 40)).heap.size := by simp
  clear p hk
  go_enter Tryz.func10, Tryz.ntmps10
  go_upto_region 1 with fail
  generalize W.alloc (.cells #[.int .i64 kind, .int .i64 n, .string text, .slice A ts.length c, .slice B ps.length cB] 40) = W1 at hal hbx hlt ⊢
  generalize W.heap.size = a at hbx hbf hbg hlt ⊢
  have HP := Lib.hid hal
  have HA := Lib.hid (And.intro hbx (And.intro hbf (And.intro hbg hlt)))
  have x0 := hbx.cell (i := 0) rfl
  have k1 := hal.cel.cell (i := 1) rfl
  have k2 := hal.cel.cell (i := 2) rfl
  have k3 := hal.cel.cell (i := 3) rfl
  have kd := hal.down
  clear hal hbx hbf hbg hlt
  unfold ptrV at k2 k3
  rw [hd] at kd
  have HI := Lib.hid (p2.lg _ _ rfl hd)
  have kx := HA.out.1.cell (i := 3) rfl
  have HTo : Hid (TextsOf W1 (.slice A ts.length c) ts) := Lib.hid (texts_step HX.out.tOf (HP.out.bel))
  go_wp2_with fail
  refine (HAm.out _).mono ?_
  rintro e W2 ⟨rfl, rfl⟩
  go_wp2_with fail
  refine (lend_any _ ts _ HTo.out).mono ?_
  rintro e W3 ⟨gg, cap, rfl, how, hb⟩
  have hgg : W2.heap.size ≤ gg ∧ gg < W3.heap.size := by
    obtain ⟨g', cap', hv, h1, h2⟩ := World.ownsRow.form how (by omega)
    simp only [Value.slice.injEq, Option.some.injEq, Addr.mk.injEq] at hv
    obtain ⟨⟨rfl, -⟩, -⟩ := hv
    exact ⟨h1, h2⟩
  have hp3 := HP.out.step HB HL hb
  have HL3 : Hid (Lent W3 W2.heap.size F G gg cap ts) := Lib.hid ⟨how, hgg.2, fun hf => by have := HP.out.s.lt (devF_of HB) HL.log _ hf; omega, fun hf => by have := HP.out.r.lt docDev docLog _ hf; omega⟩
  have HT3 := Lib.hid (texts_step HTo.out hb)
  have kx3 := (cell_kept hb ⟨a, 3, none⟩ HA.out.2.2.2).trans kx
  have hla : a < W3.heap.size := Nat.lt_of_lt_of_le HA.out.2.2.2 hb.size
  have HN := Lib.hid (And.intro HA.out.2.1 (And.intro HA.out.2.2.1 hla))
  have HTn : Hid (0 < ts.length → ∀ x, A = some x → ¬ F x.block ∧ ¬ G x.block) := Lib.hid (fun hp x hx => by
    have h1 := texts_lt HX.out.tOf hp x hx
    exact ⟨fun hf => by have := HP.out.bF _ hf; omega, fun hf => by have := HP.out.bG _ hf; omega⟩)
  have HP3 := Lib.hid hp3
  have k1 := hp3.cel.cell (i := 1) rfl
  have k2 := hp3.cel.cell (i := 2) rfl
  have k3 := hp3.cel.cell (i := 3) rfl
  unfold ptrV at k2 k3
  have HOk := Lib.hid (HP.out.s.ok (devF_of HB))
  clear hp3 how hgg hb kx hla HP HTo HAm x0 kd
  have HC := Lib.hid (fun V (t : Two Rep LRep w0 V b g h (some (y, l)) (some (k, l)) F G D D (some (y, l)) (some (k, l))) (e : Lent V W2.heap.size F G gg cap ts) => t.s.rst HL.log HI.out.1 hd (some ⟨gg, 0, none⟩) cap ts (lent_strs e.own) (fun h => by cases h) (fun _ x hx => by cases hx; exact ⟨e.lt, e.nf⟩) (texts_at HX.out.tOf).2.2.1 (texts_at HX.out.tOf).2.2.2 HX.out.cat)
  have q0 := beq_self_eq_true (restartP D l ts).2.2
  go_upto_region 12 with fail
  go_region_with (first
    | (refine (HC.out _ (HP3.out.step HB HL (Below.refl _ _).drew) HL3.out.drew).mono ?_
       rintro e W4 ⟨rfl, F1, hs1, hf1⟩
       have hp1 := (HP3.out.step HB HL (Below.refl _ _).drew).actD hs1 hf1
       have kx4 := (fr_cell hf1 (a := ⟨a, 3, none⟩) HN.out.2.2 HN.out.1).trans kx3
       have HL4 := Lib.hid (HL3.out.drew.actD hf1)
       have HT4 := Lib.hid (texts_fr (texts_step HT3.out (Below.refl _ _).drew) hf1 (fun hp x hx => (HTn.out hp x hx).1))
       have kk1 := hp1.cel.cell (i := 3) rfl
       unfold ptrV at kk1
       have HP4 := Lib.hid hp1
       have hla4 := Nat.lt_of_lt_of_le HN.out.2.2 hf1.size
       clear hs1 hf1 hp1)
    | (refine (HP4.out.r.rst docLog HI.out.1 hd A c ts (texts_at HT4.out).1 (fun h => ((texts_at HT4.out).2.1 h).2) (fun hp x hx => ⟨texts_lt HT4.out hp x hx, (HTn.out hp x hx).2⟩) (texts_at HT4.out).2.2.1 (texts_at HT4.out).2.2.2 HX.out.cat).mono ?_
       rintro e W5 ⟨rfl, G1, hs2, hf2⟩
       have kx5 := (fr_cell hf2 (a := ⟨a, 3, none⟩) hla4 HN.out.2.1).trans kx4
       have HL5 := Lib.hid (HL4.out.actR hf2)
       have HT5 := Lib.hid (texts_fr HT4.out hf2 (fun hp x hx => (HTn.out hp x hx).2))
       have HP5 := Lib.hid (HP4.out.actR HB HL hs2 hf2)
       clear hs2 hf2)
    | (refine (kept_any _ gg cap _ ts _ HT5.out HL5.out.own).mono ?_
       rintro e W6 ⟨rfl, n6, rfl⟩
       have HP6 := Lib.hid (HP5.out.step HB HL (below_drew _ _ n6)))
    )
  all_goals
    go_wp2_with fail
    go_ret
    exact ⟨rfl, _, _, _, _, _, HP6.out.ptr rfl rfl, two_rst HOk.out p2 hd hm ts⟩

end

end Rd
end Go.Proofs.YtjehjbkcdpidbaaGreat

/- Texts that were given are overwritten: contract; no condition but the range. -/
namespace Go.Proofs.YtjehjbkcdpidbaaGreat
namespace Rd
open Go.RowKit Sc Bk

attribute [local go_sem ↓] Go.wp_at_zero Go.wp_at_succ
attribute [local go_sem] floatUpon pick

def OnlyA (A : Option Addr) : Nat → Prop := fun k => ∃ x, A = some x ∧ k = x.block

set_option maxRecDepth 20000 in
set_option maxHeartbeats 8000000 in
theorem spoil_any (A : Option Addr) (c n : Nat) (w : World) (hn : n ≤ 9223372036854775807) (h : 0 < n → ∃ gg xs, A = some ⟨gg, 0, none⟩ ∧ Cel w gg 9 xs ∧ n ≤ xs.length) :
    Calls Tryz.prog 28 #[.slice A n c] w fun e w' => e = .returned (.tuple #[]) ∧ Fr (OnlyA A) (OnlyA A) w w' := by
  have H := Lib.hid h
  clear h
  go_enter Tryz.func28, Tryz.ntmps28
  go_wp2_with fail
  go_loopw [2] (fun i wr => ∃ (j : Nat), j ≤ n ∧ i = .int .i64 (j : Int) ∧ Hid (Fr (OnlyA A) (OnlyA A) w wr) ∧ Hid (0 < n → ∃ gg xs, A = some ⟨gg, 0, none⟩ ∧ Cel wr gg 9 xs ∧ n ≤ xs.length)) (fun i _ => n - (intOf i).toNat)
  case atStart => exact ⟨0, Nat.zero_le _, rfl, Lib.hid (Fr.refl _ _), H⟩
  case round =>
    obtain ⟨j, hj, rfl, hf, hc⟩ := hrel
    clear H
    by_cases hlt : j < n
    case neg =>
      have pj : ¬ (j : Int) < (n : Int) := by omega
      go_wp2_with fail
      exact bodyPost_end (results_none rfl _ _ _) rfl ⟨rfl, hf.out⟩
    have pj : (j : Int) < (n : Int) := by omega
    obtain ⟨gg, xs, rfl, hcel, hlen⟩ := hc.out (by omega)
    obtain ⟨u, hu⟩ : ∃ u, xs[j]? = some u := ⟨_, List.getElem?_eq_getElem (by omega)⟩
    have d0 := hcel.cell (i := j) hu
    have d1 := hcel.free (i := j)
    have HC := Lib.hid (And.intro hcel hlen)
    clear hcel hlen hu hc
    go_wp2_with fail
    go_roundw
    case rel => exact ⟨j + 1, by omega, by go_num, Lib.hid (hf.out.set (p := ⟨gg, j, none⟩) ⟨_, rfl, rfl⟩ _), Lib.hid (fun _ => ⟨gg, _, rfl, HC.out.1.set (i := j), by rw [List.length_set]; exact HC.out.2⟩)⟩
    case measure => simp [intOf]; omega

theorem spoil_row {W : World} {H n : Nat} {A : Option Addr} {c : Nat} {xs : List Value} (h : W.ownsRow H 9 1 (.slice A n c) n xs) : 0 < n → ∃ gg ys, A = some ⟨gg, 0, none⟩ ∧ Cel W gg 9 ys ∧ n ≤ ys.length := fun hn => by
  rcases h.2 with ⟨_, h0⟩ | ⟨g, cap, cur, hv, _, hg, hnc, _, hz, _⟩
  · omega
  · simp only [Value.slice.injEq, true_and] at hv
    obtain ⟨rfl, rfl⟩ := hv
    exact ⟨g, cur.toList, rfl, by unfold Cel; rw [hg], by rw [Array.length_toList]; omega⟩

end Rd
end Go.Proofs.YtjehjbkcdpidbaaGreat

/- Whether both logs are the same, and all sectors: contract; over what is asked; no condition but the ranges. By wip/gen_rdpsame.py. -/
namespace Go.Proofs.YtjehjbkcdpidbaaGreat
namespace Rd
open Go.RowKit Sc Bk

attribute [local go_sem ↓] Go.wp_at_zero Go.wp_at_succ
attribute [local go_sem] floatUpon pick

section
variable {Rep : RepT} {LRep : LRepT} {w0 W : World} {b g h m y k : Nat} {l l2 : Lg} {o q : Option (Nat × Lg)} {F G : Nat → Prop} {D : Dev}

/-- where the document's sectors lie -/
theorem Two.on {vl vk : Option (Nat × Lg)} {E : Dev} (p : Two Rep LRep w0 W b g h vl vk F G D E o q) : ∃ ao co, W.cell? ⟨h, 0, none⟩ = some (.slice (some ao) E.on.length co) := by
  obtain ⟨Fd, _, ao, an, co, cn, so, sn, _, h1, _⟩ := p.r.dev
  exact ⟨ao, co, h1.cel.cell (i := 0) rfl⟩

set_option maxRecDepth 20000 in
set_option maxHeartbeats 8000000 in
theorem psame_none (HB : DevBase Rep) (HL : LogAll Rep LRep) (p : Two Rep LRep w0 W b g h none none F G D D none none) (p2 : Two2 D none none m) :
    Calls Tryz.prog 9 #[.pointer (some ⟨b, 0, none⟩)] W (StepPost Rep LRep w0 b g h m) := by
  have HP := Lib.hid p
  have hj0 : D.on.length ≤ 2048 := (p.s.ok (devF_of HB)).max
  have k2 := p.cel.cell (i := 2) rfl
  clear p
  unfold ptrV at k2
  go_enter Tryz.func9, Tryz.ntmps9
  go_wp2_with fail
  clear k2
  go_loopw [4] (fun i wr => ∃ (j : Nat) (F1 G1 : Nat → Prop), j ≤ D.on.length ∧ i = .int .i64 (j : Int) ∧ Hid (Two Rep LRep w0 wr b g h none none F1 G1 D D none none)) (fun i _ => D.on.length - (intOf i).toNat)
  case atStart => exact ⟨0, _, _, Nat.zero_le _, rfl, HP⟩
  case round =>
    obtain ⟨j, F1, G1, hj, rfl, hp⟩ := hrel
    obtain ⟨aon, con, kon⟩ := hp.out.on
    have k1 := hp.out.cel.cell (i := 1) rfl
    have k0 := hp.out.cel.cell (i := 0) rfl
    by_cases hlt : j < D.on.length
    case neg =>
      have pj : ¬ (j : Int) < (D.on.length : Int) := by omega
      go_wp2_with fail
      go_ret
      exact ⟨rfl, _, _, _, _, _, hp.out, p2⟩
    have pj : (j : Int) < (D.on.length : Int) := by omega
    have HR := Lib.hid (hp.out.s.read (devF_of HB) HL.log (j : Int) (by omega))
    have q0 := beq_self_eq_true (rdV D (j : Int)).2
    have q2 := text_eq (rdV D (j : Int)).1
    go_wp2_with fail
    refine HR.out.mono ?_
    rintro e Wa ⟨rfl, F2, hs1, hf1⟩
    have hp1 := hp.out.actD hs1 hf1
    have kk1 := hp1.cel.cell (i := 1) rfl
    have HR2 := Lib.hid (hp1.r.read docDev docLog (j : Int) (by omega))
    have HP1 := Lib.hid hp1
    clear hs1 hf1 hp1 kon k0 k1 HR hp
    generalize (rdV D (j : Int)).1 = ra at *
    generalize (rdV D (j : Int)).2 = rb at *
    go_wp2_with fail
    refine HR2.out.mono ?_
    rintro e Wb ⟨rfl, G2, hs2, hf2⟩
    have HP2 := Lib.hid (HP1.out.actR HB HL hs2 hf2)
    clear hs2 hf2 HR2 kk1 HP1
    go_wp2_with fail
    go_roundw
    case rel => exact ⟨j + 1, _, _, by omega, by go_num, HP2⟩
    case measure => simp [intOf]; omega

set_option maxRecDepth 20000 in
set_option maxHeartbeats 8000000 in
theorem psame_down (HB : DevBase Rep) (HL : LogAll Rep LRep) (p : Two Rep LRep w0 W b g h (some (y, l)) (some (k, l2)) F G D D (some (y, l)) (some (k, l2))) (p2 : Two2 D (some (y, l)) (some (k, l2)) m) (hd : D.down = true) :
    Calls Tryz.prog 9 #[.pointer (some ⟨b, 0, none⟩)] W (StepPost Rep LRep w0 b g h m) := by
  have HP := Lib.hid p
  have hj0 : D.on.length ≤ 2048 := (p.s.ok (devF_of HB)).max
  have k1 := p.cel.cell (i := 1) rfl
  have k2 := p.cel.cell (i := 2) rfl
  have k3 := p.cel.cell (i := 3) rfl
  have kd := p.down
  rw [hd] at kd
  clear p hd
  unfold ptrV at k2 k3
  go_enter Tryz.func9, Tryz.ntmps9
  go_wp2_with fail
  clear k1 k2 k3 kd
  go_loopw [4] (fun i wr => ∃ (j : Nat) (F1 G1 : Nat → Prop), j ≤ D.on.length ∧ i = .int .i64 (j : Int) ∧ Hid (Two Rep LRep w0 wr b g h (some (y, l)) (some (k, l2)) F1 G1 D D (some (y, l)) (some (k, l2)))) (fun i _ => D.on.length - (intOf i).toNat)
  case atStart => exact ⟨0, _, _, Nat.zero_le _, rfl, HP⟩
  case round =>
    obtain ⟨j, F1, G1, hj, rfl, hp⟩ := hrel
    obtain ⟨aon, con, kon⟩ := hp.out.on
    have k1 := hp.out.cel.cell (i := 1) rfl
    have k0 := hp.out.cel.cell (i := 0) rfl
    by_cases hlt : j < D.on.length
    case neg =>
      have pj : ¬ (j : Int) < (D.on.length : Int) := by omega
      go_wp2_with fail
      go_ret
      exact ⟨rfl, _, _, _, _, _, hp.out, p2⟩
    have pj : (j : Int) < (D.on.length : Int) := by omega
    have HR := Lib.hid (hp.out.s.read (devF_of HB) HL.log (j : Int) (by omega))
    have q0 := beq_self_eq_true (rdV D (j : Int)).2
    have q2 := text_eq (rdV D (j : Int)).1
    go_wp2_with fail
    refine HR.out.mono ?_
    rintro e Wa ⟨rfl, F2, hs1, hf1⟩
    have hp1 := hp.out.actD hs1 hf1
    have kk1 := hp1.cel.cell (i := 1) rfl
    have HR2 := Lib.hid (hp1.r.read docDev docLog (j : Int) (by omega))
    have HP1 := Lib.hid hp1
    clear hs1 hf1 hp1 kon k0 k1 HR hp
    generalize (rdV D (j : Int)).1 = ra at *
    generalize (rdV D (j : Int)).2 = rb at *
    go_wp2_with fail
    refine HR2.out.mono ?_
    rintro e Wb ⟨rfl, G2, hs2, hf2⟩
    have HP2 := Lib.hid (HP1.out.actR HB HL hs2 hf2)
    clear hs2 hf2 HR2 kk1 HP1
    go_wp2_with fail
    go_roundw
    case rel => exact ⟨j + 1, _, _, by omega, by go_num, HP2⟩
    case measure => simp [intOf]; omega

end

end Rd
end Go.Proofs.YtjehjbkcdpidbaaGreat
