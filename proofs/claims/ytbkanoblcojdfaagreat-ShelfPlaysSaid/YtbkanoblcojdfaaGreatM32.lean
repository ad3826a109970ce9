/- Parts of the proof, joined: ShCopy, ShPl3, ShPl3b, ShPl4; their conditions stand with each. -/
import Derived.Deep.RegionHeld3
import Derived.Test.YtbkanoblcojdfaaGreatM6
import Derived.Test.YtbkanoblcojdfaaGreatM31

namespace Go.Proofs.YtbkanoblcojdfaaGreat
namespace Sh
open Go.RowKit Bk Ch Lt Rc Tr
attribute [local go_sem ↓] Go.wp_at_zero Go.wp_at_succ
attribute [local go_sem] floatUpon pick
def FrW (w : World) (y : RI) : Prop := 0 < y.l.ws.length → ∃ gg xs, y.B = some ⟨gg, 0, none⟩ ∧ Cel w gg 45 xs ∧ y.l.ws.length * 3 ≤ xs.length
theorem FrW.keep {w w' : World} {y : RI} (h : FrW w y) (hk : ∀ ad, y.B = some ad → ad.block < w.heap.size → w'.heap[ad.block]? = w.heap[ad.block]?) : FrW w' y := fun hp => by
  obtain ⟨gg, xs, e, hc, hl⟩ := h hp
  exact ⟨gg, xs, e, (hk _ e hc.lt).trans hc, hl⟩
theorem FrW.below {w w' : World} {y : RI} (h : FrW w y) (hb : Below w.heap.size w w') : FrW w' y := h.keep fun _ _ hl => hb.block _ hl
theorem FrW.row {W : World} {H : Nat} {y : RI} (h : W.ownsRow H 45 3 (.slice y.B y.l.ws.length y.d) y.l.ws.length (wrV y.l.ws)) : FrW W y := fun hn => by
  rcases h.2 with ⟨_, h0⟩ | ⟨g, cap, cur, hv, _, hg, hnc, _, hz, _⟩
  · omega
  · simp only [Value.slice.injEq, true_and] at hv
    obtain ⟨e1, e2⟩ := hv
    exact ⟨g, cur.toList, e1, by unfold Cel; rw [hg], by rw [Array.length_toList, hz]; exact Nat.mul_le_mul_right 3 hnc⟩
set_option maxRecDepth 20000 in
set_option maxHeartbeats 8000000 in
theorem copyN_any (A B : Option Addr) (c d : Nat) (r : Rec) (w : World) (h : RecVal w A B c d r) :
    Calls Tryz.prog 10 #[recV r A B c d] w fun e w' => ∃ (A1 B1 : Option Addr) (c1 d1 : Nat), e = .returned (recV r A1 B1 c1 d1) ∧ RecVal w' A1 B1 c1 d1 r ∧ FrK w' ⟨r, A1, B1, c1, d1⟩ ∧ FrW w' ⟨r, A1, B1, c1, d1⟩ ∧ NewR w.heap.size ⟨r, A1, B1, c1, d1⟩ ∧ Below w.heap.size w w' := by
  obtain ⟨i0, hi, hz0, hz1, hz2⟩ := info_parts Tryz.infoStr
  obtain ⟨i1, hi', hz0', hz1', hz2'⟩ := info_parts Tryz.infoWrite
  have henv := RcEnv.start (c := c) (d := d) h.ks h.ws
  have HV := Lib.hid h
  have k16 : r.keys.length * 16 ≤ 140737488351232 := by have := h.rng.k16; unfold reachBytes at this; omega
  have w40 : r.ws.length * 40 ≤ 140737488351232 := by have := h.rng.w40; unfold reachBytes at this; omega
  clear h
  unfold recV
  go_enter Tryz.func10, Tryz.ntmps10
  go_upto_region 1 with fail
  have hE1 := henv.step ((Below.refl _ _).alloc (Nat.le_refl _) (.cells #[.int .i64 0, .int .i64 0, .int .i64 0, .int .i64 0, .string ⟨#[]⟩, .string ⟨#[]⟩, .bool false, .slice none 0 0, .slice none 0 0] 37))
  have hR1 : Cel ((w.alloc (.cells #[.int .i64 r.kind, .int .i64 r.txn, .int .i64 r.ts, .int .i64 r.coord, .string r.key, .string r.text, .bool r.dead, .slice A r.keys.length c, .slice B r.ws.length d] 37)).alloc (.cells #[.int .i64 0, .int .i64 0, .int .i64 0, .int .i64 0, .string ⟨#[]⟩, .string ⟨#[]⟩, .bool false, .slice none 0 0, .slice none 0 0] 37)) (w.heap.size + 1) 37 [.int .i64 0, .int .i64 0, .int .i64 0, .int .i64 0, .string ⟨#[]⟩, .string ⟨#[]⟩, .bool false, .slice none 0 0, .slice none 0 0] := (blk2 w _ _).2.2
  have hsz1 : w.heap.size + 1 < ((w.alloc (.cells #[.int .i64 r.kind, .int .i64 r.txn, .int .i64 r.ts, .int .i64 r.coord, .string r.key, .string r.text, .bool r.dead, .slice A r.keys.length c, .slice B r.ws.length d] 37)).alloc (.cells #[.int .i64 0, .int .i64 0, .int .i64 0, .int .i64 0, .string ⟨#[]⟩, .string ⟨#[]⟩, .bool false, .slice none 0 0, .slice none 0 0] 37)).heap.size := hR1.lt
  generalize (w.alloc (.cells #[.int .i64 r.kind, .int .i64 r.txn, .int .i64 r.ts, .int .i64 r.coord, .string r.key, .string r.text, .bool r.dead, .slice A r.keys.length c, .slice B r.ws.length d] 37)).alloc (.cells #[.int .i64 0, .int .i64 0, .int .i64 0, .int .i64 0, .string ⟨#[]⟩, .string ⟨#[]⟩, .bool false, .slice none 0 0, .slice none 0 0] 37) = W1 at hE1 hR1 hsz1 ⊢
  have HE := Lib.hid hE1
  have HR := Lib.hid hR1
  clear henv hE1 hR1
  have k7 := fun o : Obj => (HE.out.step ((Below.refl _ W1).alloc (Nat.le_refl _) o)).cel.cell (i := 7) rfl
  have hO0 : (W1.alloc (.cells #[] 9)).ownsRow W1.heap.size 9 1 (.slice (some ⟨W1.heap.size, 0, none⟩) 0 0) 0 [] := World.ownsRow_lit (base := W1.heap.size) (e := 9) (size := 1) W1 #[] 0 (Nat.le_refl _) (by unfold maxLen; omega) rfl
  have HO0 := Lib.hid hO0
  have HAn := Lib.hid (show A = none → r.keys.length = 0 ∧ c = 0 from fun e => by
    obtain ⟨h1, h2⟩ := HV.out.kn e
    exact ⟨by rw [h1]; rfl, h2⟩)
  have HBn := Lib.hid (show B = none → r.ws.length = 0 ∧ d = 0 from fun e => by
    obtain ⟨h1, h2⟩ := HV.out.wn e
    exact ⟨by rw [h1]; rfl, h2⟩)
  clear hO0
  go_wp2_with (at_builtin; refine wpList_append_opt rfl _ _ 23 rfl W1.heap.size 9 i0 (.string ⟨#[]⟩) 16 Tryz.underlying23 hi hz0 hz1 hz2 rfl _ 0 _ rfl HO0.out A r.keys.length c (strV r.keys) rfl (strV_len _) HAn.out ?c1 ?c2 ?c3 ?c4 (by simp) ?_)
  case c1 => exact fun ad e => by subst e; exact (HE.out.ks.alloc _).news
  case c2 => intro u hu; obtain ⟨s, _, rfl⟩ := List.mem_map.1 hu; rfl
  case c3 => unfold maxLen; omega
  case c4 => omega
  intro v' w3 ho hg hat
  have hb3 : Below W1.heap.size W1 w3 := ((Below.refl _ W1).alloc (Nat.le_refl _) (.cells #[] 9)).grown hg (by simp) (fun k hk => (HO0.out.lt k hk).1)
  have hX3 := hb3.size
  obtain ⟨A1, c1, rfl, f1, f2⟩ := Pk.own_form ho
  have hE3 := HE.out.step hb3
  have hR3 := HR.out.below hb3
  have kq := fun i => hE3.cel.free (i := i)
  have k3 := hE3.cel.cell (i := 7) rfl
  have hN : (Value.slice A1 r.keys.length c1).ownBlock ≠ some w.heap.size := fun e => by have := (ho.lt _ e).1; omega
  have hN2 : (Value.slice A1 r.keys.length c1).ownBlock ≠ some (w.heap.size + 1) := fun e => by have := (ho.lt _ e).1; omega
  have HO3 := Lib.hid ho
  have HE3 := Lib.hid hE3
  have HR3 := Lib.hid hR3
  have HN := Lib.hid hN
  have HN2 := Lib.hid hN2
  clear ho hg hat hb3 hE3 hR3 hN hN2 k7 HO0 HE HR f1 f2
  go_upto_region 2 with fail
  have hC4 : Cel (w3.setCell ⟨w.heap.size, 7, none⟩ (.slice A1 r.keys.length c1)) w.heap.size 37 [.int .i64 r.kind, .int .i64 r.txn, .int .i64 r.ts, .int .i64 r.coord, .string r.key, .string r.text, .bool r.dead, .slice A1 r.keys.length c1, .slice B r.ws.length d] := HE3.out.cel.set
  have hR4 : Cel (w3.setCell ⟨w.heap.size, 7, none⟩ (.slice A1 r.keys.length c1)) (w.heap.size + 1) 37 _ := HR3.out.far (by omega)
  have hO4 := ownsRow_setCell_other (a := ⟨w.heap.size, 7, none⟩) HO3.out HN.out (.slice A1 r.keys.length c1)
  have hB4 := HE3.out.bel.setCell (p := ⟨w.heap.size, 7, none⟩) (Nat.le_refl _) (.slice A1 r.keys.length c1)
  have hX4 : W1.heap.size ≤ (w3.setCell ⟨w.heap.size, 7, none⟩ (.slice A1 r.keys.length c1)).heap.size := by simpa using hX3
  generalize w3.setCell ⟨w.heap.size, 7, none⟩ (.slice A1 r.keys.length c1) = W4 at hC4 hR4 hO4 hB4 hX4 ⊢
  have HC4 := Lib.hid hC4
  have HR4 := Lib.hid hR4
  have HO4 := Lib.hid hO4
  have HB4 := Lib.hid hB4
  have k8 := fun o : Obj => (HC4.out.below ((Below.refl _ W4).alloc (Nat.le_refl _) o)).cell (i := 8) rfl
  have hO0 : (W4.alloc (.cells #[] 45)).ownsRow W4.heap.size 45 3 (.slice (some ⟨W4.heap.size, 0, none⟩) 0 0) 0 [] := World.ownsRow_lit (base := W4.heap.size) (e := 45) (size := 3) W4 #[] 0 (Nat.le_refl _) (by unfold maxLen; omega) rfl
  have HO0 := Lib.hid hO0
  have HWs := Lib.hid (HV.out.ws.below HB4.out)
  clear hC4 hR4 hO4 hB4 hO0 HO3 HE3 HR3 kq k3 hX3
  go_wp2_with (at_builtin; refine Lt.wpList_append_opt3 rfl _ _ 35 rfl W4.heap.size 45 i1 (.agg #[.string ⟨#[]⟩, .string ⟨#[]⟩, .bool false]) 40 Tryz.underlying35 hi' hz0' hz1' hz2' rfl _ 0 _ rfl HO0.out B r.ws.length d (wrV r.ws) rfl (wrV_len _) HBn.out ?d1 ?d2 ?d3 ?d4 (by simp) ?_)
  case d1 => exact fun ad e => by subst e; exact (HWs.out.alloc _).news
  case d2 => exact wrV_one _
  case d3 => unfold maxLen; omega
  case d4 => omega
  intro v' w5 ho hg hat
  have hb5 : Below W4.heap.size W4 w5 := ((Below.refl _ W4).alloc (Nat.le_refl _) (.cells #[] 45)).grown hg (by simp) (fun k hk => (HO0.out.lt k hk).1)
  obtain ⟨B1, d1, rfl⟩ : ∃ B1 d1, v' = .slice B1 r.ws.length d1 := by
    obtain ⟨B1, d1, e, _⟩ := wrs_own ho rfl
    exact ⟨B1, d1, e⟩
  have hC5 := HC4.out.below hb5
  have hR5 := HR4.out.below hb5
  have hO5 := st_keep HO4.out hb5
  have hB5 := HB4.out.trans (hb5.mono HB4.out.size)
  have hM : (Value.slice B1 r.ws.length d1).ownBlock ≠ some w.heap.size := fun e => by have := (ho.lt _ e).1; omega
  have hM2 : (Value.slice B1 r.ws.length d1).ownBlock ≠ some (w.heap.size + 1) := fun e => by have := (ho.lt _ e).1; omega
  have kq := fun i => hC5.free (i := i)
  have k3 := hC5.cell (i := 8) rfl
  have hC6 : Cel (w5.setCell ⟨w.heap.size, 8, none⟩ (.slice B1 r.ws.length d1)) w.heap.size 37 [.int .i64 r.kind, .int .i64 r.txn, .int .i64 r.ts, .int .i64 r.coord, .string r.key, .string r.text, .bool r.dead, .slice A1 r.keys.length c1, .slice B1 r.ws.length d1] := hC5.set
  have hR6 : Cel (w5.setCell ⟨w.heap.size, 8, none⟩ (.slice B1 r.ws.length d1)) (w.heap.size + 1) 37 _ := hR5.far (by omega)
  have hO6 := ownsRow_setCell_other (a := ⟨w.heap.size, 8, none⟩) hO5 HN.out (.slice B1 r.ws.length d1)
  have hP6 := ownsRow_setCell_other (a := ⟨w.heap.size, 8, none⟩) ho hM (.slice B1 r.ws.length d1)
  have hB6 := hB5.setCell (p := ⟨w.heap.size, 8, none⟩) (Nat.le_refl _) (.slice B1 r.ws.length d1)
  have HR6 := Lib.hid hR6
  have HC6 := Lib.hid hC6
  have HO6 := Lib.hid hO6
  have HP6 := Lib.hid hP6
  have HB6 := Lib.hid hB6
  have HM2 := Lib.hid hM2
  clear ho hg hat hb5 hC5 hR5 hO5 hB5 hM hM2 hC6 hR6 hO6 hP6 hB6 k8 HO0 HC4 HR4 HO4 HB4 HWs
  go_upto_region 3 with fail
  generalize w5.setCell ⟨w.heap.size, 8, none⟩ (.slice B1 r.ws.length d1) = W6 at HR6 HC6 HO6 HP6 HB6 ⊢
  clear kq k3
  have k0 := HC6.out.cell (i := 0) rfl
  have k1 := HC6.out.cell (i := 1) rfl
  have k2 := HC6.out.cell (i := 2) rfl
  have k3 := HC6.out.cell (i := 3) rfl
  have k4 := HC6.out.cell (i := 4) rfl
  have k5 := HC6.out.cell (i := 5) rfl
  have k6 := HC6.out.cell (i := 6) rfl
  have k7 := HC6.out.cell (i := 7) rfl
  have k8 := HC6.out.cell (i := 8) rfl
  have q0 := HR6.out.cell (i := 0) rfl
  have q1 := HR6.out.cell (i := 1) rfl
  have q2 := HR6.out.cell (i := 2) rfl
  have q3 := HR6.out.cell (i := 3) rfl
  have q4 := HR6.out.cell (i := 4) rfl
  have q5 := HR6.out.cell (i := 5) rfl
  have q6 := HR6.out.cell (i := 6) rfl
  have q7 := HR6.out.cell (i := 7) rfl
  have q8 := HR6.out.cell (i := 8) rfl
  have zq := fun i => HR6.out.free (i := i)
  go_wp2_with fail
  have HF := Lib.hid (set9_cel (v0 := .int .i64 r.kind) (v1 := .int .i64 r.txn) (v2 := .int .i64 r.ts) (v3 := .int .i64 r.coord) (v4 := .string r.key) (v5 := .string r.text) (v6 := .bool r.dead) (v7 := .slice A1 r.keys.length c1) (v8 := .slice B1 r.ws.length d1) HR6.out)
  have z0 := HF.out.cell (i := 0) rfl
  have z1 := HF.out.cell (i := 1) rfl
  have z2 := HF.out.cell (i := 2) rfl
  have z3 := HF.out.cell (i := 3) rfl
  have z4 := HF.out.cell (i := 4) rfl
  have z5 := HF.out.cell (i := 5) rfl
  have z6 := HF.out.cell (i := 6) rfl
  have z7 := HF.out.cell (i := 7) rfl
  have z8 := HF.out.cell (i := 8) rfl
  have HO7 := Lib.hid (set9_own (v0 := .int .i64 r.kind) (v1 := .int .i64 r.txn) (v2 := .int .i64 r.ts) (v3 := .int .i64 r.coord) (v4 := .string r.key) (v5 := .string r.text) (v6 := .bool r.dead) (v7 := .slice A1 r.keys.length c1) (v8 := .slice B1 r.ws.length d1) HO6.out HN2.out)
  have HP7 := Lib.hid (set9_own (v0 := .int .i64 r.kind) (v1 := .int .i64 r.txn) (v2 := .int .i64 r.ts) (v3 := .int .i64 r.coord) (v4 := .string r.key) (v5 := .string r.text) (v6 := .bool r.dead) (v7 := .slice A1 r.keys.length c1) (v8 := .slice B1 r.ws.length d1) HP6.out HM2.out)
  unfold set9 at z0 z1 z2 z3 z4 z5 z6 z7 z8
  have hk := own_strs HO7.out
  have hw := own_wrs HP7.out
  have hn : NewR w.heap.size ⟨r, A1, B1, c1, d1⟩ := ⟨fun _ ad e => by have := (HO7.out.lt ad.block (by rw [show A1 = some ad from e]; rfl)).1; omega, fun _ ad e => by have := (HP7.out.lt ad.block (by rw [show B1 = some ad from e]; rfl)).1; omega⟩
  exact bodyPost_ret (v := recV r A1 B1 c1 d1) (by simp [results, Tryz.results10, go_sem, recV, z0, z1, z2, z3, z4, z5, z6, z7, z8]) rfl
    ⟨A1, B1, c1, d1, rfl, ⟨hk.1, hw.1, ⟨HV.out.rng.toRecRng, hk.2.1, hw.2.1, hk.2.2.1, hw.2.2.1⟩, hk.2.2.2, hw.2.2.2⟩, FrK.row HO7.out, FrW.row HP7.out, hn, set9_below HB6.out (Nat.le_succ _)⟩
end Sh
end Go.Proofs.YtbkanoblcojdfaaGreat

namespace Go.Proofs.YtbkanoblcojdfaaGreat
namespace Sh
open Go.RowKit Bk Ch Lt Rc Tr
attribute [local go_sem ↓] Go.wp_at_zero Go.wp_at_succ
attribute [local go_sem] floatUpon pick
structure Pl (W1 w : World) (g h : Nat) (F P : Nat → Prop) (sL sR : Shf) : Prop where
  rep : LRep w F g sL
  ref : RRep w P h sR
  okL : ShOk sL
  okR : ShOk sR
  sub : ∀ k, F k → P k
  lt : ∀ k, P k → k < w.heap.size
  ge : ∀ k, P k → W1.heap.size ≤ k
  hg : W1.heap.size ≤ h
  bel : Below W1.heap.size W1 w
theorem far_below {F : Nat → Prop} {B : Nat} {w w' : World} (hf : Far F w w') (hF : ∀ k, F k → B ≤ k) (hB : B ≤ w.heap.size) : Below B w w' :=
  ⟨hf.st.os, hf.st.tape, hf.st.output, hf.size, fun k hk => hf.block k (by omega) (fun h2 => by have := hF k h2; omega)⟩
theorem one_below {g B : Nat} {w w' : World} (ho : One g w w') (hg : B ≤ g) (hB : B ≤ w.heap.size) : Below B w w' :=
  ⟨ho.os, ho.tape, ho.output, ho.size, fun k hk => ho.block k (by omega) (by omega)⟩
section
variable {W1 w w' w5 w6 : World} {g h g2 h2 v9 lo hi b : Nat} {F F2 E P : Nat → Prop} {sL sR sF s1 : Shf} {x : RI}
theorem RRep.not (r : RRep w P h sR) : ¬ P h := by
  obtain ⟨A, B, C, a, b, c, K, Q, r⟩ := r; exact r.ng
theorem gr_wide (p : ∀ k, P k → k < w.heap.size) (hs : w.heap.size ≤ w'.heap.size) : ∀ k, Gr P w w' k → k < w'.heap.size := fun k hk => hk.elim (fun h => Nat.lt_of_lt_of_le (p k h) hs) (fun h => h.2)
theorem Pl.below (p : Pl W1 w g h F P sL sR) (hb : Below w.heap.size w w') : Pl W1 w' g h F P sL sR :=
  ⟨p.rep.below hb, p.ref.below hb, p.okL, p.okR, p.sub, fun k hk => Nat.lt_of_lt_of_le (p.lt k hk) hb.size, p.ge, p.hg, p.bel.trans (hb.mono p.bel.size)⟩
theorem Pl.wide (p : Pl W1 w g h F P sL sR) (hb : Below w.heap.size w w') : Pl W1 w' g h F (Gr P w w') sL sR :=
  ⟨p.rep.below hb, (p.ref.turn (fun _ hk => hk.elim .inl (fun h => .inr h.1))).below hb, p.okL, p.okR, fun k hk => .inl (p.sub k hk), gr_wide p.lt hb.size, fun k hk => hk.elim (p.ge k) (fun h => Nat.le_trans p.bel.size h.1), p.hg, p.bel.trans (hb.mono p.bel.size)⟩
theorem Pl.beside (p : Pl W1 w g h F P sL sR) (hf : Far E w w') (hE : ∀ k, E k → P k) (hd : ∀ k, F k → ¬ E k) : Pl W1 w' g h F (Gr P w w') sL sR :=
  ⟨p.rep.kept hf.size (fun k hk => hf.block k (p.lt k (p.sub k hk)) (hd k hk)), (p.ref.turn (fun _ hk => hk.elim .inl (fun h => .inr h.1))).away ⟨hf.size, fun k hk hn => hf.block k hk (fun h2 => hn (.inl (hE k h2)))⟩,
   p.okL, p.okR, fun k hk => .inl (p.sub k hk), gr_wide p.lt hf.size, fun k hk => hk.elim (p.ge k) (fun h => Nat.le_trans p.bel.size h.1), p.hg, p.bel.trans (far_below hf (fun k hk => p.ge k (hE k hk)) p.bel.size)⟩
theorem Pl.actL (p : Pl W1 w g h F P sL sR) (hr : LRep w' (Gr F w w') g s1) (hf : Far F w w') (ho : ShOk s1) : Pl W1 w' g h (Gr F w w') (Gr P w w') s1 sR :=
  ⟨hr, (p.ref.turn (fun _ hk => hk.elim .inl (fun h => .inr h.1))).away ⟨hf.size, fun k hk hn => hf.block k hk (fun h2 => hn (.inl (p.sub k h2)))⟩, ho, p.okR,
   fun k hk => hk.elim (fun h => .inl (p.sub k h)) .inr, gr_wide p.lt hf.size, fun k hk => hk.elim (p.ge k) (fun h => Nat.le_trans p.bel.size h.1), p.hg, p.bel.trans (far_below hf (fun k hk => p.ge k (p.sub k hk)) p.bel.size)⟩
theorem Pl.actR (p : Pl W1 w g h F P sL sR) (hr : RRep w' P h s1) (ho : One h w w') (hs : ShOk s1) : Pl W1 w' g h F P sL s1 :=
  ⟨p.rep.kept ho.size (fun k hk => ho.block k (p.lt k (p.sub k hk)) (fun e => p.ref.not (e ▸ p.sub k hk))), hr, p.okL, hs, p.sub, fun k hk => Nat.lt_of_lt_of_le (p.lt k hk) ho.size, p.ge, p.hg, p.bel.trans (one_below ho p.hg p.bel.size)⟩
theorem Pl.twin (p : Pl W1 w g h F P sL sR) (hb : Below w.heap.size w w5) (hr : RRep w5 (G P h2) h sR) (hn : w.heap.size ≤ h2) (ho : One h2 w5 w6) : Pl W1 w6 g h F P sL sR :=
  have q := p.below hb
  ⟨q.rep.kept ho.size (fun k hk => ho.block k (q.lt k (q.sub k hk)) (fun e => by have := p.lt k (p.sub k hk); omega)), (hr.away (One.away' ho (.inr rfl))).turn (fun _ hk => .inl (.inl hk)), q.okL, q.okR, q.sub, fun k hk => Nat.lt_of_lt_of_le (q.lt k hk) ho.size, q.ge, q.hg, q.bel.trans (one_below ho (Nat.le_trans p.bel.size hn) q.bel.size)⟩
structure Pl10 (W1 w : World) (g h g2 v9 lo hi : Nat) (F F2 P : Nat → Prop) (sL sR sF : Shf) (x : RI) : Prop where
  pl : Pl W1 w g h F P sL sR
  fk : LRep w F2 g2 sF
  fok : ShOk sF
  fd : ∀ k, F k → ¬ F2 k
  fs : ∀ k, F2 k → P k
  fl : ∀ k, F2 k → k < lo ∨ hi ≤ k
  gl : ∀ k, F k → k < lo ∨ hi ≤ k
  hl : h < lo
  hs : hi ≤ w.heap.size
  cel : Cel w v9 37 (rcs x)
  val : RecVal w x.A x.B x.c x.d x.l
  frk : FrK w x
  frw : FrW w x
  rb : ∀ k, Rb x k → lo ≤ k ∧ k < hi
  vb : lo ≤ v9 ∧ v9 < hi
  os : ∀ k, lo ≤ k → k < hi → P k
theorem own_keep4 {x : RI} (hv : RecVal w x.A x.B x.c x.d x.l) (hs : w.heap.size ≤ w'.heap.size) (hk : ∀ k, Rb x k → w'.heap[k]? = w.heap[k]?) : RecVal w' x.A x.B x.c x.d x.l :=
  ⟨strs_in (F := Rb x) hv.ks (fun hp ad e => .inl ⟨hp, ad, e, rfl⟩) hs hk, wrs_in (F := Rb x) hv.ws (fun hp ad e => .inr ⟨hp, ad, e, rfl⟩) hs hk, hv.rng, hv.kn, hv.wn⟩
theorem frk_keep {x : RI} (hf : FrK w x) (hk : ∀ k, Rb x k → w'.heap[k]? = w.heap[k]?) : FrK w' x := fun hp => (hf.keep fun ad e _ => hk _ (.inl ⟨hp, ad, e, rfl⟩)) hp
theorem frw_keep {x : RI} (hf : FrW w x) (hk : ∀ k, Rb x k → w'.heap[k]? = w.heap[k]?) : FrW w' x := fun hp => (hf.keep fun ad e _ => hk _ (.inr ⟨hp, ad, e, rfl⟩)) hp
theorem Pl10.below (p : Pl10 W1 w g h g2 v9 lo hi F F2 P sL sR sF x) (hb : Below w.heap.size w w') : Pl10 W1 w' g h g2 v9 lo hi F F2 P sL sR sF x :=
  have hk : ∀ k, Rb x k → w'.heap[k]? = w.heap[k]? := fun k hk => hb.block k (by have := p.rb k hk; have := p.hs; omega)
  ⟨p.pl.below hb, p.fk.below hb, p.fok, p.fd, p.fs, p.fl, p.gl, p.hl, Nat.le_trans p.hs hb.size, p.cel.below hb, p.val.below hb, frk_keep p.frk hk, frw_keep p.frw hk, p.rb, p.vb, p.os⟩
theorem Pl10.actF (p : Pl10 W1 w g h g2 v9 lo hi F F2 P sL sR sF x) (hr : LRep w' (Gr F2 w w') g2 s1) (hf : Far F2 w w') (ho : ShOk s1) : Pl10 W1 w' g h g2 v9 lo hi F (Gr F2 w w') (Gr P w w') sL sR s1 x :=
  have hk : ∀ k, lo ≤ k → k < hi → w'.heap[k]? = w.heap[k]? := fun k h1 h2 => hf.block k (by have := p.hs; omega) (fun h3 => by have := p.fl k h3; omega)
  have hk2 : ∀ k, Rb x k → w'.heap[k]? = w.heap[k]? := fun k h1 => hk k (p.rb k h1).1 (p.rb k h1).2
  ⟨p.pl.beside hf p.fs p.fd, hr, ho, fun k hF hk => hk.elim (p.fd k hF) (fun h => by have := p.pl.lt k (p.pl.sub k hF); omega), fun k hk => hk.elim (fun h => .inl (p.fs k h)) .inr, fun k hk => hk.elim (p.fl k) (fun h => .inr (Nat.le_trans p.hs h.1)), p.gl, p.hl, Nat.le_trans p.hs hf.size,
   (hk v9 p.vb.1 p.vb.2).trans p.cel, own_keep4 p.val hf.size hk2, frk_keep p.frk hk2, frw_keep p.frw hk2, p.rb, p.vb, fun k h1 h2 => .inl (p.os k h1 h2)⟩
theorem Pl10.actL (p : Pl10 W1 w g h g2 v9 lo hi F F2 P sL sR sF x) (hr : LRep w' (Gr F w w') g s1) (hf : Far F w w') (ho : ShOk s1) : Pl10 W1 w' g h g2 v9 lo hi (Gr F w w') F2 (Gr P w w') s1 sR sF x :=
  have hk : ∀ k, lo ≤ k → k < hi → w'.heap[k]? = w.heap[k]? := fun k h1 h2 => hf.block k (by have := p.hs; omega) (fun h3 => by have := p.gl k h3; omega)
  have hk2 : ∀ k, Rb x k → w'.heap[k]? = w.heap[k]? := fun k h1 => hk k (p.rb k h1).1 (p.rb k h1).2
  ⟨p.pl.actL hr hf ho, p.fk.kept hf.size (fun k hk => hf.block k (p.fk.lt k hk) (fun h => p.fd k h hk)), p.fok, fun k hF hk => hF.elim (fun h => p.fd k h hk) (fun h => by have := p.fk.lt k hk; omega), fun k hk => .inl (p.fs k hk), p.fl, fun k hk => hk.elim (p.gl k) (fun h => .inr (Nat.le_trans p.hs h.1)), p.hl, Nat.le_trans p.hs hf.size,
   (hk v9 p.vb.1 p.vb.2).trans p.cel, own_keep4 p.val hf.size hk2, frk_keep p.frk hk2, frw_keep p.frw hk2, p.rb, p.vb, fun k h1 h2 => .inl (p.os k h1 h2)⟩
theorem Pl10.actR (p : Pl10 W1 w g h g2 v9 lo hi F F2 P sL sR sF x) (hr : RRep w' P h s1) (ho : One h w w') (hs : ShOk s1) : Pl10 W1 w' g h g2 v9 lo hi F F2 P sL s1 sF x :=
  have hk : ∀ k, lo ≤ k → k < hi → w'.heap[k]? = w.heap[k]? := fun k h1 h2 => ho.block k (by have := p.hs; omega) (by have := p.hl; omega)
  have hk2 : ∀ k, Rb x k → w'.heap[k]? = w.heap[k]? := fun k h1 => hk k (p.rb k h1).1 (p.rb k h1).2
  ⟨p.pl.actR hr ho hs, p.fk.kept ho.size (fun k hk => ho.block k (p.fk.lt k hk) (fun e => p.pl.ref.not (e ▸ p.fs k hk))), p.fok, p.fd, p.fs, p.fl, p.gl, p.hl, Nat.le_trans p.hs ho.size,
   (hk v9 p.vb.1 p.vb.2).trans p.cel, own_keep4 p.val ho.size hk2, frk_keep p.frk hk2, frw_keep p.frw hk2, p.rb, p.vb, p.os⟩
theorem Pl10.twin (p : Pl10 W1 w g h g2 v9 lo hi F F2 P sL sR sF x) (hb : Below w.heap.size w w5) (hr : RRep w5 (G P h2) h sR) (hn : w.heap.size ≤ h2) (ho : One h2 w5 w6) : Pl10 W1 w6 g h g2 v9 lo hi F F2 P sL sR sF x :=
  have q := p.below hb
  have hk : ∀ k, lo ≤ k → k < hi → w6.heap[k]? = w5.heap[k]? := fun k h1 h2 => ho.block k (by have := q.hs; omega) (by have := p.hs; omega)
  have hk2 : ∀ k, Rb x k → w6.heap[k]? = w5.heap[k]? := fun k h1 => hk k (q.rb k h1).1 (q.rb k h1).2
  ⟨p.pl.twin hb hr hn ho, q.fk.kept ho.size (fun k hk => ho.block k (q.fk.lt k hk) (fun e => by have := p.fk.lt k hk; omega)), q.fok, q.fd, q.fs, q.fl, q.gl, q.hl, Nat.le_trans q.hs ho.size,
   (hk v9 q.vb.1 q.vb.2).trans q.cel, own_keep4 q.val ho.size hk2, frk_keep q.frk hk2, frw_keep q.frw hk2, q.rb, q.vb, q.os⟩
structure Pl12 (W1 w : World) (g h g2 lo hi : Nat) (F F2 P : Nat → Prop) (s sF : Shf) : Prop where
  pl : Pl W1 w g h F P s s
  fk : LRep w F2 g2 sF
  fok : ShOk sF
  fd : ∀ k, F k → ¬ F2 k
  fs : ∀ k, F2 k → P k
  fl : ∀ k, F2 k → k < lo ∨ hi ≤ k
  gl : ∀ k, F k → k < lo ∨ hi ≤ k
  os : ∀ k, lo ≤ k → k < hi → P k
theorem Pl10.end (p : Pl10 W1 w g h g2 v9 lo hi F F2 P s1 s1 sF x) : Pl12 W1 w g h g2 lo hi F F2 P s1 sF := ⟨p.pl, p.fk, p.fok, p.fd, p.fs, p.fl, p.gl, p.os⟩
theorem Pl12.below (p : Pl12 W1 w g h g2 lo hi F F2 P s1 sF) (hb : Below w.heap.size w w') : Pl12 W1 w' g h g2 lo hi F F2 P s1 sF := ⟨p.pl.below hb, p.fk.below hb, p.fok, p.fd, p.fs, p.fl, p.gl, p.os⟩
theorem Pl12.spoil (p : Pl12 W1 w g h g2 lo hi F F2 P s1 sF) (hs : w'.heap.size = w.heap.size) (hst : St w w') (hk : ∀ k, (k < lo ∨ hi ≤ k) → w'.heap[k]? = w.heap[k]?) : Pl12 W1 w' g h g2 lo hi F F2 P s1 sF :=
  have ke : ∀ k, ¬ P k → w'.heap[k]? = w.heap[k]? := fun k hn => hk k (Nat.lt_or_ge k lo |>.elim .inl (fun h1 => Nat.lt_or_ge k hi |>.elim (fun h2 => absurd (p.os k h1 h2) hn) .inr))
  ⟨⟨p.pl.rep.kept (by rw [hs]; exact Nat.le_refl _) (fun k h1 => hk k (p.gl k h1)), p.pl.ref.away ⟨by rw [hs]; exact Nat.le_refl _, fun k _ hn => ke k hn⟩, p.pl.okL, p.pl.okR, p.pl.sub, fun k h1 => by rw [hs]; exact p.pl.lt k h1, p.pl.ge, p.pl.hg,
    p.pl.bel.trans ⟨hst.os, hst.tape, hst.output, by rw [hs]; exact Nat.le_refl _, fun k h1 => ke k (fun h2 => by have := p.pl.ge k h2; omega)⟩⟩,
   p.fk.kept (by rw [hs]; exact Nat.le_refl _) (fun k h1 => hk k (p.fl k h1)), p.fok, p.fd, p.fs, p.fl, p.gl, p.os⟩
theorem Pl12.actF (p : Pl12 W1 w g h g2 lo hi F F2 P s1 sF) (hf : Far F2 w w') : Pl W1 w' g h F (Gr P w w') s1 s1 := p.pl.beside hf p.fs p.fd
theorem rempty (h : Nat) (P : Nat → Prop) (hc : Cel w h 33 [.slice none 0 0, .slice none 0 0, .slice none 0 0, .int .i64 0]) (hn : ¬ P h) : RRep w P h empty :=
  ⟨none, none, none, 0, 0, 0, [], [], hc, RowF.nil _ _ _, RowF.nil _ _ _, RowF.nil _ _ _, by simp, by simp, rfl, rfl, fun _ => ⟨rfl, rfl⟩, fun _ => ⟨rfl, rfl⟩, fun _ => ⟨rfl, rfl⟩, ⟨Nat.le_refl _, by unfold maxLen; omega⟩, ⟨Nat.le_refl _, by unfold maxLen; omega⟩, ⟨Nat.le_refl _, by unfold maxLen; omega⟩, hn⟩
theorem RRep.apply_c (r : RRep w P h sR) (hs : ShOk sR) (hF : ∀ k, P k → k < w.heap.size) (x : RI) (hx : PVal w (G P h) x) :
    Calls Tryz.prog 13 #[.pointer (some ⟨h, 0, none⟩), .agg (rcs x).toArray] w fun e w' => e = .returned (.int .i64 (applyP sR x.l).2) ∧ RRep w' P h (applyP sR x.l).1 ∧ One h w w' := by
  obtain ⟨A, B, C, a, b, c, K, Q, r⟩ := r; exact rapply_any r hs hF x hx
theorem RRep.fork_c (r : RRep w P h sR) (hF : ∀ k, P k → k < w.heap.size) :
    Calls Tryz.prog 12 #[.pointer (some ⟨h, 0, none⟩)] w fun e w' => ∃ h2, e = .returned (.pointer (some ⟨h2, 0, none⟩)) ∧ w.heap.size ≤ h2 ∧ RRep w' (G P h) h2 sR ∧ RRep w' (G P h2) h sR ∧ Below w.heap.size w w' := by
  obtain ⟨A, B, C, a, b, c, K, Q, r⟩ := r
  refine (rfork_any r hF).mono ?_
  rintro e w' ⟨h2, rfl, h1, h3, h4, h5⟩
  exact ⟨h2, rfl, h1, ⟨A, B, C, a, b, c, K, Q, h3⟩, ⟨A, B, C, a, b, c, K, Q, h4⟩, h5⟩
theorem arg_away {W : World} {x : RI} (hv : RecVal W x.A x.B x.c x.d x.l) (hb : Below W.heap.size W w) (hP : ∀ k, P k → W.heap.size ≤ k) : PVal w P x :=
  ⟨hv.below hb, fun hp ad e hk => by
    obtain ⟨a', e', hl, _⟩ := hv.ks hp
    obtain rfl := Option.some.inj (e.symm.trans e')
    have := hP _ hk; omega, fun hp ad e hk => by
    obtain ⟨a', e', hl, _⟩ := hv.ws hp
    obtain rfl := Option.some.inj (e.symm.trans e')
    have := hP _ hk; omega⟩
end
end Sh
end Go.Proofs.YtbkanoblcojdfaaGreat

namespace Go.Proofs.YtbkanoblcojdfaaGreat
namespace Sh
open Go.RowKit Bk Ch Lt Rc Tr
section
variable {W1 w w' w5 : World} {g h g2 h2 v9 lo hi : Nat} {F F2 P : Nat → Prop} {sL sR sF s1 : Shf} {x : RI} {er : Int}
theorem Pl10.callF (q : Pl10 W1 w g h g2 v9 lo hi F F2 P sL sR sF x) (y : RI) (hv : RecVal w y.A y.B y.c y.d y.l) (her : applyP sF y.l = (s1, er)) :
    Calls Tryz.prog 11 #[.pointer (some ⟨g2, 0, none⟩), .agg (rcs y).toArray] w fun e w' => e = .returned (.int .i64 er) ∧ ∃ F2' P', Pl10 W1 w' g h g2 v9 lo hi F F2' P' sL sR s1 x := by
  have ho := apply_ok q.fok y.l
  have hc := q.fk.apply_c q.fok y hv
  rw [her] at ho hc
  refine hc.mono ?_
  rintro e w' ⟨rfl, hr, hf⟩
  exact ⟨rfl, _, _, q.actF hr hf ho⟩
theorem Pl10.callL (q : Pl10 W1 w g h g2 v9 lo hi F F2 P sL sR sF x) (her : applyP sL x.l = (s1, er)) :
    Calls Tryz.prog 11 #[.pointer (some ⟨g, 0, none⟩), .agg (rcs x).toArray] w fun e w' => e = .returned (.int .i64 er) ∧ ∃ F' P', Pl10 W1 w' g h g2 v9 lo hi F' F2 P' s1 sR sF x := by
  have ho := apply_ok q.pl.okL x.l
  have hc := q.pl.rep.apply_c q.pl.okL x q.val
  rw [her] at ho hc
  refine hc.mono ?_
  rintro e w' ⟨rfl, hr, hf⟩
  exact ⟨rfl, _, _, q.actL hr hf ho⟩
theorem Pl10.callR (q : Pl10 W1 w g h g2 v9 lo hi F F2 P sL sR sF x) (y : RI) (hy : PVal w (G P h) y) (her : applyP sR y.l = (s1, er)) :
    Calls Tryz.prog 13 #[.pointer (some ⟨h, 0, none⟩), .agg (rcs y).toArray] w fun e w' => e = .returned (.int .i64 er) ∧ Pl10 W1 w' g h g2 v9 lo hi F F2 P sL s1 sF x := by
  have ho := apply_ok q.pl.okR y.l
  have hc := q.pl.ref.apply_c q.pl.okR q.pl.lt y hy
  rw [her] at ho hc
  refine hc.mono ?_
  rintro e w' ⟨rfl, hr, hf⟩
  exact ⟨rfl, q.actR hr hf ho⟩
structure Tw (W1 w w5 : World) (g h g2 h2 v9 lo hi : Nat) (F F2 P : Nat → Prop) (sL sR sF : Shf) (x : RI) : Prop where
  q : Pl10 W1 w g h g2 v9 lo hi F F2 P sL sR sF x
  hb : Below w.heap.size w w5
  hn : w.heap.size ≤ h2
  ra : RRep w5 (G P h) h2 sR
  rb : RRep w5 (G P h2) h sR
theorem Tw.now (t : Tw W1 w w5 g h g2 h2 v9 lo hi F F2 P sL sR sF x) : Pl10 W1 w5 g h g2 v9 lo hi F F2 P sL sR sF x := t.q.below t.hb
theorem Pl10.callT (q : Pl10 W1 w g h g2 v9 lo hi F F2 P sL sR sF x) :
    Calls Tryz.prog 12 #[.pointer (some ⟨h, 0, none⟩)] w fun e w' => ∃ h2, e = .returned (.pointer (some ⟨h2, 0, none⟩)) ∧ Tw W1 w w' g h g2 h2 v9 lo hi F F2 P sL sR sF x := by
  refine (q.pl.ref.fork_c q.pl.lt).mono ?_
  rintro e w' ⟨h2, rfl, h1, h3, h4, h5⟩
  exact ⟨h2, rfl, q, h5, h1, h3, h4⟩
theorem Tw.call (t : Tw W1 w w5 g h g2 h2 v9 lo hi F F2 P sL sR sF x) (y : RI) (hy : PVal w5 (G (G P h) h2) y) (her : applyP sR y.l = (s1, er)) :
    Calls Tryz.prog 13 #[.pointer (some ⟨h2, 0, none⟩), .agg (rcs y).toArray] w5 fun e w' => e = .returned (.int .i64 er) ∧ Pl10 W1 w' g h g2 v9 lo hi F F2 P sL sR sF x := by
  have hc := t.ra.apply_c t.q.pl.okR (fun k hk => hk.elim (fun h1 => Nat.lt_of_lt_of_le (t.q.pl.lt k h1) t.hb.size) (fun e => by rw [e]; exact t.now.pl.ref.lt)) y hy
  rw [her] at hc
  refine hc.mono ?_
  rintro e w' ⟨rfl, hr, hf⟩
  exact ⟨rfl, t.q.twin t.hb t.rb t.hn hf⟩
theorem Pl.geh (p : Pl W1 w g h F P sL sR) : ∀ k, G P h k → W1.heap.size ≤ k := fun k hk => hk.elim (p.ge k) (fun e => by rw [e]; exact p.hg)
theorem Tw.geh (t : Tw W1 w w5 g h g2 h2 v9 lo hi F F2 P sL sR sF x) : ∀ k, G (G P h) h2 k → W1.heap.size ≤ k := fun k hk => hk.elim (t.q.pl.geh k) (fun e => by rw [e]; exact Nat.le_trans t.q.pl.bel.size t.hn)
theorem pl_begin {w6 w7 : World} {s : Shf} (p : Pl W1 w g h F P s s) (hr2 : LRep w5 F2 g2 s) (hF2 : ∀ k, F2 k → w.heap.size ≤ k) (hb5 : Below w.heap.size w w5) (hb6 : Below w5.heap.size w5 w6) (hb7 : Below w6.heap.size w6 w7) (h7 : w7.heap.size = w6.heap.size + 1)
    (hval : RecVal w6 x.A x.B x.c x.d x.l) (hfk : FrK w6 x) (hfw : FrW w6 x) (hn : NewR w5.heap.size x) (hc : Cel w7 w6.heap.size 37 (rcs x)) :
    Pl10 W1 w7 g h g2 w6.heap.size w5.heap.size w7.heap.size F F2 (Gr (Gr P w w5) w5 w7) s s s x :=
  have hb67 := hb6.trans (hb7.mono hb6.size)
  have pv : PVal w6 (fun _ => False) x := ⟨hval, fun _ _ _ h => h, fun _ _ _ h => h⟩
  ⟨(p.wide hb5).wide hb67, hr2.below hb67, p.okL, fun k h1 h2 => by have := p.lt k (p.sub k h1); have := hF2 k h2; omega, fun k hk => .inl (.inr ⟨hF2 k hk, hr2.lt k hk⟩), fun k hk => .inl (hr2.lt k hk), fun k hk => .inl (Nat.lt_of_lt_of_le (p.lt k (p.sub k hk)) hb5.size),
   Nat.lt_of_lt_of_le p.ref.lt hb5.size, Nat.le_refl _, hc, hval.below hb7, FrK.below hfk hb7, FrW.below hfw hb7, fun k hk => ⟨rb_ge hn hk, by have := rb_lt pv hk; omega⟩, ⟨hb6.size, by omega⟩, fun k h1 h2 => .inr ⟨h1, h2⟩⟩
end
end Sh
end Go.Proofs.YtbkanoblcojdfaaGreat

namespace Go.Proofs.YtbkanoblcojdfaaGreat
namespace Sh
open Go.RowKit Bk Ch Lt Rc Tr
attribute [local go_sem ↓] Go.wp_at_zero Go.wp_at_succ
attribute [local go_sem] floatUpon pick
structure AskArg2 (w : World) (v : Value) (ks : List ByteArray) (ts ms : List Int) : Prop where
  ask : AskArg w v ks ts ms
  rng : ∀ t ∈ ts, -9223372036854775808 ≤ t ∧ t ≤ 9223372036854775807
theorem cel_ne {w : World} {a b : Nat} {t t' : TypeId} {xs ys : List Value} (h : Cel w a t xs) (h' : Cel w b t' ys) (hne : t ≠ t') : a ≠ b := fun e => by
  subst e
  unfold Cel at h h'
  rw [h] at h'
  simp only [Option.some.injEq, Obj.cells.injEq] at h'
  exact hne h'.2.1
theorem sweep_big : RecOk (Rc.bareR 4 0 1125899906842624) := by
  refine ⟨⟨.inl rfl, ?_, ?_, ?_⟩, (Rc.kind_4 rfl).2 ⟨⟨⟨rfl, rfl⟩, ⟨rfl, rfl, rfl⟩, rfl⟩, rfl⟩⟩
  · show stampOk 1125899906842624; decide
  · show (0 : Int) ≤ 0; decide
  · show (0 : Int) < 16; decide
set_option maxRecDepth 20000 in
set_option maxHeartbeats 16000000 in
theorem plays_any (W : World) (v u : Value) (L : List RI) (ks : List ByteArray) (ts ms : List Int) (hv : RecsOf W v L) (hu : AskArg2 W u ks ts ms) :
    Calls Tryz.prog 3 #[v, u] W fun e w' => e = .returned (.bool true) ∧ Below W.heap.size W w' := by
  obtain ⟨⟨⟨A, B, C, a, b, c, rfl, hka, hta, hma⟩, hks, hkl, htl, hml⟩, htr⟩ := hu
  obtain ⟨AL, cL, rfl, hat, hl16, hok⟩ := hv
  have rb : reachBytes = 140737488351232 := rfl
  rw [rb] at hkl hml htl hl16
  have hlen : (L.length : Int) ≤ 9223372036854775807 := by omega
  have HWk := Lib.hid (fun V => works_any V)
  have HAt := Lib.hid hat
  have HOk := Lib.hid hok
  have HKa := Lib.hid (fun V (hb : Below W.heap.size W V) => hka.below hb)
  have HTa := Lib.hid (fun V (hb : Below W.heap.size W V) => hta.below hb)
  have HMa := Lib.hid (fun V (hb : Below W.heap.size W V) => hma.below hb)
  have HKs := Lib.hid (show ∀ k ∈ ks, k.size ≤ maxLen from fun k hk => by have := hks k hk; unfold maxLen; omega)
  have HTr := Lib.hid htr
  have HLs := Lib.hid (show (ks.length : Int) ≤ 9223372036854775807 ∧ (ts.length : Int) ≤ 9223372036854775807 ∧ (ms.length : Int) ≤ 9223372036854775807 by omega)
  clear hka hta hma hks hkl htl hml hl16 hat hok htr
  go_enter Tryz.func3, Tryz.ntmps3
  go_upto_region 1 with fail
  have hc1 : Cel (W.alloc (.cells #[.slice A ks.length a, .slice B ts.length b, .slice C ms.length c] 26)) W.heap.size 26 [.slice A ks.length a, .slice B ts.length b, .slice C ms.length c] := (blk1 W _).2
  have hb1 : Below W.heap.size W (W.alloc (.cells #[.slice A ks.length a, .slice B ts.length b, .slice C ms.length c] 26)) := (Below.refl _ W).alloc (Nat.le_refl _) _
  generalize W.alloc (.cells #[.slice A ks.length a, .slice B ts.length b, .slice C ms.length c] 26) = W1 at hc1 hb1 ⊢
  have HC := Lib.hid (fun V (hb : Below W1.heap.size W1 V) => hc1.below hb)
  have HB1 := Lib.hid hb1
  clear hc1 hb1
  go_wp2_with fail
  refine (lnew_any _).mono ?_
  rintro e2 w2 ⟨g, F, rfl, hr, hF, hb⟩
  have hal : Below w2.heap.size w2 (w2.alloc (.cells #[.slice none 0 0, .slice none 0 0, .slice none 0 0, .int .i64 0] 33)) := (Below.refl _ w2).alloc (Nat.le_refl _) _
  have hcr : Cel (w2.alloc (.cells #[.slice none 0 0, .slice none 0 0, .slice none 0 0, .int .i64 0] 33)) w2.heap.size 33 [.slice none 0 0, .slice none 0 0, .slice none 0 0, .int .i64 0] := (blk1 w2 _).2
  have HP := Lib.hid (show Pl W1 (w2.alloc (.cells #[.slice none 0 0, .slice none 0 0, .slice none 0 0, .int .i64 0] 33)) g w2.heap.size F F empty empty from
    ⟨hr.below hal, rempty _ _ hcr (fun h => by have := hr.lt _ h; omega), ok_empty, ok_empty, fun _ h => h, fun k hk => Nat.lt_of_lt_of_le (hr.lt k hk) hal.size, hF, hb.size, hb.trans (hal.mono hb.size)⟩)
  clear hr hF hb hcr hal
  go_upto_region 3 with fail
  generalize w2.alloc (.cells #[.slice none 0 0, .slice none 0 0, .slice none 0 0, .int .i64 0] 33) = w3 at HP ⊢
  generalize w2.heap.size = h at HP ⊢
  go_wp2_with fail
  refine (HWk.out _).mono ?_
  rintro e4 w4 ⟨rfl, hb⟩
  have HP4 := Lib.hid (HP.out.below hb)
  clear hb HP HWk
  go_wp2_with fail
  go_loopw [7] (fun iv wr => ∃ (j : Nat) (F P : Nat → Prop) (s : Shf), j ≤ L.length ∧ j ≤ 60 ∧ iv = .int .i64 (j : Int) ∧ Hid (Pl W1 wr g h F P s s)) (fun iv _ => L.length - (RowKit.intOf iv).toNat)
  case atStart => exact ⟨0, F, F, empty, by omega, by omega, rfl, HP4⟩
  case round =>
    clear HP4
    obtain ⟨j, F, P, s, hj, hj60, rfl, hP⟩ := hrel
    by_cases hlt : j < L.length ∧ j < 60
    case neg =>
      have HBf := Lib.hid (HB1.out.trans (hP.out.bel.mono HB1.out.size))
      by_cases hlt1 : j < L.length
      · have pj : (j : Int) < (L.length : Int) := by omega
        have pj6 : ¬ (j : Int) < 60 := by omega
        go_wp2_with fail
        go_ret
        exact ⟨rfl, HBf.out⟩
      · have pj : ¬ (j : Int) < (L.length : Int) := by omega
        go_wp2_with fail
        go_ret
        exact ⟨rfl, HBf.out⟩
    obtain ⟨hlt, hlt6⟩ := hlt
    have pj : (j : Int) < (L.length : Int) := by omega
    have pj6 : (j : Int) < 60 := by omega
    obtain ⟨ad, rfl, hab, hc⟩ := HAt.out (by omega)
    have hc2 := hc j hlt
    have hval := HOk.out _ (List.getElem_mem hlt)
    generalize L[j] = x at hc2 hval
    obtain ⟨r, RA, RB, rc, rd⟩ := x
    simp only at hval
    have HXc : Hid (∀ V, Below W.heap.size W V → V.cell? (ad.add (j * 9)) = some (.int .i64 r.kind) ∧ V.cell? ⟨(ad.add (j * 9)).block, (ad.add (j * 9)).off + 1, none⟩ = some (.int .i64 r.txn) ∧ V.cell? ⟨(ad.add (j * 9)).block, (ad.add (j * 9)).off + 2, none⟩ = some (.int .i64 r.ts) ∧ V.cell? ⟨(ad.add (j * 9)).block, (ad.add (j * 9)).off + 3, none⟩ = some (.int .i64 r.coord) ∧ V.cell? ⟨(ad.add (j * 9)).block, (ad.add (j * 9)).off + 4, none⟩ = some (.string r.key) ∧ V.cell? ⟨(ad.add (j * 9)).block, (ad.add (j * 9)).off + 5, none⟩ = some (.string r.text) ∧ V.cell? ⟨(ad.add (j * 9)).block, (ad.add (j * 9)).off + 6, none⟩ = some (.bool r.dead) ∧ V.cell? ⟨(ad.add (j * 9)).block, (ad.add (j * 9)).off + 7, none⟩ = some (.slice RA r.keys.length rc) ∧ V.cell? ⟨(ad.add (j * 9)).block, (ad.add (j * 9)).off + 8, none⟩ = some (.slice RB r.ws.length rd)) := Lib.hid (fun V hb => by
      have k := fun q v hq => (cell_kept hb (ad.add (j * 9 + q)) (by rw [st_block]; exact hab)).trans (hc2 q v hq)
      refine ⟨by simpa using k 0 _ rfl, ?_, ?_, ?_, ?_, ?_, ?_, ?_, ?_⟩
      all_goals rw [Lt.add_field _ _ _ (by omega)]
      · exact k 1 _ rfl
      · exact k 2 _ rfl
      · exact k 3 _ rfl
      · exact k 4 _ rfl
      · exact k 5 _ rfl
      · exact k 6 _ rfl
      · exact k 7 _ rfl
      · exact k 8 _ rfl)
    have HVl := Lib.hid hval
    have HWb := Lib.hid (fun V (hb : Below W1.heap.size W1 V) => HB1.out.trans (hb.mono HB1.out.size))
    obtain ⟨s1, er, her⟩ : ∃ s1 er, applyP s r = (s1, er) := ⟨_, _, rfl⟩
    have HEr := Lib.hid her
    clear hc hc2 hval hab her
    go_wp2_with fail
    refine (hP.out.rep.fork_c hP.out.okL).mono ?_
    rintro e5 w5 ⟨g2, F2, rfl, hr2, hF2, hb5⟩
    have HF2 := Lib.hid (And.intro hr2 (And.intro hF2 hb5))
    have hw5 := HWb.out _ (hP.out.bel.trans (hb5.mono hP.out.bel.size))
    have hcp := copyN_any RA RB rc rd r w5 (HVl.out.below hw5)
    unfold recV at hcp
    have HCp := Lib.hid hcp
    obtain ⟨x0, x1, x2, x3, x4, x5, x6, x7, x8⟩ := HXc.out _ hw5
    clear hr2 hF2 hb5 hcp hw5
    go_wp2_with fail
    refine HCp.out.mono ?_
    rintro e6 w6 ⟨OA, OB, oc, od, rfl, hval, hfk, hfw, hnew, hb6⟩
    have hb7 : Below w6.heap.size w6 (w6.alloc (.cells #[.int .i64 r.kind, .int .i64 r.txn, .int .i64 r.ts, .int .i64 r.coord, .string r.key, .string r.text, .bool r.dead, .slice OA r.keys.length oc, .slice OB r.ws.length od] 37)) := (Below.refl _ w6).alloc (Nat.le_refl _) _
    have hc7 : Cel (w6.alloc (.cells #[.int .i64 r.kind, .int .i64 r.txn, .int .i64 r.ts, .int .i64 r.coord, .string r.key, .string r.text, .bool r.dead, .slice OA r.keys.length oc, .slice OB r.ws.length od] 37)) w6.heap.size 37 (rcs ⟨r, OA, OB, oc, od⟩) := (blk1 w6 _).2
    have HQ := Lib.hid (pl_begin hP.out HF2.out.1 HF2.out.2.1 HF2.out.2.2 hb6 hb7 (by simp) hval hfk hfw hnew hc7)
    clear hval hfk hfw hnew hb6 hb7 hc7 hP HF2 HCp x0 x1 x2 x3 x4 x5 x6 x7 x8
    go_upto_region 10 with fail
    generalize hw7 : w6.alloc (.cells #[.int .i64 r.kind, .int .i64 r.txn, .int .i64 r.ts, .int .i64 r.coord, .string r.key, .string r.text, .bool r.dead, .slice OA r.keys.length oc, .slice OB r.ws.length od] 37) = w7 at HQ ⊢
    clear hw7
    generalize w6.heap.size = v9 at HQ ⊢
    generalize w5.heap.size = lo at HQ ⊢
    generalize w7.heap.size = hi at HQ
    generalize Gr (Gr P wr w5) w5 w7 = P7 at HQ
    have qe := bne_self_i er
    have HCf : Hid (∀ V, Pl10 W1 V g h g2 v9 lo hi F F2 P7 s s s ⟨r, OA, OB, oc, od⟩ → Calls Tryz.prog 11 #[.pointer (some ⟨g2, 0, none⟩), .agg #[.int .i64 r.kind, .int .i64 r.txn, .int .i64 r.ts, .int .i64 r.coord, .string r.key, .string r.text, .bool r.dead, .slice RA r.keys.length rc, .slice RB r.ws.length rd]] V fun e w' => e = .returned (.int .i64 er) ∧ ∃ F2' P', Pl10 W1 w' g h g2 v9 lo hi F F2' P' s s s1 ⟨r, OA, OB, oc, od⟩) := Lib.hid (fun V q => q.callF ⟨r, RA, RB, rc, rd⟩ (HVl.out.below (HWb.out _ q.pl.bel)) HEr.out)
    obtain ⟨x0, x1, x2, x3, x4, x5, x6, x7, x8⟩ := HXc.out _ (HWb.out _ HQ.out.pl.bel)
    have y0 := HQ.out.cel.cell (i := 0) rfl
    have y1 := HQ.out.cel.cell (i := 1) rfl
    have y2 := HQ.out.cel.cell (i := 2) rfl
    have y3 := HQ.out.cel.cell (i := 3) rfl
    have y4 := HQ.out.cel.cell (i := 4) rfl
    have y5 := HQ.out.cel.cell (i := 5) rfl
    have y6 := HQ.out.cel.cell (i := 6) rfl
    have y7 := HQ.out.cel.cell (i := 7) rfl
    have y8 := HQ.out.cel.cell (i := 8) rfl
    go_region_held3 (fun w' => w'.cell? (ad.add (j * 9)) = some (.int .i64 r.kind) ∧ w'.cell? ⟨(ad.add (j * 9)).block, (ad.add (j * 9)).off + 1, none⟩ = some (.int .i64 r.txn) ∧ w'.cell? ⟨(ad.add (j * 9)).block, (ad.add (j * 9)).off + 2, none⟩ = some (.int .i64 r.ts) ∧ w'.cell? ⟨(ad.add (j * 9)).block, (ad.add (j * 9)).off + 3, none⟩ = some (.int .i64 r.coord) ∧ w'.cell? ⟨(ad.add (j * 9)).block, (ad.add (j * 9)).off + 4, none⟩ = some (.string r.key) ∧ w'.cell? ⟨(ad.add (j * 9)).block, (ad.add (j * 9)).off + 5, none⟩ = some (.string r.text) ∧ w'.cell? ⟨(ad.add (j * 9)).block, (ad.add (j * 9)).off + 6, none⟩ = some (.bool r.dead) ∧ w'.cell? ⟨(ad.add (j * 9)).block, (ad.add (j * 9)).off + 7, none⟩ = some (.slice RA r.keys.length rc) ∧ w'.cell? ⟨(ad.add (j * 9)).block, (ad.add (j * 9)).off + 8, none⟩ = some (.slice RB r.ws.length rd) ∧ w'.cell? ⟨v9, 0, none⟩ = some (.int .i64 r.kind) ∧ w'.cell? ⟨v9, 1, none⟩ = some (.int .i64 r.txn) ∧ w'.cell? ⟨v9, 2, none⟩ = some (.int .i64 r.ts) ∧ w'.cell? ⟨v9, 3, none⟩ = some (.int .i64 r.coord) ∧ w'.cell? ⟨v9, 4, none⟩ = some (.string r.key) ∧ w'.cell? ⟨v9, 5, none⟩ = some (.string r.text) ∧ w'.cell? ⟨v9, 6, none⟩ = some (.bool r.dead) ∧ w'.cell? ⟨v9, 7, none⟩ = some (.slice OA r.keys.length oc) ∧ w'.cell? ⟨v9, 8, none⟩ = some (.slice OB r.ws.length od))
      (first | (refine ⟨?_, ?_, ?_, ?_, ?_, ?_, ?_, ?_, ?_, ?_, ?_, ?_, ?_, ?_, ?_, ?_, ?_, ?_⟩ <;> assumption) | go_keep)
      (first
    | (go_at_call 14
       have hvx := HVl.out.below (HWb.out _ HQ12.out.pl.bel)
       have hvy := HQ12.out.val
       have hsm := sameRec_any OA OB RA RB oc od rc rd r r w12 hvy.ks hvy.ws hvx.ks hvx.ws (by have h : r.keys.length * 16 ≤ reachBytes := hvy.rng.k16; unfold reachBytes at h; omega) (by have h : r.ws.length * 40 ≤ reachBytes := hvy.rng.w40; unfold reachBytes at h; omega)
       rw [Rc.sameB_self] at hsm
       refine hsm.mono ?_
       rintro e13 w13 ⟨rfl, hb13⟩
       have q13 := HQ12.out.below hb13
       obtain ⟨x0, x1, x2, x3, x4, x5, x6, x7, x8⟩ := HXc.out _ (HWb.out _ (q13.pl.bel))
       have y0 := (q13.cel).cell (i := 0) rfl
       have y1 := (q13.cel).cell (i := 1) rfl
       have y2 := (q13.cel).cell (i := 2) rfl
       have y3 := (q13.cel).cell (i := 3) rfl
       have y4 := (q13.cel).cell (i := 4) rfl
       have y5 := (q13.cel).cell (i := 5) rfl
       have y6 := (q13.cel).cell (i := 6) rfl
       have y7 := (q13.cel).cell (i := 7) rfl
       have y8 := (q13.cel).cell (i := 8) rfl
       have HQ13 := Lib.hid q13
       clear q13 hb13 hvx hvy hsm)
    | (go_at_call 13
       refine (HQ11.out.callR ⟨r, RA, RB, rc, rd⟩ (arg_away HVl.out (HWb.out _ HQ11.out.pl.bel) (fun k hk => Nat.le_trans HB1.out.size (HQ11.out.pl.geh k hk))) HEr.out).mono ?_
       rintro e12 w12 ⟨rfl, q12⟩
       obtain ⟨x0, x1, x2, x3, x4, x5, x6, x7, x8⟩ := HXc.out _ (HWb.out _ (q12.pl.bel))
       have y0 := (q12.cel).cell (i := 0) rfl
       have y1 := (q12.cel).cell (i := 1) rfl
       have y2 := (q12.cel).cell (i := 2) rfl
       have y3 := (q12.cel).cell (i := 3) rfl
       have y4 := (q12.cel).cell (i := 4) rfl
       have y5 := (q12.cel).cell (i := 5) rfl
       have y6 := (q12.cel).cell (i := 6) rfl
       have y7 := (q12.cel).cell (i := 7) rfl
       have y8 := (q12.cel).cell (i := 8) rfl
       have HQ12 := Lib.hid q12
       clear q12)
    | (go_at_call 11
       refine (HQ10.out.callL HEr.out).mono ?_
       rintro e11 w11 ⟨rfl, F11, P11, q11⟩
       obtain ⟨x0, x1, x2, x3, x4, x5, x6, x7, x8⟩ := HXc.out _ (HWb.out _ (q11.pl.bel))
       have y0 := (q11.cel).cell (i := 0) rfl
       have y1 := (q11.cel).cell (i := 1) rfl
       have y2 := (q11.cel).cell (i := 2) rfl
       have y3 := (q11.cel).cell (i := 3) rfl
       have y4 := (q11.cel).cell (i := 4) rfl
       have y5 := (q11.cel).cell (i := 5) rfl
       have y6 := (q11.cel).cell (i := 6) rfl
       have y7 := (q11.cel).cell (i := 7) rfl
       have y8 := (q11.cel).cell (i := 8) rfl
       have HQ11 := Lib.hid q11
       clear q11)
    | (go_at_call 13
       refine (HT9.out.call ⟨r, RA, RB, rc, rd⟩ (arg_away HVl.out (HWb.out _ HT9.out.now.pl.bel) (fun k hk => Nat.le_trans HB1.out.size (HT9.out.geh k hk))) HEr.out).mono ?_
       rintro e10 w10 ⟨rfl, q10⟩
       obtain ⟨x0, x1, x2, x3, x4, x5, x6, x7, x8⟩ := HXc.out _ (HWb.out _ (q10.pl.bel))
       have y0 := (q10.cel).cell (i := 0) rfl
       have y1 := (q10.cel).cell (i := 1) rfl
       have y2 := (q10.cel).cell (i := 2) rfl
       have y3 := (q10.cel).cell (i := 3) rfl
       have y4 := (q10.cel).cell (i := 4) rfl
       have y5 := (q10.cel).cell (i := 5) rfl
       have y6 := (q10.cel).cell (i := 6) rfl
       have y7 := (q10.cel).cell (i := 7) rfl
       have y8 := (q10.cel).cell (i := 8) rfl
       have HQ10 := Lib.hid q10
       clear q10)
    | (go_at_call 12
       refine HQ8.out.callT.mono ?_
       rintro e9 w9 ⟨h2, rfl, t9⟩
       obtain ⟨x0, x1, x2, x3, x4, x5, x6, x7, x8⟩ := HXc.out _ (HWb.out _ (t9.now.pl.bel))
       have y0 := (t9.now.cel).cell (i := 0) rfl
       have y1 := (t9.now.cel).cell (i := 1) rfl
       have y2 := (t9.now.cel).cell (i := 2) rfl
       have y3 := (t9.now.cel).cell (i := 3) rfl
       have y4 := (t9.now.cel).cell (i := 4) rfl
       have y5 := (t9.now.cel).cell (i := 5) rfl
       have y6 := (t9.now.cel).cell (i := 6) rfl
       have y7 := (t9.now.cel).cell (i := 7) rfl
       have y8 := (t9.now.cel).cell (i := 8) rfl
       have HT9 := Lib.hid t9
       clear t9)
    | (go_at_call 11
       refine (HCf.out _ (by first | exact HQ.out | exact HQ.out.below (Below.refl _ _).drew)).mono ?_
       rintro e8 w8 ⟨rfl, F8, P8, q8⟩
       obtain ⟨x0, x1, x2, x3, x4, x5, x6, x7, x8⟩ := HXc.out _ (HWb.out _ (q8.pl.bel))
       have y0 := (q8.cel).cell (i := 0) rfl
       have y1 := (q8.cel).cell (i := 1) rfl
       have y2 := (q8.cel).cell (i := 2) rfl
       have y3 := (q8.cel).cell (i := 3) rfl
       have y4 := (q8.cel).cell (i := 4) rfl
       have y5 := (q8.cel).cell (i := 5) rfl
       have y6 := (q8.cel).cell (i := 6) rfl
       have y7 := (q8.cel).cell (i := 7) rfl
       have y8 := (q8.cel).cell (i := 8) rfl
       have HQ8 := Lib.hid q8
       clear q8))
    all_goals
      have y7 := HQ13.out.cel.cell (i := 7) rfl
      have HE := Lib.hid HQ13.out.end
      have HC9 := Lib.hid HQ13.out.cel
      have HFk := Lib.hid HQ13.out.frk
      have HFw := Lib.hid HQ13.out.frw
      have HRb := Lib.hid HQ13.out.rb
      have HKl := Lib.hid (show r.keys.length ≤ 9223372036854775807 by have h : r.keys.length * 16 ≤ reachBytes := HQ13.out.val.rng.k16; unfold reachBytes at h; omega)
      have HSpl := Lib.hid (spoilT_any OA oc r.keys.length w13 HKl.out HFk.out)
      have pwl : (r.ws.length : Int) ≤ 9223372036854775807 := by have h : r.ws.length * 40 ≤ reachBytes := HQ13.out.val.rng.w40; unfold reachBytes at h; omega
      clear x0 x1 x2 x3 x4 x5 x6 x7 x8 y0 y1 y2 y3 y4 y5 y6 y8 HQ HQ8 HT9 HQ10 HQ11 HQ12 HQ13 HCf
      go_wp2_with fail
      refine HSpl.out.mono ?_
      rintro e14 w14 ⟨rfl, hsp⟩
      have HE14 := Lib.hid (HE.out.spoil hsp.size hsp.st (fun k hk => hsp.block k (fun hp ad e he => by have := HRb.out ad.block (.inl ⟨hp, ad, e, rfl⟩); omega)))
      have hk9 : w14.heap[v9]? = w13.heap[v9]? := hsp.block v9 (fun hp ad e he => by
        obtain ⟨gg, xs, e2, hc, -⟩ := HFk.out hp
        obtain rfl : ad = ⟨gg, 0, none⟩ := Option.some.inj (e.symm.trans e2)
        exact cel_ne hc HC9.out (by decide) he.symm)
      have HC14 := Lib.hid (show Cel w14 v9 37 (rcs ⟨r, OA, OB, oc, od⟩) from hk9.trans HC9.out)
      have HW14 : Hid (0 < r.ws.length → ∃ gg xs, OB = some ⟨gg, 0, none⟩ ∧ Cel w14 gg 45 xs ∧ r.ws.length * 3 ≤ xs.length ∧ lo ≤ gg ∧ gg < hi) := Lib.hid (fun hp => by
        obtain ⟨gg, xs, e, hc, hl⟩ := HFw.out hp
        have hb := HRb.out gg (.inr ⟨hp, ⟨gg, 0, none⟩, e, rfl⟩)
        refine ⟨gg, xs, e, (hsp.block gg (fun hp2 ad e2 he => ?_)).trans hc, hl, hb.1, hb.2⟩
        obtain ⟨g3, ys, e3, hc3, -⟩ := HFk.out hp2
        obtain rfl : ad = ⟨g3, 0, none⟩ := Option.some.inj (e2.symm.trans e3)
        exact cel_ne hc3 hc (by decide) he.symm)
      clear hsp hk9 HSpl HE HC9 HFk HFw y7 HKl HRb
      go_wp2_with fail
      go_loopw [10] (fun kv wr => ∃ k : Nat, k ≤ r.ws.length ∧ kv = .int .i64 (k : Int) ∧ Hid (Pl12 W1 wr g h g2 lo hi F11 F8 P11 s1 s1) ∧ Hid (Cel wr v9 37 (rcs ⟨r, OA, OB, oc, od⟩)) ∧ Hid (0 < r.ws.length → ∃ gg xs, OB = some ⟨gg, 0, none⟩ ∧ Cel wr gg 45 xs ∧ r.ws.length * 3 ≤ xs.length ∧ lo ≤ gg ∧ gg < hi)) (fun kv _ => r.ws.length - (RowKit.intOf kv).toNat)
      case atStart => exact ⟨0, by omega, rfl, HE14, HC14, HW14⟩
      case round =>
        clear HE14 HC14 HW14
        obtain ⟨k, hk, rfl, hE, hC, hW⟩ := hrel
        have y8 := hC.out.cell (i := 8) rfl
        by_cases hkl : k < r.ws.length
        · have pk : (k : Int) < (r.ws.length : Int) := by omega
          obtain ⟨gg, xs, rfl, hcel, hl, hg1, hg2⟩ := hW.out (by omega)
          obtain ⟨u0, hu0⟩ : ∃ u, xs[k * 3]? = some u := ⟨_, List.getElem?_eq_getElem (by omega)⟩
          obtain ⟨u1, hu1⟩ : ∃ u, xs[k * 3 + 1]? = some u := ⟨_, List.getElem?_eq_getElem (by omega)⟩
          obtain ⟨u2, hu2⟩ : ∃ u, xs[k * 3 + 2]? = some u := ⟨_, List.getElem?_eq_getElem (by omega)⟩
          have d0 := hcel.cell (i := k * 3) hu0
          have d1 := hcel.cell (i := k * 3 + 1) hu1
          have d2 := hcel.cell (i := k * 3 + 2) hu2
          have dq := fun i => hcel.free (i := i)
          have HN := Lib.hid (And.intro hcel (And.intro hl (And.intro hg1 hg2)))
          have HNe := Lib.hid (show v9 ≠ gg from cel_ne hC.out hcel (by decide))
          clear hcel hl hg1 hg2 hu0 hu1 hu2
          go_wp2_with fail
          go_roundw
          case rel =>
            have kb : ∀ (q : Nat), q ≠ gg → ∀ (V : World) (i : Nat) (u : Value), (V.setCell ⟨gg, i, none⟩ u).heap[q]? = V.heap[q]? := fun q hq V i u => Below.heap_setCell V ⟨gg, i, none⟩ u q hq
            refine ⟨k + 1, by omega, by go_num, Lib.hid (hE.out.spoil (by simp [World.setCell]) ((st_set _ _ _).trans ((st_set _ _ _).trans (st_set _ _ _))) (fun q hq => ?_)), Lib.hid ?_, Lib.hid (fun _ => ⟨gg, _, rfl, ((HN.out.1.set (i := k * 3)).set (i := k * 3 + 1)).set (i := k * 3 + 2), by rw [List.length_set, List.length_set, List.length_set]; exact HN.out.2.1, HN.out.2.2.1, HN.out.2.2.2⟩)⟩
            · have hq2 : q ≠ gg := fun e => by have := HN.out.2.2; omega
              rw [kb q hq2, kb q hq2, kb q hq2]
            · refine Eq.trans ?_ hC.out
              rw [kb v9 HNe.out, kb v9 HNe.out, kb v9 HNe.out]
          case measure => simp [RowKit.intOf]; omega
        · obtain rfl : k = r.ws.length := by omega
          have hap := hE.out.fk.apply_c hE.out.fok ⟨Rc.bareR 4 0 1125899906842624, none, none, 0, 0⟩ (Rc.bare_val wr 4 0 1125899906842624 sweep_big)
          have HAp : Hid (Calls Tryz.prog 11 #[.pointer (some ⟨g2, 0, none⟩), .agg #[.int .i64 4, .int .i64 0, .int .i64 1125899906842624, .int .i64 0, .string ⟨#[]⟩, .string ⟨#[]⟩, .bool false, .slice none 0 0, .slice none 0 0]] wr fun e w' => (∃ n : Int, e = .returned (.int .i64 n)) ∧ Far F8 wr w') := Lib.hid (hap.mono fun e w' h => ⟨⟨_, h.1⟩, h.2.2⟩)
          clear hap hC hW
          go_wp2_with fail
          refine HAp.out.mono ?_
          rintro e15 w15 ⟨⟨n15, rfl⟩, hf⟩
          have HP := Lib.hid (hE.out.actF hf)
          have q0 := (HC.out _ HP.out.bel).cell (i := 0) rfl
          have q1 := (HC.out _ HP.out.bel).cell (i := 1) rfl
          have q2 := (HC.out _ HP.out.bel).cell (i := 2) rfl
          have hw := HWb.out _ HP.out.bel
          have HSm := Lib.hid (same_any w15 _ _ g h s1 HP.out.rep HP.out.ref HP.out.okL A B C a b c ks ts ms (HKa.out _ hw) (HTa.out _ hw) (HMa.out _ hw) HKs.out HTr.out HLs.out.1 HLs.out.2.1 HLs.out.2.2)
          clear hf hE HAp hw y8
          go_wp2_with fail
          refine HSm.out.mono ?_
          rintro e16 w16 ⟨rfl, hb⟩
          have HP16 := Lib.hid (HP.out.below hb)
          clear hb HSm HP q0 q1 q2
          go_wp2_with fail
          go_roundw
          case rel => exact ⟨j + 1, _, _, _, by omega, by omega, by go_num, HP16⟩
          case measure => simp [RowKit.intOf]; omega
end Sh
end Go.Proofs.YtbkanoblcojdfaaGreat
