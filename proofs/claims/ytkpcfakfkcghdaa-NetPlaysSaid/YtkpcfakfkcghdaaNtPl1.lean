/- A letter's copy with rows of its own, and marks over a letter's lists; no condition but the range. -/
import Derived.Test.YtkpcfakfkcghdaaNtTwo
import Derived.Test.YtkpcfakfkcghdaaA11
namespace Go.Proofs.Ytkpcfakfkcghdaa
namespace Nt
open Go.RowKit Bk Lt
set_option linter.unusedVariables false

attribute [local go_sem ↓] Go.wp_at_zero Go.wp_at_succ
attribute [local go_sem] floatUpon pick

set_option maxRecDepth 20000 in
set_option maxHeartbeats 8000000 in
theorem copyB_any (A B : Option Addr) (c d : Nat) (l : Let) (w : World) (h : LetVal w A B c d l) (w40 : l.ws.length * 40 ≤ 140737488351232) :
    Calls Try.prog 23 #[letV l A B c d] w fun e w' => ∃ x : LI, e = .returned (letV x.l x.A x.B x.c x.d) ∧ x.l = l ∧ LOwn w' w.heap.size x ∧ Below w.heap.size w w' := by
  obtain ⟨i0, hi, hz0, hz1, hz2⟩ := info_parts Try.infoStr
  obtain ⟨i1, hi', hz0', hz1', hz2'⟩ := info_parts Try.infoWrite
  have henv := LtEnv.start (c := c) (d := d) h.ks h.ws
  have HV := Lib.hid h
  have k16 : l.keys.length * 16 ≤ 140737488351232 := by have := h.rng.k16; unfold reachBytes at this; omega
  clear h
  unfold letV
  go_enter Try.func23, Try.ntmps23
  go_upto_region 1 with fail
  have hE1 := henv.step ((Below.refl _ _).alloc (Nat.le_refl _) (.cells #[.int .i64 0, .int .i64 0, .int .i64 0, .int .i64 0, .int .i64 0, .int .i64 0, .string ⟨#[]⟩, .slice none 0 0, .slice none 0 0] 35))
  have hR1 : Cel ((w.alloc (.cells #[.int .i64 l.kind, .int .i64 l.src, .int .i64 l.dst, .int .i64 l.txn, .int .i64 l.ts, .int .i64 l.code, .string l.text, .slice A l.keys.length c, .slice B l.ws.length d] 35)).alloc (.cells #[.int .i64 0, .int .i64 0, .int .i64 0, .int .i64 0, .int .i64 0, .int .i64 0, .string ⟨#[]⟩, .slice none 0 0, .slice none 0 0] 35)) (w.heap.size + 1) 35 [.int .i64 0, .int .i64 0, .int .i64 0, .int .i64 0, .int .i64 0, .int .i64 0, .string ⟨#[]⟩, .slice none 0 0, .slice none 0 0] := (blk2 w _ _).2.2
  have hsz1 : w.heap.size + 1 < ((w.alloc (.cells #[.int .i64 l.kind, .int .i64 l.src, .int .i64 l.dst, .int .i64 l.txn, .int .i64 l.ts, .int .i64 l.code, .string l.text, .slice A l.keys.length c, .slice B l.ws.length d] 35)).alloc (.cells #[.int .i64 0, .int .i64 0, .int .i64 0, .int .i64 0, .int .i64 0, .int .i64 0, .string ⟨#[]⟩, .slice none 0 0, .slice none 0 0] 35)).heap.size := hR1.lt
  generalize (w.alloc (.cells #[.int .i64 l.kind, .int .i64 l.src, .int .i64 l.dst, .int .i64 l.txn, .int .i64 l.ts, .int .i64 l.code, .string l.text, .slice A l.keys.length c, .slice B l.ws.length d] 35)).alloc (.cells #[.int .i64 0, .int .i64 0, .int .i64 0, .int .i64 0, .int .i64 0, .int .i64 0, .string ⟨#[]⟩, .slice none 0 0, .slice none 0 0] 35) = W1 at hE1 hR1 hsz1 ⊢
  have HE := Lib.hid hE1
  have HR := Lib.hid hR1
  clear henv hE1 hR1
  have k7 := fun o : Obj => (HE.out.step ((Below.refl _ W1).alloc (Nat.le_refl _) o)).cel.cell (i := 7) rfl
  have hO0 : (W1.alloc (.cells #[] 9)).ownsRow W1.heap.size 9 1 (.slice (some ⟨W1.heap.size, 0, none⟩) 0 0) 0 [] := World.ownsRow_lit (base := W1.heap.size) (e := 9) (size := 1) W1 #[] 0 (Nat.le_refl _) (by unfold maxLen; omega) rfl
  have HO0 := Lib.hid hO0
  have HAn := Lib.hid (show A = none → l.keys.length = 0 ∧ c = 0 from fun e => by
    obtain ⟨h1, h2⟩ := HV.out.kn e
    exact ⟨by rw [h1]; rfl, h2⟩)
  have HBn := Lib.hid (show B = none → l.ws.length = 0 ∧ d = 0 from fun e => by
    obtain ⟨h1, h2⟩ := HV.out.wn e
    exact ⟨by rw [h1]; rfl, h2⟩)
  clear hO0
  go_wp2_with (at_builtin; refine wpList_append_opt rfl _ _ 32 rfl W1.heap.size 9 i0 (.string ⟨#[]⟩) 16 Try.underlying32 hi hz0 hz1 hz2 rfl _ 0 _ rfl HO0.out A l.keys.length c (strV l.keys) rfl (strV_len _) HAn.out ?c1 ?c2 ?c3 ?c4 (by simp) ?_)
  case c1 => exact fun ad e => by subst e; exact (HE.out.ks.alloc _).news
  case c2 => intro u hu; obtain ⟨s, _, rfl⟩ := List.mem_map.1 hu; rfl
  case c3 => unfold maxLen; omega
  case c4 => omega
  intro v' w3 ho hg hat
  have hb3 : Below W1.heap.size W1 w3 := ((Below.refl _ W1).alloc (Nat.le_refl _) (.cells #[] 9)).grown hg (by simp) (fun k hk => (HO0.out.lt k hk).1)
  have hX3 := hb3.size
  obtain ⟨A1, c1, rfl, f1, f2⟩ := Pk.own_form ho
  have hE3 := HE.out.step hb3
  have hR3 := HR.out.below hb3
  have kq := fun i => hE3.cel.free (i := i)
  have k3 := hE3.cel.cell (i := 7) rfl
  have hN : (Value.slice A1 l.keys.length c1).ownBlock ≠ some w.heap.size := fun e => by have := (ho.lt _ e).1; omega
  have hN2 : (Value.slice A1 l.keys.length c1).ownBlock ≠ some (w.heap.size + 1) := fun e => by have := (ho.lt _ e).1; omega
  have HO3 := Lib.hid ho
  have HE3 := Lib.hid hE3
  have HR3 := Lib.hid hR3
  have HN := Lib.hid hN
  have HN2 := Lib.hid hN2
  clear ho hg hat hb3 hE3 hR3 hN hN2 k7 HO0 HE HR f1 f2
  go_upto_region 2 with fail
  have hC4 : Cel (w3.setCell ⟨w.heap.size, 7, none⟩ (.slice A1 l.keys.length c1)) w.heap.size 35 [.int .i64 l.kind, .int .i64 l.src, .int .i64 l.dst, .int .i64 l.txn, .int .i64 l.ts, .int .i64 l.code, .string l.text, .slice A1 l.keys.length c1, .slice B l.ws.length d] := HE3.out.cel.set
  have hR4 : Cel (w3.setCell ⟨w.heap.size, 7, none⟩ (.slice A1 l.keys.length c1)) (w.heap.size + 1) 35 _ := HR3.out.far (by omega)
  have hO4 := ownsRow_setCell_other (a := ⟨w.heap.size, 7, none⟩) HO3.out HN.out (.slice A1 l.keys.length c1)
  have hB4 := HE3.out.bel.setCell (p := ⟨w.heap.size, 7, none⟩) (Nat.le_refl _) (.slice A1 l.keys.length c1)
  have hX4 : W1.heap.size ≤ (w3.setCell ⟨w.heap.size, 7, none⟩ (.slice A1 l.keys.length c1)).heap.size := by simpa using hX3
  generalize w3.setCell ⟨w.heap.size, 7, none⟩ (.slice A1 l.keys.length c1) = W4 at hC4 hR4 hO4 hB4 hX4 ⊢
  have HC4 := Lib.hid hC4
  have HR4 := Lib.hid hR4
  have HO4 := Lib.hid hO4
  have HB4 := Lib.hid hB4
  have k8 := fun o : Obj => (HC4.out.below ((Below.refl _ W4).alloc (Nat.le_refl _) o)).cell (i := 8) rfl
  have hO0 : (W4.alloc (.cells #[] 82)).ownsRow W4.heap.size 82 3 (.slice (some ⟨W4.heap.size, 0, none⟩) 0 0) 0 [] := World.ownsRow_lit (base := W4.heap.size) (e := 82) (size := 3) W4 #[] 0 (Nat.le_refl _) (by unfold maxLen; omega) rfl
  have HO0 := Lib.hid hO0
  have HWs := Lib.hid (HV.out.ws.below HB4.out)
  clear hC4 hR4 hO4 hB4 hO0 HO3 HE3 HR3 kq k3 hX3
  go_wp2_with (at_builtin; refine wpList_append_opt3 rfl _ _ 33 rfl W4.heap.size 82 i1 (.agg #[.string ⟨#[]⟩, .string ⟨#[]⟩, .bool false]) 40 Try.underlying33 hi' hz0' hz1' hz2' rfl _ 0 _ rfl HO0.out B l.ws.length d (wrV l.ws) rfl (wrV_len _) HBn.out ?d1 ?d2 ?d3 ?d4 (by simp) ?_)
  case d1 => exact fun ad e => by subst e; exact (HWs.out.alloc _).news
  case d2 => exact wrV_one _
  case d3 => unfold maxLen; omega
  case d4 => omega
  intro v' w5 ho hg hat
  have hb5 : Below W4.heap.size W4 w5 := ((Below.refl _ W4).alloc (Nat.le_refl _) (.cells #[] 82)).grown hg (by simp) (fun k hk => (HO0.out.lt k hk).1)
  obtain ⟨B1, d1, rfl⟩ : ∃ B1 d1, v' = .slice B1 l.ws.length d1 := by
    obtain ⟨B1, d1, e, _⟩ := wrs_own ho rfl
    exact ⟨B1, d1, e⟩
  have hC5 := HC4.out.below hb5
  have hR5 := HR4.out.below hb5
  have hO5 := st_keep HO4.out hb5
  have hB5 := HB4.out.trans (hb5.mono HB4.out.size)
  have hM : (Value.slice B1 l.ws.length d1).ownBlock ≠ some w.heap.size := fun e => by have := (ho.lt _ e).1; omega
  have hM2 : (Value.slice B1 l.ws.length d1).ownBlock ≠ some (w.heap.size + 1) := fun e => by have := (ho.lt _ e).1; omega
  have kq := fun i => hC5.free (i := i)
  have k3 := hC5.cell (i := 8) rfl
  have hC6 : Cel (w5.setCell ⟨w.heap.size, 8, none⟩ (.slice B1 l.ws.length d1)) w.heap.size 35 [.int .i64 l.kind, .int .i64 l.src, .int .i64 l.dst, .int .i64 l.txn, .int .i64 l.ts, .int .i64 l.code, .string l.text, .slice A1 l.keys.length c1, .slice B1 l.ws.length d1] := hC5.set
  have hR6 : Cel (w5.setCell ⟨w.heap.size, 8, none⟩ (.slice B1 l.ws.length d1)) (w.heap.size + 1) 35 _ := hR5.far (by omega)
  have hO6 := ownsRow_setCell_other (a := ⟨w.heap.size, 8, none⟩) hO5 HN.out (.slice B1 l.ws.length d1)
  have hP6 := ownsRow_setCell_other (a := ⟨w.heap.size, 8, none⟩) ho hM (.slice B1 l.ws.length d1)
  have hB6 := hB5.setCell (p := ⟨w.heap.size, 8, none⟩) (Nat.le_refl _) (.slice B1 l.ws.length d1)
  have HR6 := Lib.hid hR6
  have HC6 := Lib.hid hC6
  have HO6 := Lib.hid hO6
  have HP6 := Lib.hid hP6
  have HB6 := Lib.hid hB6
  have HM2 := Lib.hid hM2
  clear ho hg hat hb5 hC5 hR5 hO5 hB5 hM hM2 hC6 hR6 hO6 hP6 hB6 k8 HO0 HC4 HR4 HO4 HB4 HWs
  go_upto_region 3 with fail
  generalize w5.setCell ⟨w.heap.size, 8, none⟩ (.slice B1 l.ws.length d1) = W6 at HR6 HC6 HO6 HP6 HB6 ⊢
  clear kq k3
  have k0 := HC6.out.cell (i := 0) rfl
  have k1 := HC6.out.cell (i := 1) rfl
  have k2 := HC6.out.cell (i := 2) rfl
  have k3 := HC6.out.cell (i := 3) rfl
  have k4 := HC6.out.cell (i := 4) rfl
  have k5 := HC6.out.cell (i := 5) rfl
  have k6 := HC6.out.cell (i := 6) rfl
  have k7 := HC6.out.cell (i := 7) rfl
  have k8 := HC6.out.cell (i := 8) rfl
  have q0 := HR6.out.cell (i := 0) rfl
  have q1 := HR6.out.cell (i := 1) rfl
  have q2 := HR6.out.cell (i := 2) rfl
  have q3 := HR6.out.cell (i := 3) rfl
  have q4 := HR6.out.cell (i := 4) rfl
  have q5 := HR6.out.cell (i := 5) rfl
  have q6 := HR6.out.cell (i := 6) rfl
  have q7 := HR6.out.cell (i := 7) rfl
  have q8 := HR6.out.cell (i := 8) rfl
  have zq := fun i => HR6.out.free (i := i)
  go_wp2_with fail
  have HF := Lib.hid (set9_cel (v0 := .int .i64 l.kind) (v1 := .int .i64 l.src) (v2 := .int .i64 l.dst) (v3 := .int .i64 l.txn) (v4 := .int .i64 l.ts) (v5 := .int .i64 l.code) (v6 := .string l.text) (v7 := .slice A1 l.keys.length c1) (v8 := .slice B1 l.ws.length d1) HR6.out)
  have z0 := HF.out.cell (i := 0) rfl
  have z1 := HF.out.cell (i := 1) rfl
  have z2 := HF.out.cell (i := 2) rfl
  have z3 := HF.out.cell (i := 3) rfl
  have z4 := HF.out.cell (i := 4) rfl
  have z5 := HF.out.cell (i := 5) rfl
  have z6 := HF.out.cell (i := 6) rfl
  have z7 := HF.out.cell (i := 7) rfl
  have z8 := HF.out.cell (i := 8) rfl
  have HO7 := Lib.hid (set9_own (v0 := .int .i64 l.kind) (v1 := .int .i64 l.src) (v2 := .int .i64 l.dst) (v3 := .int .i64 l.txn) (v4 := .int .i64 l.ts) (v5 := .int .i64 l.code) (v6 := .string l.text) (v7 := .slice A1 l.keys.length c1) (v8 := .slice B1 l.ws.length d1) HO6.out HN2.out)
  have HP7 := Lib.hid (set9_own (v0 := .int .i64 l.kind) (v1 := .int .i64 l.src) (v2 := .int .i64 l.dst) (v3 := .int .i64 l.txn) (v4 := .int .i64 l.ts) (v5 := .int .i64 l.code) (v6 := .string l.text) (v7 := .slice A1 l.keys.length c1) (v8 := .slice B1 l.ws.length d1) HP6.out HM2.out)
  unfold set9 at z0 z1 z2 z3 z4 z5 z6 z7 z8
  exact bodyPost_ret (v := letV l A1 B1 c1 d1) (by simp [results, Try.results23, go_sem, letV, z0, z1, z2, z3, z4, z5, z6, z7, z8]) rfl
    ⟨⟨l, A1, B1, c1, d1⟩, rfl, rfl, ⟨row_mono HO7.out (by omega), row_mono HP7.out (by omega), HV.out.rng.toLetRng⟩, set9_below HB6.out (Nat.le_succ _)⟩

/-- the row's own block, beside which nothing is turned -/
def Ob (v : Value) (k : Nat) : Prop := v.ownBlock = some k

set_option maxRecDepth 20000 in
set_option maxHeartbeats 4000000 in
theorem spoilT_any (A : Option Addr) (c n : Nat) (w : World) (hn : n ≤ 9223372036854775807) (h : 0 < n → ∃ gg xs, A = some ⟨gg, 0, none⟩ ∧ Cel w gg 9 xs ∧ n ≤ xs.length) :
    Calls Try.prog 45 #[.slice A n c] w fun e w' => e = .returned (.tuple #[]) ∧ Far (Ob (.slice A n c)) w w' := by
  have H := Lib.hid h
  clear h
  go_enter Try.func45, Try.ntmps45
  go_wp2_with fail
  go_loopw [2] (fun i wr => ∃ (j : Nat), j ≤ n ∧ i = .int .i64 (j : Int) ∧ Hid (Far (Ob (.slice A n c)) w wr) ∧ Hid (0 < n → ∃ gg xs, A = some ⟨gg, 0, none⟩ ∧ Cel wr gg 9 xs ∧ n ≤ xs.length)) (fun i _ => n - (RowKit.intOf i).toNat)
  case atStart => exact ⟨0, Nat.zero_le _, rfl, Lib.hid (Far.refl _ _), H⟩
  case round =>
    obtain ⟨j, hj, rfl, hf, hc⟩ := hrel
    clear H
    by_cases hlt : j < n
    case neg =>
      have pj : ¬ (j : Int) < (n : Int) := by omega
      go_wp2_with fail
      exact bodyPost_end (results_none rfl _ _ _) rfl ⟨rfl, hf.out⟩
    have pj : (j : Int) < (n : Int) := by omega
    obtain ⟨gg, xs, rfl, hcel, hlen⟩ := hc.out (by omega)
    obtain ⟨u, hu⟩ : ∃ u, xs[j]? = some u := ⟨_, List.getElem?_eq_getElem (by omega)⟩
    have d0 := hcel.cell (i := j) hu
    have d1 := hcel.free (i := j)
    have HC := Lib.hid (And.intro hcel hlen)
    clear hcel hlen hu hc
    go_wp2_with fail
    go_roundw
    case rel => exact ⟨j + 1, by omega, by go_num, Lib.hid (hf.out.trans (Far.set (show Ob (.slice (some ⟨gg, 0, none⟩) n c) gg from rfl) _)), Lib.hid (fun _ => ⟨gg, _, rfl, HC.out.1.set (i := j), by rw [List.length_set]; exact HC.out.2⟩)⟩
    case measure => simp [RowKit.intOf]; omega

theorem blk_of {W : World} {H sz n c : Nat} {A : Option Addr} {e : TypeId} {xs : List Value} (h : W.ownsRow H e sz (.slice A n c) n xs) (hp : 0 < n) : ∃ gg ys, A = some ⟨gg, 0, none⟩ ∧ Cel W gg e ys ∧ n * sz ≤ ys.length := by
  obtain ⟨p, cap, rest, e1, h1, h2, h3, h4, h5⟩ := row_blk h hp
  simp only [Value.slice.injEq] at e1
  refine ⟨p, _, e1.1, h2, ?_⟩
  rw [List.length_append, h.1]; omega

set_option maxRecDepth 20000 in
set_option maxHeartbeats 4000000 in
theorem spoilL_any (x : LI) (w : World) (h : LOwn w 0 x) :
    Calls Try.prog 24 #[letV x.l x.A x.B x.c x.d] w fun e w' => e = .returned (.tuple #[]) ∧ Far (Lb x) w w' := by
  have hn1 : x.l.keys.length ≤ 9223372036854775807 := by have h1 := (own_strs h.ks).2.1; have h2 := (own_strs h.ks).2.2.1; unfold maxLen at h2; omega
  have hn2 : x.l.ws.length ≤ 9223372036854775807 := by have h1 := (own_wrs h.ws).2.1; have h2 := (own_wrs h.ws).2.2.1; unfold maxLen at h2; omega
  have HL := Lib.hid h
  clear h
  unfold letV
  go_enter Try.func24, Try.ntmps24
  go_upto_region 1 with fail
  have hC : Cel (w.alloc (.cells #[.int .i64 x.l.kind, .int .i64 x.l.src, .int .i64 x.l.dst, .int .i64 x.l.txn, .int .i64 x.l.ts, .int .i64 x.l.code, .string x.l.text, .slice x.A x.l.keys.length x.c, .slice x.B x.l.ws.length x.d] 35)) w.heap.size 35 (lcs x) := (blk1 w _).2
  have hal := (Below.refl w.heap.size w).alloc (Nat.le_refl _) (.cells #[.int .i64 x.l.kind, .int .i64 x.l.src, .int .i64 x.l.dst, .int .i64 x.l.txn, .int .i64 x.l.ts, .int .i64 x.l.code, .string x.l.text, .slice x.A x.l.keys.length x.c, .slice x.B x.l.ws.length x.d] 35)
  generalize w.alloc (.cells #[.int .i64 x.l.kind, .int .i64 x.l.src, .int .i64 x.l.dst, .int .i64 x.l.txn, .int .i64 x.l.ts, .int .i64 x.l.code, .string x.l.text, .slice x.A x.l.keys.length x.c, .slice x.B x.l.ws.length x.d] 35) = W1 at hC hal ⊢
  have hL1 := HL.out.below hal
  have k7 := hC.cell (i := 7) rfl
  have HT := Lib.hid (spoilT_any x.A x.c x.l.keys.length W1 hn1 (fun hp => by obtain ⟨gg, ys, e, h1, h2⟩ := blk_of hL1.ks hp; exact ⟨gg, ys, e, h1, by omega⟩))
  have HX1 := Lib.hid (And.intro hC (And.intro hL1 hal))
  clear hC hL1 hal
  go_wp2_with fail
  refine HT.out.mono ?_
  rintro e W2 ⟨rfl, hf⟩
  have hC2 : Cel W2 w.heap.size 35 (lcs x) := (hf.block _ HX1.out.1.lt (row_cel HX1.out.2.1.ks HX1.out.1 (by decide))).trans HX1.out.1
  have hw2 := row_same HX1.out.2.1.ws (fun p hp => hf.block p (row_lt HX1.out.2.1.ws hp).1 (fun hq => row_apart HX1.out.2.1.ks HX1.out.2.1.ws (by decide) hq hp))
  have hf2 : Far (Lb x) w W2 := (Far.of HX1.out.2.2).trans (hf.more (fun k hk => .inl (.inl hk)))
  have hB2 : 0 < x.l.ws.length → ∃ gg xs, x.B = some ⟨gg, 0, none⟩ ∧ Cel W2 gg 82 xs ∧ x.l.ws.length * 3 ≤ xs.length ∧ gg ≠ w.heap.size := fun hp => by
    obtain ⟨gg, ys, e, h1, h2⟩ := blk_of hw2 hp
    exact ⟨gg, ys, e, h1, h2, fun e2 => by subst e2; unfold Cel at h1 hC2; rw [h1] at hC2; simp at hC2⟩
  have HB2 := Lib.hid hB2
  have HC2 := Lib.hid hC2
  have HF2 := Lib.hid hf2
  clear hf hC2 hw2 hf2 hB2 k7 HT HX1
  go_wp2_with fail
  go_loopw [2] (fun i wr => ∃ (j : Nat), j ≤ x.l.ws.length ∧ i = .int .i64 (j : Int) ∧ Hid (Far (Lb x) w wr) ∧ Hid (Cel wr w.heap.size 35 (lcs x)) ∧ Hid (0 < x.l.ws.length → ∃ gg xs, x.B = some ⟨gg, 0, none⟩ ∧ Cel wr gg 82 xs ∧ x.l.ws.length * 3 ≤ xs.length ∧ gg ≠ w.heap.size)) (fun i _ => x.l.ws.length - (RowKit.intOf i).toNat)
  case atStart => exact ⟨0, Nat.zero_le _, rfl, HF2, HC2, HB2⟩
  case round =>
    obtain ⟨j, hj, rfl, hf, hx, hc⟩ := hrel
    clear HF2 HC2 HB2
    have k8 := hx.out.cell (i := 8) rfl
    by_cases hlt : j < x.l.ws.length
    case neg =>
      have pj : ¬ (j : Int) < (x.l.ws.length : Int) := by omega
      go_wp2_with fail
      exact bodyPost_end (results_none rfl _ _ _) rfl ⟨rfl, hf.out⟩
    have pj : (j : Int) < (x.l.ws.length : Int) := by omega
    obtain ⟨gg, xs, eB, hcel, hlen, hne⟩ := hc.out (by omega)
    have HF : Hid (Lb x gg) := Lib.hid (.inr (by rw [eB]; rfl))
    have HXl : Hid (∀ (V : World), Cel V gg 82 xs → True) := Lib.hid (fun _ _ => trivial)
    rw [eB] at k8
    obtain ⟨u0, hu0⟩ : ∃ u, xs[j * 3]? = some u := ⟨_, List.getElem?_eq_getElem (by omega)⟩
    obtain ⟨u1, hu1⟩ : ∃ u, xs[j * 3 + 1]? = some u := ⟨_, List.getElem?_eq_getElem (by omega)⟩
    obtain ⟨u2, hu2⟩ : ∃ u, xs[j * 3 + 2]? = some u := ⟨_, List.getElem?_eq_getElem (by omega)⟩
    have d0 := hcel.cell (i := j * 3) hu0
    have d1 := hcel.cell (i := j * 3 + 1) hu1
    have d2 := hcel.cell (i := j * 3 + 2) hu2
    have dq := fun i => hcel.free (i := i)
    have HC := Lib.hid (And.intro hcel (And.intro hlen (And.intro hne eB)))
    clear hcel hlen hu0 hu1 hu2 hc hne eB HXl
    go_wp2_with fail
    go_roundw
    case rel => exact ⟨j + 1, by omega, by go_num, Lib.hid (hf.out.trans (((Far.set HF.out _).trans (Far.set HF.out _)).trans (Far.set HF.out _))), Lib.hid (((hx.out.far HC.out.2.2.1.symm).far HC.out.2.2.1.symm).far HC.out.2.2.1.symm), Lib.hid (fun _ => ⟨gg, _, HC.out.2.2.2, ((HC.out.1.set (i := j * 3)).set (i := j * 3 + 1)).set (i := j * 3 + 2), by rw [List.length_set, List.length_set, List.length_set]; exact HC.out.2.1, HC.out.2.2.1⟩)⟩
    case measure => simp [RowKit.intOf]; omega

end Nt
end Go.Proofs.Ytkpcfakfkcghdaa
