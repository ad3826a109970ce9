/- Parts of the proof, joined: LtFrom, LtDecL; their conditions stand with each. -/
import Derived.Test.YtkpcfakfkcghdaaA6
import Derived.Test.YtkpcfakfkcghdaaA9
import Derived.Test.YtkpcfakfkcghdaaA10

/- What the landed package's fromPack answers: the letter that numbers and texts say; contract; no condition but the range. -/
namespace Go.Proofs.Ytkpcfakfkcghdaa
namespace Lt
open Go.RowKit Bk

attribute [local go_sem ↓] Go.wp_at_zero Go.wp_at_succ
attribute [local go_sem] floatUpon pick

theorem i64_wrap2 {x : Int} (h0 : -9223372036854775808 ≤ x) (h1 : x < 9223372036854775808) : IntKind.i64.wrap x = x := by
  simp only [IntKind.wrap, IntKind.bits, IntKind.signed]; simp; omega

/-- what fromPack answers -/
def FpAns (ns : List Int) (ts : List ByteArray) (w : World) : Ending → World → Prop := fun e w' =>
  (Shape ns ts ∧ ∃ (A B : Option Addr) (c d : Nat), e = .returned (.tuple #[letV (cand ns ts) A B c d, .bool true]) ∧ LetVal w' A B c d (cand ns ts) ∧ Below w.heap.size w w' ∧ (∀ a, A = some a → w.heap.size ≤ a.block) ∧ ∀ a, B = some a → w.heap.size ≤ a.block) ∨
  (¬ Shape ns ts ∧ e = .returned (.tuple #[letV noLet none none 0 0, .bool false]) ∧ Below w.heap.size w w')

/-- the letter under way in block g: its keys and writes are rows of its own -/
structure FpEnv (w W : World) (X g n : Nat) (A1 : Option Addr) (c1 : Nat) (v : Value) (L : Let) (ws : List Wr) : Prop where
  cel : Cel W g 35 [.int .i64 L.kind, .int .i64 L.src, .int .i64 L.dst, .int .i64 L.txn, .int .i64 L.ts, .int .i64 L.code, .string L.text, .slice A1 L.keys.length c1, v]
  r0 : W.ownsRow X 9 1 (.slice A1 L.keys.length c1) L.keys.length (strV L.keys)
  r1 : W.ownsRow X 82 3 v n (wrV ws)
  d : Unlike (.slice A1 L.keys.length c1) v
  gx : g < X
  bel : Below g w W

theorem FpEnv.le {w W : World} {X g n : Nat} {A1 : Option Addr} {c1 : Nat} {v : Value} {L : Let} {ws : List Wr} (h : FpEnv w W X g n A1 c1 v L ws) : g ≤ W.heap.size := Nat.le_of_lt h.cel.lt

theorem FpEnv.step {w W W' : World} {X g n : Nat} {A1 : Option Addr} {c1 : Nat} {v : Value} {L : Let} {ws : List Wr} (h : FpEnv w W X g n A1 c1 v L ws) (hb : Below W.heap.size W W') : FpEnv w W' X g n A1 c1 v L ws :=
  ⟨h.cel.below hb, st_keep h.r0 hb, st_keep h.r1 hb, h.d, h.gx, h.bel.trans (hb.mono h.le)⟩

theorem FpEnv.far {w W : World} {X g n : Nat} {A1 : Option Addr} {c1 : Nat} {v : Value} {L : Let} {ws : List Wr} (h : FpEnv w W X g n A1 c1 v L ws) : v.ownBlock ≠ some g ∧ (Value.slice A1 L.keys.length c1).ownBlock ≠ some g :=
  ⟨fun e => by have := (h.r1.lt _ e).1; have := h.gx; omega, fun e => by have := (h.r0.lt _ e).1; have := h.gx; omega⟩

/-- a write more: ahead of the store, and behind it -/
theorem FpEnv.grow {w W W1 : World} {X g n n' : Nat} {A1 : Option Addr} {c1 : Nat} {v v' : Value} {L : Let} {ws ws' : List Wr} (h : FpEnv w W X g n A1 c1 v L ws) (ho : W1.ownsRow X 82 3 v' n' (wrV ws')) (hg : W.grownBy W1 v.ownBlock) (hat : v'.ownBlock = v.ownBlock ∨ v'.ownBlock = some W.heap.size) :
    Cel W1 g 35 [.int .i64 L.kind, .int .i64 L.src, .int .i64 L.dst, .int .i64 L.txn, .int .i64 L.ts, .int .i64 L.code, .string L.text, .slice A1 L.keys.length c1, v] ∧ FpEnv w (W1.setCell ⟨g, 8, none⟩ v') X g n' A1 c1 v' L ws' := by
  have hc := (hg.block g h.cel.lt (fun e => h.far.1 e.symm)).trans h.cel
  have h0 := h.r0.kept hg h.d.ne
  have hn : v'.ownBlock ≠ some g := fun e => by have := (ho.lt _ e).1; have := h.gx; omega
  exact ⟨hc, Cel.set hc, ownsRow_setCell_other (a := ⟨g, 8, none⟩) h0 h.far.2 _, ownsRow_setCell_other (a := ⟨g, 8, none⟩) ho hn _, h.d.next (fun j hj => (h.r0.lt j hj).2) hat (Nat.le_refl _), h.gx,
    (h.bel.grown hg h.le (fun k hk => by have := (h.r1.lt k hk).1; have := h.gx; omega)).setCell (p := ⟨g, 8, none⟩) (Nat.le_refl _) _⟩

set_option maxRecDepth 20000 in
set_option maxHeartbeats 8000000 in
theorem fromPack_any (A B : Option Addr) (c d : Nat) (ns : List Int) (ts : List ByteArray) (w : World) (ha : IntsAt w A ns) (hb : StrsAt w B ts) (hm : Pk.MayBe ns ts) (h1 : ns.length ≤ c) (h2 : ts.length ≤ d) (h3 : c ≤ maxLen) (h4 : d ≤ maxLen) :
    Calls Try.prog 41 #[Pk.packV A B c d ns ts] w (FpAns ns ts w) := by
  obtain ⟨i1, hi1, hz01, hz11, hz21⟩ := info_parts Try.infoWrite
  have HMk : Hid (∀ (v : Value) (w' : World), ¬ Shape ns ts → Below w.heap.size w w' → v = letV noLet none none 0 0 → FpAns ns ts w (.returned (.tuple #[v, .bool false])) w') := Lib.hid (fun v w' h1 h2 h3 => .inr ⟨h1, by rw [h3], h2⟩)
  have hrg := cand_range hm
  have pn : (ns.length : Int) ≤ 1024 := by have := hm.1; omega
  have pt : (ts.length : Int) ≤ 1024 := by have := hm.2.1; omega
  have HM := Lib.hid hm
  have HRg := Lib.hid hrg
  have HA := Lib.hid ha
  have HB := Lib.hid hb
  clear ha hb hm hrg
  unfold Pk.packV
  go_enter Try.func41, Try.ntmps41
  go_upto_region 1 with fail
  have hB1 : Below w.heap.size w ((w.alloc (.cells #[.slice A ns.length c, .slice B ts.length d] 71)).alloc (.cells #[.int .i64 0, .int .i64 0, .int .i64 0, .int .i64 0, .int .i64 0, .int .i64 0, .string ⟨#[]⟩, .slice none 0 0, .slice none 0 0] 35)) := ((Below.refl _ w).alloc (Nat.le_refl _) _).alloc (by simp) _
  have hP1 : Cel ((w.alloc (.cells #[.slice A ns.length c, .slice B ts.length d] 71)).alloc (.cells #[.int .i64 0, .int .i64 0, .int .i64 0, .int .i64 0, .int .i64 0, .int .i64 0, .string ⟨#[]⟩, .slice none 0 0, .slice none 0 0] 35)) w.heap.size 71 [.slice A ns.length c, .slice B ts.length d] := (blk2 w _ _).2.1
  have hR1 : Cel ((w.alloc (.cells #[.slice A ns.length c, .slice B ts.length d] 71)).alloc (.cells #[.int .i64 0, .int .i64 0, .int .i64 0, .int .i64 0, .int .i64 0, .int .i64 0, .string ⟨#[]⟩, .slice none 0 0, .slice none 0 0] 35)) (w.heap.size + 1) 35 [.int .i64 0, .int .i64 0, .int .i64 0, .int .i64 0, .int .i64 0, .int .i64 0, .string ⟨#[]⟩, .slice none 0 0, .slice none 0 0] := (blk2 w _ _).2.2
  generalize (w.alloc (.cells #[.slice A ns.length c, .slice B ts.length d] 71)).alloc (.cells #[.int .i64 0, .int .i64 0, .int .i64 0, .int .i64 0, .int .i64 0, .int .i64 0, .string ⟨#[]⟩, .slice none 0 0, .slice none 0 0] 35) = W1 at hB1 hP1 hR1 ⊢
  have HB1 := Lib.hid hB1
  have HP1 := Lib.hid hP1
  have HR1 := Lib.hid hR1
  have k0 := hP1.cell (i := 0) rfl
  have k1 := hP1.cell (i := 1) rfl
  clear hB1 hP1 hR1
  by_cases h7 : 7 ≤ ns.length
  case neg =>
    have p7 : (ns.length : Int) < 7 := by omega
    have HN := Lib.hid (show ¬ Shape ns ts from fun h => h7 h.1)
    clear h7
    have zq := fun i => HR1.out.free (i := i)
    have y0 := HR1.out.cell (i := 0) rfl
    have y1 := HR1.out.cell (i := 1) rfl
    have y2 := HR1.out.cell (i := 2) rfl
    have y3 := HR1.out.cell (i := 3) rfl
    have y4 := HR1.out.cell (i := 4) rfl
    have y5 := HR1.out.cell (i := 5) rfl
    have y6 := HR1.out.cell (i := 6) rfl
    have y7 := HR1.out.cell (i := 7) rfl
    have y8 := HR1.out.cell (i := 8) rfl
    go_wp2_with fail
    have HF := Lib.hid (set9_cel (v0 := .int .i64 0) (v1 := .int .i64 0) (v2 := .int .i64 0) (v3 := .int .i64 0) (v4 := .int .i64 0) (v5 := .int .i64 0) (v6 := .string ⟨#[]⟩) (v7 := .slice none 0 0) (v8 := .slice none 0 0) HR1.out)
    have z0 := HF.out.cell (i := 0) rfl
    have z1 := HF.out.cell (i := 1) rfl
    have z2 := HF.out.cell (i := 2) rfl
    have z3 := HF.out.cell (i := 3) rfl
    have z4 := HF.out.cell (i := 4) rfl
    have z5 := HF.out.cell (i := 5) rfl
    have z6 := HF.out.cell (i := 6) rfl
    have z7 := HF.out.cell (i := 7) rfl
    have z8 := HF.out.cell (i := 8) rfl
    unfold set9 at z0 z1 z2 z3 z4 z5 z6 z7 z8
    exact bodyPost_ret (v := .tuple #[letV noLet none none 0 0, .bool false]) (by simp [results, Try.results41, go_sem, letV, noLet, z0, z1, z2, z3, z4, z5, z6, z7, z8]) rfl (HMk.out _ _ HN.out (set9_below HB1.out (Nat.le_succ _)) rfl)
  have p7 : (7 : Int) ≤ (ns.length : Int) := by omega
  obtain ⟨ad, rfl, hab, hcl⟩ := HA.out (by omega)
  have hgi : ∀ W, Below w.heap.size w W → ∀ i, 0 < i → i < 7 → W.cell? ⟨ad.block, ad.off + i, none⟩ = some (.int .i64 (ns.getD i 0)) := fun W hW i h0 hi => by
    rw [add_lit _ _ h0, cell_kept hW _ (by rw [st_block]; exact hab), hcl i (by omega), List.getD_eq_getElem?_getD, List.getElem?_eq_getElem (by omega)]; rfl
  have hg0 : ∀ W, Below w.heap.size w W → W.cell? ad = some (.int .i64 (ns.getD 0 0)) := fun W hW => by
    have h := hcl 0 (by omega)
    rw [add_zero'] at h
    rw [cell_kept hW _ hab, h, List.getD_eq_getElem?_getD, List.getElem?_eq_getElem (by omega)]; rfl
  have HGi := Lib.hid hgi
  have HG0 := Lib.hid hg0
  obtain ⟨m, hm⟩ : ∃ m, m = ns.getD 6 0 := ⟨_, rfl⟩
  have hmr : -4611686018427387904 ≤ m ∧ m ≤ 4611686018427387903 := by
    rw [hm, List.getD_eq_getElem?_getD, List.getElem?_eq_getElem (by omega)]
    have hz := HM.out.2.2.1 ns[6] (List.getElem_mem (by omega))
    unfold Pk.numOk at hz
    simpa using hz
  have HM6 := Lib.hid hm
  have HC6 := Lib.hid (fun W hW => (hgi W hW 6 (by omega) (by omega)).trans (by rw [← hm]))
  obtain ⟨K7, hK7⟩ : ∃ K7 : Option Addr, (if c = 7 then some ad else some ⟨ad.block, ad.off + 7, none⟩) = K7 := ⟨_, rfl⟩
  have HI7 := Lib.hid (fun W (hW : Below w.heap.size w W) => show IntsAt W K7 (ns.drop 7) from by
    rw [← hK7, add_lit _ _ (by omega)]
    exact ints_sub (HA.out.below hW) h1)
  have pc2 : c ≤ 9223372036854775807 := h3
  have pd2 : d ≤ 9223372036854775807 := h4
  have p6 : (6 : Int) < (ns.length : Int) := by omega
  have g6 : 6 < ns.length := by omega
  clear hcl hgi hg0 hm h3 h4
  go_upto_region 4 with fail
  refine wp_region_said 7 [16, 17, 18, 19, 20, 5, 6]
    [.is (.slice (some ad) ns.length c), .is (.pointer (some ⟨ad.block, ad.off + 6, none⟩)), .is (.int .i64 m), .is (.slice (some ad) ns.length c), .is (.slice K7 (ns.length - 7) (c - 7)), .is (.int .i64 m), .is (.slice K7 (ns.length - 7) (c - 7))]
    (fun W => Below W1.heap.size W1 W) (by kernel_rfl) (by kernel_rfl) (by kernel_rfl) (by kernel_rfl) (by kernel_rfl) (fun W W' h hb => h.trans (hb.mono h.size)) (Below.refl _ _) ?steps4 ?last4
  case steps4 =>
    simp only [List.take_succ_cons, List.take_zero]
    refine ⟨?_, ?_, ?_, ?_, ?_, ?_, ?_, trivial⟩
    all_goals
      intro vs W ρ hρ hc hf hg hI hH hd R' hR
      have c6 := HC6.out W (HB1.out.trans (hI.mono HB1.out.size))
      have HR := Lib.hid hR
      simp [depsOf, Region.binds, sayAt, Say.holds] at hd
      clear hR hI
      go_simp
      first
        | exact HR.out _ _ (by simp [sayAt, Say.holds]) (Below.refl _ _) (by simp [sayAt, Say.isBlk])
        | trace_state
  case last4 =>
    intro vs W hI hb hg hd
    have e5 := hg 5 (by omega)
    have e6 := hg 6 (by omega)
    simp only [sayAt, Say.holds, List.getD_cons_succ, List.getD_cons_zero] at e5 e6
    simp only [List.take_succ_cons, List.take_zero, List.drop_succ_cons, List.drop_zero, putAll, Act.put, List.setIfInBounds_toArray, List.set_cons_succ, List.set_cons_zero, Nat.zero_add, Nat.reduceAdd]
    rw [e5, e6]
    have HB2 := Lib.hid (HB1.out.trans (hI.mono HB1.out.size))
    have HP2 := Lib.hid (HP1.out.below hI)
    have HR2 := Lib.hid (HR1.out.below hI)
    have HS2 := Lib.hid hI.size
    have hlt1 : w.heap.size + 1 < W.heap.size := HR2.out.lt
    clear e5 e6 hg hd hb hI HB1 HP1 HR1 k0 k1 hK7
    go_upto_region 5 with fail
    have HK7s : Hid (ns.length - 7 = (ns.drop 7).length) := Lib.hid List.length_drop.symm
    obtain ⟨nf, hnf⟩ : ∃ nf, nf = ns.length - 7 := ⟨_, rfl⟩
    have hnf2 : nf ≤ 1024 := by omega
    rw [← hnf] at HK7s ⊢
    have HNf := Lib.hid hnf
    have hw1 : IntKind.i64.wrap (1 + m) = 1 + m := i64_wrap2 (by omega) (by omega)
    have hw2 : IntKind.i64.wrap (2 * (nf : Int)) = 2 * (nf : Int) := i64_wrap (by omega) (by omega)
    have hw3 : IntKind.i64.wrap (1 + m + 2 * (nf : Int)) = 1 + m + 2 * (nf : Int) := i64_wrap2 (by omega) (by omega)
    have k0 := HP2.out.cell (i := 0) rfl
    have k1 := HP2.out.cell (i := 1) rfl
    clear hnf
    by_cases hm0 : m < 0
    · have HN := Lib.hid (show ¬ Shape ns ts from fun h => by have := h.2.1; rw [← HM6.out] at this; omega)
      have zq := fun i => HR2.out.free (i := i)
      have y0 := HR2.out.cell (i := 0) rfl
      have y1 := HR2.out.cell (i := 1) rfl
      have y2 := HR2.out.cell (i := 2) rfl
      have y3 := HR2.out.cell (i := 3) rfl
      have y4 := HR2.out.cell (i := 4) rfl
      have y5 := HR2.out.cell (i := 5) rfl
      have y6 := HR2.out.cell (i := 6) rfl
      have y7 := HR2.out.cell (i := 7) rfl
      have y8 := HR2.out.cell (i := 8) rfl
      go_wp2_with fail
      have HF := Lib.hid (set9_cel (v0 := .int .i64 0) (v1 := .int .i64 0) (v2 := .int .i64 0) (v3 := .int .i64 0) (v4 := .int .i64 0) (v5 := .int .i64 0) (v6 := .string ⟨#[]⟩) (v7 := .slice none 0 0) (v8 := .slice none 0 0) HR2.out)
      have z0 := HF.out.cell (i := 0) rfl
      have z1 := HF.out.cell (i := 1) rfl
      have z2 := HF.out.cell (i := 2) rfl
      have z3 := HF.out.cell (i := 3) rfl
      have z4 := HF.out.cell (i := 4) rfl
      have z5 := HF.out.cell (i := 5) rfl
      have z6 := HF.out.cell (i := 6) rfl
      have z7 := HF.out.cell (i := 7) rfl
      have z8 := HF.out.cell (i := 8) rfl
      unfold set9 at z0 z1 z2 z3 z4 z5 z6 z7 z8
      exact bodyPost_ret (v := .tuple #[letV noLet none none 0 0, .bool false]) (by simp [results, Try.results41, go_sem, letV, noLet, z0, z1, z2, z3, z4, z5, z6, z7, z8]) rfl (HMk.out _ _ HN.out (set9_below HB2.out (Nat.le_succ _)) rfl)
    have q0 : ¬ m < 0 := hm0
    have q1 : 0 ≤ m := by omega
    by_cases hcnt : (ts.length : Int) = 1 + m + 2 * (nf : Int)
    case neg =>
      have pne : ((ts.length : Int) != 1 + m + 2 * (nf : Int)) = true := by simpa using hcnt
      have HN := Lib.hid (show ¬ Shape ns ts from fun h => hcnt (by rw [HM6.out, HNf.out]; exact h.2.2.1))
      clear hcnt
      have zq := fun i => HR2.out.free (i := i)
      have y0 := HR2.out.cell (i := 0) rfl
      have y1 := HR2.out.cell (i := 1) rfl
      have y2 := HR2.out.cell (i := 2) rfl
      have y3 := HR2.out.cell (i := 3) rfl
      have y4 := HR2.out.cell (i := 4) rfl
      have y5 := HR2.out.cell (i := 5) rfl
      have y6 := HR2.out.cell (i := 6) rfl
      have y7 := HR2.out.cell (i := 7) rfl
      have y8 := HR2.out.cell (i := 8) rfl
      go_wp2_with fail
      have HF := Lib.hid (set9_cel (v0 := .int .i64 0) (v1 := .int .i64 0) (v2 := .int .i64 0) (v3 := .int .i64 0) (v4 := .int .i64 0) (v5 := .int .i64 0) (v6 := .string ⟨#[]⟩) (v7 := .slice none 0 0) (v8 := .slice none 0 0) HR2.out)
      have z0 := HF.out.cell (i := 0) rfl
      have z1 := HF.out.cell (i := 1) rfl
      have z2 := HF.out.cell (i := 2) rfl
      have z3 := HF.out.cell (i := 3) rfl
      have z4 := HF.out.cell (i := 4) rfl
      have z5 := HF.out.cell (i := 5) rfl
      have z6 := HF.out.cell (i := 6) rfl
      have z7 := HF.out.cell (i := 7) rfl
      have z8 := HF.out.cell (i := 8) rfl
      unfold set9 at z0 z1 z2 z3 z4 z5 z6 z7 z8
      exact bodyPost_ret (v := .tuple #[letV noLet none none 0 0, .bool false]) (by simp [results, Try.results41, go_sem, letV, noLet, z0, z1, z2, z3, z4, z5, z6, z7, z8]) rfl (HMk.out _ _ HN.out (set9_below HB2.out (Nat.le_succ _)) rfl)
    have pne : ((ts.length : Int) != 1 + m + 2 * (nf : Int)) = false := by simpa using hcnt
    have HCnt := Lib.hid hcnt
    obtain ⟨q, rfl⟩ : ∃ q : Nat, m = (q : Int) := ⟨m.toNat, by omega⟩
    have ptl : 1 + q + 2 * nf = ts.length := by omega
    have HPtl := Lib.hid ptl
    obtain ⟨bd, rfl, hbb, hcs⟩ := HB.out (by omega)
    have HT0 := Lib.hid (fun W (hW : Below w.heap.size w W) => show W.cell? bd = some (.string (ts.getD 0 ⟨#[]⟩)) from by
      have h := hcs 0 (by omega)
      rw [add_zero'] at h
      rw [cell_kept hW _ hbb, h, List.getD_eq_getElem?_getD, List.getElem?_eq_getElem (by omega)]; rfl)
    have u1 : (1 + (q : Int)).toNat - 1 = q := by omega
    have u2 : 1 ≤ max (1 + (q : Int)) 0 := by omega
    have u3 : 0 ≤ 1 + (q : Int) := by omega
    have u4 : 1 + (q : Int) ≤ (d : Int) := by omega
    have u5 : 1 + (q : Int) ≤ (ts.length : Int) := by omega
    have m0 : 0 < ts.length := by omega
    have n0 : 0 < ns.length := by omega
    have i1 : (1 : Int) < (ns.length : Int) := by omega
    have i2 : (2 : Int) < (ns.length : Int) := by omega
    have i3 : (3 : Int) < (ns.length : Int) := by omega
    have i4 : (4 : Int) < (ns.length : Int) := by omega
    have i5 : (5 : Int) < (ns.length : Int) := by omega
    obtain ⟨L, hLd⟩ : ∃ L, L = cand ns ts := ⟨_, rfl⟩
    have f0 : ns.getD 0 0 = L.kind := by rw [hLd]; rfl
    have f1 : ns.getD 1 0 = L.src := by rw [hLd]; rfl
    have f2 : ns.getD 2 0 = L.dst := by rw [hLd]; rfl
    have f3 : ns.getD 3 0 = L.txn := by rw [hLd]; rfl
    have f4 : ns.getD 4 0 = L.ts := by rw [hLd]; rfl
    have f5 : ns.getD 5 0 = L.code := by rw [hLd]; rfl
    have f6 : ts.getD 0 ⟨#[]⟩ = L.text := by rw [hLd]; rfl
    have HCe : Hid (∀ W, Below w.heap.size w W → W.cell? ad = some (.int .i64 L.kind) ∧ W.cell? ⟨ad.block, ad.off + 1, none⟩ = some (.int .i64 L.src) ∧ W.cell? ⟨ad.block, ad.off + 2, none⟩ = some (.int .i64 L.dst) ∧ W.cell? ⟨ad.block, ad.off + 3, none⟩ = some (.int .i64 L.txn) ∧ W.cell? ⟨ad.block, ad.off + 4, none⟩ = some (.int .i64 L.ts) ∧ W.cell? ⟨ad.block, ad.off + 5, none⟩ = some (.int .i64 L.code) ∧ W.cell? bd = some (.string L.text)) := Lib.hid (fun W hW => by
      rw [← f0, ← f1, ← f2, ← f3, ← f4, ← f5, ← f6]
      exact ⟨HG0.out W hW, HGi.out W hW 1 (by omega) (by omega), HGi.out W hW 2 (by omega) (by omega), HGi.out W hW 3 (by omega) (by omega), HGi.out W hW 4 (by omega) (by omega), HGi.out W hW 5 (by omega) (by omega), HT0.out W hW⟩)
    have HLd := Lib.hid hLd
    clear f0 f1 f2 f3 f4 f5 f6 hLd hcnt HGi HG0 HT0 HC6 ptl
    go_upto_region 7 with fail
    refine wp_region_said 23 [36, 37, 38, 39, 40, 41, 42, 43, 44, 45, 46, 47, 48, 49, 50, 51, 52, 53, 54, 55, 56, 57, 58]
      [.is (.slice (some ad) ns.length c), .is (.pointer (some ad)), .is (.int .i64 L.kind), .is (.slice (some ad) ns.length c), .is (.pointer (some ⟨ad.block, ad.off + 1, none⟩)), .is (.int .i64 L.src), .is (.slice (some ad) ns.length c), .is (.pointer (some ⟨ad.block, ad.off + 2, none⟩)), .is (.int .i64 L.dst), .is (.slice (some ad) ns.length c), .is (.pointer (some ⟨ad.block, ad.off + 3, none⟩)), .is (.int .i64 L.txn), .is (.slice (some ad) ns.length c), .is (.pointer (some ⟨ad.block, ad.off + 4, none⟩)), .is (.int .i64 L.ts), .is (.slice (some ad) ns.length c), .is (.pointer (some ⟨ad.block, ad.off + 5, none⟩)), .is (.int .i64 L.code), .is (.pointer (some ⟨w.heap.size, 1, none⟩)), .is (.slice (some bd) ts.length d), .is (.pointer (some bd)), .is (.string L.text), .is (.agg #[.int .i64 L.kind, .int .i64 L.src, .int .i64 L.dst, .int .i64 L.txn, .int .i64 L.ts, .int .i64 L.code, .string L.text, .slice none 0 0, .slice none 0 0])]
      (fun W2 => Below W.heap.size W W2) (by kernel_rfl) (by kernel_rfl) (by kernel_rfl) (by kernel_rfl) (by kernel_rfl) (fun W W' h hb => h.trans (hb.mono h.size)) (Below.refl _ _) ?steps7 ?last7
    case steps7 =>
      simp only [List.take_succ_cons, List.take_zero]
      refine ⟨?_, ?_, ?_, ?_, ?_, ?_, ?_, ?_, ?_, ?_, ?_, ?_, ?_, ?_, ?_, ?_, ?_, ?_, ?_, ?_, ?_, ?_, ?_, trivial⟩
      all_goals
        intro vs W2 ρ hρ hc hf hg hI hH hd R' hR
        obtain ⟨c0, c1, c2, c3, c4, c5, c6⟩ := HCe.out W2 (HB2.out.trans (hI.mono HB2.out.size))
        have kk1 := (HP2.out.below hI).cell (i := 1) rfl
        have HR := Lib.hid hR
        simp [depsOf, Region.binds, sayAt, Say.holds] at hd
        clear hR hI k0 k1
        go_simp
        first
          | exact HR.out _ _ (by simp [sayAt, Say.holds]) (Below.refl _ _) (by simp [sayAt, Say.isBlk])
          | trace_state
    case last7 =>
      intro vs W2 hI hb hg hd
      have g22 := hg 22 (by omega)
      simp only [sayAt, Say.holds, List.getD_cons_succ, List.getD_cons_zero] at g22
      simp only [List.take_succ_cons, List.take_zero, List.drop_succ_cons, List.drop_zero, putAll, Act.put, List.setIfInBounds_toArray, List.set_cons_succ, List.set_cons_zero, Nat.zero_add, Nat.reduceAdd]
      rw [g22]
      have hR2 := HR2.out.below hI
      have hP2 := HP2.out.below hI
      have hB2 := HB2.out.trans (hI.mono HB2.out.size)
      have hsz2 : W.heap.size ≤ W2.heap.size := hI.size
      clear g22 hg hd hb hI k0 k1 HR2 HP2
      refine wpList_plain rfl fun K2 hK2 => ?_
      refine wp_store_row 35 (.tmp 2) (.tmp 58) rfl (w.heap.size + 1) _ rfl rfl _ _ hR2 (by kernel_rfl) rfl (by simp [Value.oneCell']) ?_
      refine hK2 _ _ ?_
      clear hK2 K2
      have hO : Cel (W2.setRow (w.heap.size + 1) #[.int .i64 L.kind, .int .i64 L.src, .int .i64 L.dst, .int .i64 L.txn, .int .i64 L.ts, .int .i64 L.code, .string L.text, .slice none 0 0, .slice none 0 0]) (w.heap.size + 1) 35 [.int .i64 L.kind, .int .i64 L.src, .int .i64 L.dst, .int .i64 L.txn, .int .i64 L.ts, .int .i64 L.code, .string L.text, .slice none 0 0, .slice none 0 0] := setRow_heap _ _ _ _ 35 (0, 0) hR2
      have hBe : Below (w.heap.size + 1) W2 (W2.setRow (w.heap.size + 1) #[.int .i64 L.kind, .int .i64 L.src, .int .i64 L.dst, .int .i64 L.txn, .int .i64 L.ts, .int .i64 L.code, .string L.text, .slice none 0 0, .slice none 0 0]) := below_row (Below.refl _ _) (Nat.le_refl _) _
      generalize W2.setRow (w.heap.size + 1) #[.int .i64 L.kind, .int .i64 L.src, .int .i64 L.dst, .int .i64 L.txn, .int .i64 L.ts, .int .i64 L.code, .string L.text, .slice none 0 0, .slice none 0 0] = W3 at hO hBe ⊢
      have hP3 : Cel W3 w.heap.size 71 [.slice (some ad) ns.length c, .slice (some bd) ts.length d] := (hBe.block w.heap.size (Nat.lt_succ_self _)).trans hP2
      have hB3 := hB2.trans (hBe.mono (Nat.le_succ _))
      have HP3 := Lib.hid hP3
      have HB3 := Lib.hid hB3
      have HO3 := Lib.hid hO
      clear hR2 hP2 hB2 hO hBe hP3 hB3 HB2
      clear i1 i2 i3 i4 i5 n0 hsz2 HCe
      have hkl : L.keys.length = q ∧ L.ws = pairL (ns.drop 7) (ts.drop (1 + q)) ∧ L.keys = (ts.drop 1).take q := by
        have hmq : manyOf ns = q := by unfold manyOf; rw [← HM6.out]; exact Int.toNat_natCast q
        have e : L.keys = (ts.drop 1).take q := by rw [HLd.out]; show (ts.drop 1).take (manyOf ns) = _; rw [hmq]
        refine ⟨by rw [e, List.length_take, List.length_drop]; have := HPtl.out; omega, ?_, e⟩
        rw [HLd.out]; show pairL _ (ts.drop (1 + manyOf ns)) = _; rw [hmq]
      obtain ⟨hq, hws, hks⟩ := hkl
      subst hq
      obtain ⟨ka, hka⟩ : ∃ ka, (if d = 1 then some bd else some (⟨bd.block, bd.off + 1, none⟩ : Addr)) = some ka := by
        by_cases e : d = 1
        · exact ⟨_, by rw [if_pos e]⟩
        · exact ⟨_, by rw [if_neg e]⟩
      have HCl := Lib.hid (fun W (hW : Below w.heap.size w W) => clone_any ka (d - 1) L.keys W (by
        rw [← hka, add_lit _ _ (by omega), hks]
        exact strs_take (strs_sub (HB.out.below hW) h2) _) (by omega))
      have HWs := Lib.hid hws
      have k1 := HP3.out.cell (i := 1) rfl
      clear hws hks
      have hX : w.heap.size + 1 < W3.heap.size := HO3.out.lt
      go_wp2_with fail
      refine (HCl.out _ HB3.out).mono ?_
      rintro e w4 ⟨A1, c1, rfl, hown, hb⟩
      have hO4 := HO3.out.below hb
      have hP4 := HP3.out.below hb
      have hB4 := HB3.out.trans (hb.mono HB3.out.size)
      have oq := fun i => hO4.free (i := i)
      have o7 := hO4.cell (i := 7) rfl
      have hN : (Value.slice A1 L.keys.length c1).ownBlock ≠ some (w.heap.size + 1) := fun e => by have := (hown.lt _ e).1; omega
      have hO5 : Cel (w4.setCell ⟨w.heap.size + 1, 7, none⟩ (.slice A1 L.keys.length c1)) (w.heap.size + 1) 35 [.int .i64 L.kind, .int .i64 L.src, .int .i64 L.dst, .int .i64 L.txn, .int .i64 L.ts, .int .i64 L.code, .string L.text, .slice A1 L.keys.length c1, .slice none 0 0] := hO4.set
      have hP5 : Cel (w4.setCell ⟨w.heap.size + 1, 7, none⟩ (.slice A1 L.keys.length c1)) w.heap.size 71 _ := hP4.far (by omega)
      have hR5 := ownsRow_setCell_other (a := ⟨w.heap.size + 1, 7, none⟩) hown hN (.slice A1 L.keys.length c1)
      have hB5 := hB4.setCell (p := ⟨w.heap.size + 1, 7, none⟩) (Nat.le_succ _) (.slice A1 L.keys.length c1)
      have HF5 := Lib.hid (show FpEnv _ _ W3.heap.size (w.heap.size + 1) 0 A1 c1 (.slice none 0 0) L [] from ⟨hO5, hR5, World.ownsRow_nil _ _ _ _, fun j _ h => by simp [Value.ownBlock] at h, hX, Below.refl _ _⟩)
      have HP5 := Lib.hid hP5
      have HF5s : Hid (W3.heap.size ≤ (w4.setCell ⟨w.heap.size + 1, 7, none⟩ (.slice A1 L.keys.length c1)).heap.size) := Lib.hid (by simpa using hb.size)
      have HB5 := Lib.hid hB5
      clear hO4 hP4 hB4 hN hO5 hP5 hR5 hB5 hown hb HCl HP3 HB3 HO3 k1
      go_upto_region 9 with fail
      generalize w4.setCell ⟨w.heap.size + 1, 7, none⟩ (.slice A1 L.keys.length c1) = W5 at HF5 HP5 HB5 HF5s ⊢
      generalize W3.heap.size = X at HF5 HF5s hX
      clear oq o7
      obtain ⟨m1, hm1⟩ : ∃ m1, m1 = 1 + L.keys.length := ⟨_, rfl⟩
      obtain ⟨K8, hK8⟩ : ∃ K8 : Option Addr, (if d = m1 then some bd else some (bd.add m1)) = K8 := ⟨_, rfl⟩
      have t4 : (1 + (L.keys.length : Int)).toNat = m1 := by omega
      have hlt8 : (ts.drop m1).length = 2 * nf := by rw [List.length_drop]; have := HPtl.out; omega
      have HS8 := Lib.hid (fun W (hW : Below w.heap.size w W) => show StrsAt W K8 (ts.drop m1) from by
        rw [← hK8]
        exact strs_sub (HB.out.below hW) h2)
      rw [← hm1] at HWs
      have hl8 : ts.length - m1 = 2 * nf := by rw [← hlt8, List.length_drop]
      have HL8 := Lib.hid hlt8
      have HL7 : Hid ((ns.drop 7).length = nf) := Lib.hid HK7s.out.symm
      have HPl := Lib.hid (pairL_len (ns.drop 7) (ts.drop m1) (by rw [hlt8, ← HK7s.out]))
      have k1 := HP5.out.cell (i := 1) rfl
      have pnf : (nf : Int) ≤ 1024 := by omega
      have h5s : Below w.heap.size w W5 := HB5.out
      have H5s := Lib.hid (fun W (hW : Below (w.heap.size + 1) W5 W) => HB5.out.trans (hW.mono (Nat.le_succ _)))
      clear u1 u2 hka hlt8 hm1 h5s
      go_upto_region 10 with fail
      clear k1 hK8
      try rw [hl8]
      generalize hns7 : ns.drop 7 = fs at *
      generalize hts8 : ts.drop m1 = us at *
      have HFs := Lib.hid hns7
      clear hns7 hts8 hl8 t4
      go_wp2_with fail
      go_loopw [73] (fun i wr => ∃ (j : Nat) (v : Value), j ≤ nf ∧ i = .int .i64 (j : Int) ∧ Hid (∀ f ∈ fs.take j, f = 0 ∨ f = 1) ∧ Hid (FpEnv W5 wr X (w.heap.size + 1) j A1 c1 v L ((pairL fs us).take j))) (fun i _ => nf - (intOf i).toNat)
      case atStart => exact ⟨0, _, by omega, rfl, fun f hf => absurd hf (by simp), HF5.out⟩
      case round =>
        obtain ⟨j, v, hj, rfl, hall, hfp⟩ := hrel
        clear HF5
        by_cases hlt : j < nf
        · have pj : (j : Int) < (nf : Int) := by omega
          have hbw := H5s.out _ hfp.out.bel
          obtain ⟨k7, rfl, _, hc7⟩ := (HI7.out wr hbw) (by rw [HL7.out]; omega)
          have x7 := hc7 j (by rw [HL7.out]; exact hlt)
          have l0 : j < fs.length := by rw [HL7.out]; exact hlt
          have l1 : 2 * j < us.length := by rw [HL8.out]; omega
          have l2 : 2 * j + 1 < us.length := by rw [HL8.out]; omega
          obtain ⟨k8, rfl, _, _⟩ := (HS8.out wr hbw) (by omega)
          have hmem : fs[j] ∈ fs := List.getElem_mem l0
          have HWi := Lib.hid (fun W => within_any fs[j] 0 1 W)
          by_cases hf : fs[j] = 0 ∨ fs[j] = 1
          case neg =>
            have HN := Lib.hid (show ¬ Shape ns ts from fun h => hf (h.2.2.2 _ (by rw [HFs.out]; exact hmem)))
            rw [show (decide ((0 : Int) ≤ fs[j]) && decide (fs[j] ≤ 1)) = false by rw [← Bool.decide_and, decide_eq_false (by omega)]] at HWi
            generalize fs[j] = f at *
            have HFc := Lib.hid hfp.out.cel
            have HBw := Lib.hid hbw
            clear hc7 hall hfp hbw hmem hf
            go_wp2_with fail
            refine (HWi.out _).mono ?_
            rintro e w8 ⟨rfl, rfl⟩
            have zq := fun i => HFc.out.free (i := i)
            have y0 := HFc.out.cell (i := 0) rfl
            have y1 := HFc.out.cell (i := 1) rfl
            have y2 := HFc.out.cell (i := 2) rfl
            have y3 := HFc.out.cell (i := 3) rfl
            have y4 := HFc.out.cell (i := 4) rfl
            have y5 := HFc.out.cell (i := 5) rfl
            have y6 := HFc.out.cell (i := 6) rfl
            have y7 := HFc.out.cell (i := 7) rfl
            have y8 := HFc.out.cell (i := 8) rfl
            go_wp2_with fail
            have HF := Lib.hid (set9_cel (v0 := .int .i64 0) (v1 := .int .i64 0) (v2 := .int .i64 0) (v3 := .int .i64 0) (v4 := .int .i64 0) (v5 := .int .i64 0) (v6 := .string ⟨#[]⟩) (v7 := .slice none 0 0) (v8 := .slice none 0 0) HFc.out)
            have z0 := HF.out.cell (i := 0) rfl
            have z1 := HF.out.cell (i := 1) rfl
            have z2 := HF.out.cell (i := 2) rfl
            have z3 := HF.out.cell (i := 3) rfl
            have z4 := HF.out.cell (i := 4) rfl
            have z5 := HF.out.cell (i := 5) rfl
            have z6 := HF.out.cell (i := 6) rfl
            have z7 := HF.out.cell (i := 7) rfl
            have z8 := HF.out.cell (i := 8) rfl
            unfold set9 at z0 z1 z2 z3 z4 z5 z6 z7 z8
            exact bodyPost_ret (v := .tuple #[letV noLet none none 0 0, .bool false]) (by simp [results, Try.results41, go_sem, letV, noLet, z0, z1, z2, z3, z4, z5, z6, z7, z8]) rfl (HMk.out _ _ HN.out (set9_below HBw.out (Nat.le_succ _)) rfl)
          have hp := pairL_at fs us (by rw [HL8.out, HL7.out]) j l0 (by rw [HPl.out, HL7.out]; exact hlt) l1 l2
          have HAl := Lib.hid (mem_take_succ l0 hall.out hf)
          rw [show (decide ((0 : Int) ≤ fs[j]) && decide (fs[j] ≤ 1)) = true by rw [← Bool.decide_and, decide_eq_true (by omega)]] at HWi
          obtain ⟨k, hk⟩ : ∃ k, k = us[2 * j] := ⟨_, rfl⟩
          obtain ⟨s, hs⟩ : ∃ s, s = us[2 * j + 1] := ⟨_, rfl⟩
          obtain ⟨f, hf'⟩ : ∃ f, f = fs[j] := ⟨_, rfl⟩
          obtain ⟨dd, hdd⟩ : ∃ dd, (f == 1) = dd := ⟨_, rfl⟩
          rw [← hk, ← hs, ← hf', hdd] at hp
          rw [← hf'] at x7 HWi
          have htk : wrV ((pairL fs us).take (j + 1)) = wrV ((pairL fs us).take j) ++ [.string k, .string s, .bool dd] := by
            rw [List.take_add_one, List.getElem?_eq_getElem (by rw [HPl.out, HL7.out]; exact hlt), hp]
            exact wrV_snoc _ _
          have hC : ∀ W, Below w.heap.size w W → W.cell? (k8.add (2 * j)) = some (.string k) ∧ W.cell? (k8.add (2 * j + 1)) = some (.string s) := fun W hW => by
            obtain ⟨bd', e2, _, hcb⟩ := (HS8.out W hW) (by omega)
            obtain rfl := Option.some.inj e2
            rw [hk, hs]
            exact ⟨hcb _ l1, hcb _ l2⟩
          have HC := Lib.hid hC
          have HTk := Lib.hid htk
          have p1 : (2 * (j : Int)) < 2 * (nf : Int) := by omega
          have p2 : (2 * (j : Int)) + 1 < 2 * (nf : Int) := by omega
          have w2 : IntKind.i64.wrap (2 * (j : Int)) = 2 * (j : Int) := i64_wrap (by omega) (by omega)
          have w3 : IntKind.i64.wrap (2 * (j : Int) + 1) = 2 * (j : Int) + 1 := i64_wrap (by omega) (by omega)
          obtain ⟨q0, hq0⟩ : ∃ q, q = 2 * j := ⟨_, rfl⟩
          obtain ⟨q1, hq1⟩ : ∃ q, q = 2 * j + 1 := ⟨_, rfl⟩
          have t2 : (2 * (j : Int)).toNat = q0 := by omega
          have t3 : (2 * (j : Int) + 1).toNat = q1 := by omega
          rw [← hq1, ← hq0] at HC
          clear hC hp htk hk hs hf' hf hq0 hq1 hc7 hall hmem hbw l0 l1 l2
          go_upto_region 13 with fail
          go_wp2_with fail
          refine (HWi.out _).mono ?_
          rintro e w8 ⟨rfl, rfl⟩
          go_upto_region 15 with fail
          refine wp_region_said 17 [82, 83, 84, 85, 86, 87, 88, 89, 90, 91, 92, 93, 94, 95, 96, 97, 98]
            [.is (.pointer (some ⟨w.heap.size + 1, 8, none⟩)), .is v, .is (.slice (some k8) (2 * nf) (d - m1)), .is (.int .i64 (j : Int)), .is (.int .i64 (2 * (j : Int))), .is (.pointer (some (k8.add q0))), .is (.string k), .is (.slice (some k8) (2 * nf) (d - m1)), .is (.int .i64 (j : Int)), .is (.int .i64 (2 * (j : Int))), .is (.int .i64 (2 * (j : Int) + 1)), .is (.pointer (some (k8.add q1))), .is (.string s), .is (.int .i64 f), .is (.bool dd), .is (.agg #[.string k, .string s, .bool dd]), .arr 82 #[.string k, .string s, .bool dd] 1 1]
            (fun W => FpEnv W5 W X (w.heap.size + 1) j A1 c1 v L ((pairL fs us).take j)) (by kernel_rfl) (by kernel_rfl) (by kernel_rfl) (by kernel_rfl) (by kernel_rfl) (fun W W' h hb => h.step hb) hfp.out ?steps15 ?last15
          case steps15 =>
            simp only [List.take_succ_cons, List.take_zero]
            refine ⟨?_, ?_, ?_, ?_, ?_, ?_, ?_, ?_, ?_, ?_, ?_, ?_, ?_, ?_, ?_, ?_, ?_, trivial⟩
            all_goals
              intro vs W ρ hρ hc hf hg hI hH hd R' hR
              obtain ⟨z0, z1⟩ := HC.out W (H5s.out W hI.bel)
              have z8 := hI.cel.cell (i := 8) rfl
              have HR := Lib.hid hR
              simp [depsOf, Region.binds, sayAt, Say.holds] at hd
              clear hR hI
              go_simp
              first
                | exact HR.out _ _ (by simp [sayAt, Say.holds]) (Below.refl _ _) (by simp [sayAt, Say.isBlk])
                | exact HR.out _ _ ⟨_, hH, by simp, rfl, heap_alloc_new _ _⟩ ((Below.refl _ _).alloc (Nat.le_refl _) _) (fun h => by cases h)
                | trace_state
          case last15 =>
            intro vs W hI hb hg hd
            have g1 := hg 1 (by omega)
            obtain ⟨o, ho1, ho2, g16, ho⟩ := hg 16 (by omega)
            simp only [sayAt, Say.holds, List.getD_cons_succ, List.getD_cons_zero] at g1
            simp only [List.take_succ_cons, List.take_zero, List.drop_succ_cons, List.drop_zero, putAll, Act.put, List.setIfInBounds_toArray, List.set_cons_succ, List.set_cons_zero, Nat.zero_add, Nat.reduceAdd]
            rw [g1, g16]
            have HI := Lib.hid hI
            have hXW : X ≤ W.heap.size := by have := HF5s.out; exact Nat.le_trans this hI.bel.size
            clear g1 g16 hg hd hI hfp
            refine wpList_append_own_at _ rfl _ _ 33 rfl X 82 i1 (.agg #[.string ⟨#[]⟩, .string ⟨#[]⟩, .bool false]) 3 40 Try.underlying33 hi1 hz01 hz11 hz21 rfl (by decide) _ _ _ rfl HI.out.r1 ⟨o, 0, none⟩ 1 1 [.string k, .string s, .bool dd] rfl rfl ?d1 ?d2 ?d3 ?d4 hXW ?_
            case d1 => exact new_row ho
            case d2 => intro q hq; simp at hq; rcases hq with rfl | rfl | rfl <;> rfl
            case d3 => unfold maxLen; omega
            case d4 => omega
            intro v' w9 hown' hgrow _ hat
            rw [← HTk.out] at hown'
            obtain ⟨gw, cw, rfl, _, _⟩ := World.ownsRow.form hown' (by omega)
            obtain ⟨hce, hfp2⟩ := FpEnv.grow HI.out hown' hgrow hat
            have hf1 := hce.cell (i := 8) rfl
            have hf2 := hce.free (i := 8)
            have HFp2 := Lib.hid hfp2
            clear hown' hgrow hat HI ho ho1 ho2 hb hce hfp2
            go_upto_region 16 with fail
            clear hf1 hf2
            obtain ⟨vb, hvb⟩ : ∃ u, u = Value.slice (some ⟨gw, 0, none⟩) (j + 1) cw := ⟨_, rfl⟩
            rw [← hvb] at HFp2 ⊢
            generalize w9.setCell ⟨w.heap.size + 1, 8, none⟩ vb = W9 at HFp2 ⊢
            clear hvb
            go_wp2_with fail
            go_roundw
            case rel => exact ⟨j + 1, vb, by omega, by go_num, HAl.out, HFp2.out⟩
            case measure => simp [intOf]; omega
        · obtain rfl : j = nf := by omega
          have hall2 := hall.out
          rw [List.take_of_length_le (by rw [HL7.out]; exact Nat.le_refl _)] at hall2
          have hfe := hfp.out
          rw [List.take_of_length_le (by rw [HPl.out, HL7.out]; exact Nat.le_refl _), ← HWs.out] at hfe
          have hlw : j = L.ws.length := by rw [HWs.out, HPl.out, HL7.out]
          have HSh := Lib.hid (show Shape ns ts from ⟨by omega, by rw [← HM6.out]; omega, by rw [← HM6.out, ← HNf.out]; exact HCnt.out, by rw [HFs.out]; exact hall2⟩)
          have HLw := Lib.hid hlw
          clear hall hfp hall2 hlw
          rw [HLw.out] at hfe
          obtain ⟨B1, d1, rfl, -⟩ := wrs_own hfe.r1 rfl
          have hfar := hfe.far
          have hA1 : ∀ a, A1 = some a → w.heap.size ≤ a.block := fun a e => by have := (hfe.r0.lt a.block (by rw [e]; rfl)).1; omega
          have hB1 : ∀ a, B1 = some a → w.heap.size ≤ a.block := fun a e => by have := (hfe.r1.lt a.block (by rw [e]; rfl)).1; omega
          have HAB := Lib.hid (And.intro hA1 hB1)
          clear hA1 hB1
          have HFc := Lib.hid hfe.cel
          have HBw := Lib.hid (H5s.out _ hfe.bel)
          have HR0 := Lib.hid (set9_own (v0 := .int .i64 L.kind) (v1 := .int .i64 L.src) (v2 := .int .i64 L.dst) (v3 := .int .i64 L.txn) (v4 := .int .i64 L.ts) (v5 := .int .i64 L.code) (v6 := .string L.text) (v7 := .slice A1 L.keys.length c1) (v8 := .slice B1 L.ws.length d1) hfe.r0 hfar.2)
          have HR1' := Lib.hid (set9_own (v0 := .int .i64 L.kind) (v1 := .int .i64 L.src) (v2 := .int .i64 L.dst) (v3 := .int .i64 L.txn) (v4 := .int .i64 L.ts) (v5 := .int .i64 L.code) (v6 := .string L.text) (v7 := .slice A1 L.keys.length c1) (v8 := .slice B1 L.ws.length d1) hfe.r1 hfar.1)
          clear hfe hfar
          have zq := fun i => HFc.out.free (i := i)
          have y0 := HFc.out.cell (i := 0) rfl
          have y1 := HFc.out.cell (i := 1) rfl
          have y2 := HFc.out.cell (i := 2) rfl
          have y3 := HFc.out.cell (i := 3) rfl
          have y4 := HFc.out.cell (i := 4) rfl
          have y5 := HFc.out.cell (i := 5) rfl
          have y6 := HFc.out.cell (i := 6) rfl
          have y7 := HFc.out.cell (i := 7) rfl
          have y8 := HFc.out.cell (i := 8) rfl
          go_wp2_with fail
          have HF := Lib.hid (set9_cel (v0 := .int .i64 L.kind) (v1 := .int .i64 L.src) (v2 := .int .i64 L.dst) (v3 := .int .i64 L.txn) (v4 := .int .i64 L.ts) (v5 := .int .i64 L.code) (v6 := .string L.text) (v7 := .slice A1 L.keys.length c1) (v8 := .slice B1 L.ws.length d1) HFc.out)
          have z0 := HF.out.cell (i := 0) rfl
          have z1 := HF.out.cell (i := 1) rfl
          have z2 := HF.out.cell (i := 2) rfl
          have z3 := HF.out.cell (i := 3) rfl
          have z4 := HF.out.cell (i := 4) rfl
          have z5 := HF.out.cell (i := 5) rfl
          have z6 := HF.out.cell (i := 6) rfl
          have z7 := HF.out.cell (i := 7) rfl
          have z8 := HF.out.cell (i := 8) rfl
          unfold set9 at z0 z1 z2 z3 z4 z5 z6 z7 z8
          have hk := own_strs HR0.out
          have hw := own_wrs HR1'.out
          have hrg := HRg.out
          rw [← HLd.out] at hrg
          refine bodyPost_ret (v := .tuple #[letV L A1 B1 c1 d1, .bool true]) (by simp [results, Try.results41, go_sem, letV, z0, z1, z2, z3, z4, z5, z6, z7, z8]) rfl (.inl ⟨HSh.out, A1, B1, c1, d1, by rw [HLd.out], ?_, set9_below HBw.out (Nat.le_succ _), HAB.out.1, HAB.out.2⟩)
          rw [← HLd.out]
          exact ⟨hk.1, hw.1, ⟨hrg, hk.2.1, hw.2.1, hk.2.2.1, hw.2.2.1⟩, hk.2.2.2, hw.2.2.2⟩

end Lt
end Go.Proofs.Ytkpcfakfkcghdaa

/- What the landed package's Decode answers: all that is asked; no condition but the range. -/
namespace Go.Proofs.Ytkpcfakfkcghdaa
namespace Lt
open Go.RowKit Bk

attribute [local go_sem ↓] Go.wp_at_zero Go.wp_at_succ
attribute [local go_sem] floatUpon pick

theorem no_val (w : World) : LetVal w none none 0 0 noLet := by
  refine ⟨nil_strs _ _, nil_wrs _ _, ⟨⟨?_, ?_, ?_, ?_, ?_, ?_, Nat.zero_le _, Nat.zero_le _, Nat.zero_le _, fun s h => absurd h (by simp [noLet]), fun x h => absurd h (by simp [noLet])⟩, Nat.le_refl _, Nat.le_refl _, Nat.zero_le _, Nat.zero_le _⟩, fun _ => ⟨rfl, rfl⟩, fun _ => ⟨rfl, rfl⟩⟩ <;> (show (-9223372036854775808 : Int) ≤ 0 ∧ (0 : Int) ≤ 9223372036854775807; omega)

/-- what a Decode answers -/
def DecPost (s : ByteArray) (w : World) : Ending → World → Prop := fun e w' => ∃ (A B : Option Addr) (c d : Nat),
    e = .returned (.tuple #[letV (decX s).1 A B c d, .int .i64 ((decX s).2 : Int)]) ∧ LetVal w' A B c d (decX s).1 ∧ Below w.heap.size w w'

set_option maxRecDepth 20000 in
set_option maxHeartbeats 8000000 in
theorem ldecode_any (s : ByteArray) (w : World) (hs : s.size ≤ 1000000000000000) : Calls Try.prog 21 #[.string s] w (DecPost s w) := by
  have HD := Lib.hid (fun W => Pk.decodeAll s W hs)
  unfold Pk.DecAns2 at HD
  have HMk : Hid (∀ (v : Value) (w' : World), NoLet s → Below w.heap.size w w' → v = letV noLet none none 0 0 → DecPost s w (.returned (.tuple #[v, .int .i64 70])) w') := Lib.hid (fun v w' h1 h2 h3 => by
    unfold DecPost
    rw [decX_no h1]
    exact ⟨none, none, 0, 0, by rw [h3]; rfl, no_val _, h2⟩)
  have HMo : Hid (∀ (l : Let) (A B : Option Addr) (c d : Nat) (w' : World), LetOk l → s.data.toList = letL l → Below w.heap.size w w' → LetVal w' A B c d l → DecPost s w (.returned (.tuple #[letV l A B c d, .int .i64 0])) w') := Lib.hid (fun l A B c d w' h1 h2 h3 h4 => by
    unfold DecPost
    rw [decX_ok h1 h2]
    exact ⟨A, B, c, d, rfl, h4, h3⟩)
  go_enter Try.func21, Try.ntmps21
  go_upto_region 1 with fail
  have hR0 := zero_cells w
  have hBW : Below w.heap.size w (w.alloc (.cells #[.int .i64 0, .int .i64 0, .int .i64 0, .int .i64 0, .int .i64 0, .int .i64 0, .string ⟨#[]⟩, .slice none 0 0, .slice none 0 0] 35)) := (Below.refl _ w).alloc (Nat.le_refl _) _
  generalize w.alloc (.cells #[.int .i64 0, .int .i64 0, .int .i64 0, .int .i64 0, .int .i64 0, .int .i64 0, .string ⟨#[]⟩, .slice none 0 0, .slice none 0 0] 35) = W1 at hR0 hBW ⊢
  have HR0 := Lib.hid hR0
  have HBW := Lib.hid hBW
  clear hR0 hBW
  cases hdec : Pk.decL s.data.toList with
  | error er =>
    have hd1 : Pk.decR s = ([], [], er.place s.size, er.code) := by unfold Pk.decR; rw [hdec]
    rw [hd1] at HD
    have hne := Pk.decL_code hdec
    have HN := Lib.hid (NoLet.err hdec)
    have pne : ((er.code : Int) != 0) = true := by simp; exact hne
    simp only [Pk.packV] at HD
    generalize er.place s.size = pl at HD
    generalize er.code = cd at HD pne
    clear hdec hd1 hne
    go_wp2_with fail
    refine (HD.out _).mono ?_
    rintro e w2 ⟨A, B, c, d, rfl, -, -, hb, -, -, -, -⟩
    have hal : Below w2.heap.size w2 (w2.alloc (.cells #[.slice A 0 c, .slice B 0 d] 71)) := (Below.refl _ w2).alloc (Nat.le_refl _) _
    have HR3 := Lib.hid ((HR0.out.below hb).below hal)
    have HB3 := Lib.hid ((HBW.out.trans (hb.mono HBW.out.size)).trans (hal.mono (HBW.out.trans (hb.mono HBW.out.size)).size))
    clear hb hal HD HR0 HBW
    go_upto_region 2 with fail
    generalize w2.alloc (.cells #[.slice A 0 c, .slice B 0 d] 71) = w3 at HR3 HB3 ⊢
    have zq := fun i => HR3.out.free (i := i)
    have y0 := HR3.out.cell (i := 0) rfl
    have y1 := HR3.out.cell (i := 1) rfl
    have y2 := HR3.out.cell (i := 2) rfl
    have y3 := HR3.out.cell (i := 3) rfl
    have y4 := HR3.out.cell (i := 4) rfl
    have y5 := HR3.out.cell (i := 5) rfl
    have y6 := HR3.out.cell (i := 6) rfl
    have y7 := HR3.out.cell (i := 7) rfl
    have y8 := HR3.out.cell (i := 8) rfl
    go_wp2_with fail
    have HF := Lib.hid (set9_cel (v0 := .int .i64 0) (v1 := .int .i64 0) (v2 := .int .i64 0) (v3 := .int .i64 0) (v4 := .int .i64 0) (v5 := .int .i64 0) (v6 := .string ⟨#[]⟩) (v7 := .slice none 0 0) (v8 := .slice none 0 0) HR3.out)
    have z0 := HF.out.cell (i := 0) rfl
    have z1 := HF.out.cell (i := 1) rfl
    have z2 := HF.out.cell (i := 2) rfl
    have z3 := HF.out.cell (i := 3) rfl
    have z4 := HF.out.cell (i := 4) rfl
    have z5 := HF.out.cell (i := 5) rfl
    have z6 := HF.out.cell (i := 6) rfl
    have z7 := HF.out.cell (i := 7) rfl
    have z8 := HF.out.cell (i := 8) rfl
    unfold set9 at z0 z1 z2 z3 z4 z5 z6 z7 z8
    exact bodyPost_ret (v := .tuple #[letV noLet none none 0 0, .int .i64 70]) (by simp [results, Try.results21, go_sem, letV, noLet, z0, z1, z2, z3, z4, z5, z6, z7, z8]) rfl (HMk.out _ _ HN.out (set9_below HB3.out (Nat.le_refl _)) rfl)
  | ok x =>
    obtain ⟨ns, ts⟩ := x
    have hd1 : Pk.decR s = (ns, ts, 0, 0) := by unfold Pk.decR; rw [hdec]
    rw [hd1] at HD
    have HMb := Lib.hid (Pk.decL_ok hdec).1
    have HDec := Lib.hid hdec
    simp only [Pk.packV] at HD
    clear hdec hd1
    go_wp2_with fail
    refine (HD.out _).mono ?_
    rintro e w2 ⟨A, B, c, d, rfl, hI2, hS2, hb, g1, g2, g3, g4⟩
    have hal : Below w2.heap.size w2 (w2.alloc (.cells #[.slice A ns.length c, .slice B ts.length d] 71)) := (Below.refl _ w2).alloc (Nat.le_refl _) _
    have HP3 : Hid (Cel (w2.alloc (.cells #[.slice A ns.length c, .slice B ts.length d] 71)) w2.heap.size 71 [.slice A ns.length c, .slice B ts.length d]) := Lib.hid (blk1 w2 _).2
    have HR3 := Lib.hid ((HR0.out.below hb).below hal)
    have HB3 := Lib.hid ((HBW.out.trans (hb.mono HBW.out.size)).trans (hal.mono (HBW.out.trans (hb.mono HBW.out.size)).size))
    have hFp := fromPack_any A B c d ns ts _ (hI2.below hal) (hS2.below hal) HMb.out g1 g2 g3 g4
    unfold Pk.packV at hFp
    have HFp := Lib.hid hFp
    clear hb hal HD HR0 HBW hI2 hS2 g1 g2 g3 g4 hFp
    go_upto_region 2 with fail
    generalize w2.alloc (.cells #[.slice A ns.length c, .slice B ts.length d] 71) = w3 at HR3 HB3 HFp HP3 ⊢
    generalize w2.heap.size = g at HP3 ⊢
    have k0 := HP3.out.cell (i := 0) rfl
    have k1 := HP3.out.cell (i := 1) rfl
    clear HP3
    by_cases hsh : Shape ns ts
    case neg =>
      have HN := Lib.hid (NoLet.shape HDec.out hsh)
      have HFn := Lib.hid (HFp.out.mono (fun e W' hA => show e = .returned (.tuple #[letV noLet none none 0 0, .bool false]) ∧ Below w3.heap.size w3 W' from by
        rcases hA with ⟨h1, _⟩ | ⟨_, h2, h3⟩
        · exact absurd h1 hsh
        · exact ⟨h2, h3⟩))
      unfold letV noLet at HFn
      simp only [List.length_nil] at HFn
      clear hsh HFp
      go_wp2_with fail
      refine HFn.out.mono ?_
      rintro e w4 ⟨rfl, hb⟩
      have hal : Below w4.heap.size w4 (w4.alloc (.cells #[.int .i64 0, .int .i64 0, .int .i64 0, .int .i64 0, .int .i64 0, .int .i64 0, .string ⟨#[]⟩, .slice none 0 0, .slice none 0 0] 35)) := (Below.refl _ w4).alloc (Nat.le_refl _) _
      have HR5 := Lib.hid ((HR3.out.below hb).below hal)
      have HB5 := Lib.hid ((HB3.out.trans (hb.mono HB3.out.size)).trans (hal.mono (HB3.out.trans (hb.mono HB3.out.size)).size))
      clear hb hal HR3 HB3 k0 k1 HFn
      go_upto_region 5 with fail
      generalize w4.alloc (.cells #[.int .i64 0, .int .i64 0, .int .i64 0, .int .i64 0, .int .i64 0, .int .i64 0, .string ⟨#[]⟩, .slice none 0 0, .slice none 0 0] 35) = w5 at HR5 HB5 ⊢
      have zq := fun i => HR5.out.free (i := i)
      have y0 := HR5.out.cell (i := 0) rfl
      have y1 := HR5.out.cell (i := 1) rfl
      have y2 := HR5.out.cell (i := 2) rfl
      have y3 := HR5.out.cell (i := 3) rfl
      have y4 := HR5.out.cell (i := 4) rfl
      have y5 := HR5.out.cell (i := 5) rfl
      have y6 := HR5.out.cell (i := 6) rfl
      have y7 := HR5.out.cell (i := 7) rfl
      have y8 := HR5.out.cell (i := 8) rfl
      go_wp2_with fail
      have HF := Lib.hid (set9_cel (v0 := .int .i64 0) (v1 := .int .i64 0) (v2 := .int .i64 0) (v3 := .int .i64 0) (v4 := .int .i64 0) (v5 := .int .i64 0) (v6 := .string ⟨#[]⟩) (v7 := .slice none 0 0) (v8 := .slice none 0 0) HR5.out)
      have z0 := HF.out.cell (i := 0) rfl
      have z1 := HF.out.cell (i := 1) rfl
      have z2 := HF.out.cell (i := 2) rfl
      have z3 := HF.out.cell (i := 3) rfl
      have z4 := HF.out.cell (i := 4) rfl
      have z5 := HF.out.cell (i := 5) rfl
      have z6 := HF.out.cell (i := 6) rfl
      have z7 := HF.out.cell (i := 7) rfl
      have z8 := HF.out.cell (i := 8) rfl
      unfold set9 at z0 z1 z2 z3 z4 z5 z6 z7 z8
      exact bodyPost_ret (v := .tuple #[letV noLet none none 0 0, .int .i64 70]) (by simp [results, Try.results21, go_sem, letV, noLet, z0, z1, z2, z3, z4, z5, z6, z7, z8]) rfl (HMk.out _ _ HN.out (set9_below HB5.out (Nat.le_refl _)) rfl)
    have HFy := Lib.hid (HFp.out.mono (fun e W' hA => show ∃ (A1 B1 : Option Addr) (c1 d1 : Nat), e = .returned (.tuple #[letV (cand ns ts) A1 B1 c1 d1, .bool true]) ∧ LetVal W' A1 B1 c1 d1 (cand ns ts) ∧ Below w3.heap.size w3 W' ∧ (∀ a, A1 = some a → w3.heap.size ≤ a.block) ∧ (∀ a, B1 = some a → w3.heap.size ≤ a.block) from by
      rcases hA with ⟨_, A1, B1, c1, d1, h2, h3, h4⟩ | ⟨h1, _⟩
      · exact ⟨A1, B1, c1, d1, h2, h3, h4⟩
      · exact absurd hsh h1))
    have HCb := Lib.hid (cand_bytes HDec.out hsh)
    have HNb := Lib.hid (fun hm => NoLet.bad (s := s) HDec.out hm)
    generalize cand ns ts = L at HFy HCb HNb
    unfold letV at HFy
    clear hsh HFp
    go_wp2_with fail
    refine HFy.out.mono ?_
    rintro e w4 ⟨A1, B1, c1, d1, rfl, hval, hb, hA1, hB1⟩
    have hlt3 : w.heap.size < w3.heap.size := HR3.out.lt
    have hal : Below w4.heap.size w4 (w4.alloc (.cells #[.int .i64 L.kind, .int .i64 L.src, .int .i64 L.dst, .int .i64 L.txn, .int .i64 L.ts, .int .i64 L.code, .string L.text, .slice A1 L.keys.length c1, .slice B1 L.ws.length d1] 35)) := (Below.refl _ w4).alloc (Nat.le_refl _) _
    have HC5 : Hid (Cel (w4.alloc (.cells #[.int .i64 L.kind, .int .i64 L.src, .int .i64 L.dst, .int .i64 L.txn, .int .i64 L.ts, .int .i64 L.code, .string L.text, .slice A1 L.keys.length c1, .slice B1 L.ws.length d1] 35)) w4.heap.size 35 [.int .i64 L.kind, .int .i64 L.src, .int .i64 L.dst, .int .i64 L.txn, .int .i64 L.ts, .int .i64 L.code, .string L.text, .slice A1 L.keys.length c1, .slice B1 L.ws.length d1]) := Lib.hid (blk1 w4 _).2
    have HR5 := Lib.hid ((HR3.out.below hb).below hal)
    have HB5 := Lib.hid ((HB3.out.trans (hb.mono HB3.out.size)).trans (hal.mono (HB3.out.trans (hb.mono HB3.out.size)).size))
    have HV5 := Lib.hid (hval.below hal)
    have HAn : Hid (∀ a, A1 = some a → a.block ≠ w.heap.size) := Lib.hid (fun a e => by have := hA1 a e; omega)
    have HBn : Hid (∀ a, B1 = some a → a.block ≠ w.heap.size) := Lib.hid (fun a e => by have := hB1 a e; omega)
    clear hb hal HR3 HB3 k0 k1 HFy hval hA1 hB1 hlt3
    go_upto_region 5 with fail
    generalize w4.alloc (.cells #[.int .i64 L.kind, .int .i64 L.src, .int .i64 L.dst, .int .i64 L.txn, .int .i64 L.ts, .int .i64 L.code, .string L.text, .slice A1 L.keys.length c1, .slice B1 L.ws.length d1] 35) = w5 at HR5 HB5 HV5 HC5 ⊢
    generalize w4.heap.size = g2 at HC5 ⊢
    have hMy := mayBe_any A1 B1 c1 d1 L w5 HV5.out.ks HV5.out.ws HV5.out.rng.toLetRng
    unfold letV at hMy
    have HMy := Lib.hid hMy
    clear hMy
    have k0 := HC5.out.cell (i := 0) rfl
    have k1 := HC5.out.cell (i := 1) rfl
    have k2 := HC5.out.cell (i := 2) rfl
    have k3 := HC5.out.cell (i := 3) rfl
    have k4 := HC5.out.cell (i := 4) rfl
    have k5 := HC5.out.cell (i := 5) rfl
    have k6 := HC5.out.cell (i := 6) rfl
    have k7 := HC5.out.cell (i := 7) rfl
    have k8 := HC5.out.cell (i := 8) rfl
    by_cases hm : LetOk L
    · rw [okB_true hm] at HMy
      have HOk := Lib.hid hm
      clear hm
      go_wp2_with fail
      refine HMy.out.mono ?_
      rintro e w6 ⟨rfl, hb⟩
      have HC6 := Lib.hid (HC5.out.below hb)
      have HR6 := Lib.hid (HR5.out.below hb)
      have HV6 := Lib.hid (HV5.out.below hb)
      have HB6 := Lib.hid (HB5.out.trans (hb.mono HB5.out.size))
      clear hb k0 k1 k2 k3 k4 k5 k6 k7 k8 HC5 HR5 HV5 HB5 HMy
      have k0 := HC6.out.cell (i := 0) rfl
      have k1 := HC6.out.cell (i := 1) rfl
      have k2 := HC6.out.cell (i := 2) rfl
      have k3 := HC6.out.cell (i := 3) rfl
      have k4 := HC6.out.cell (i := 4) rfl
      have k5 := HC6.out.cell (i := 5) rfl
      have k6 := HC6.out.cell (i := 6) rfl
      have k7 := HC6.out.cell (i := 7) rfl
      have k8 := HC6.out.cell (i := 8) rfl
      have zq := fun i => HR6.out.free (i := i)
      have y0 := HR6.out.cell (i := 0) rfl
      have y1 := HR6.out.cell (i := 1) rfl
      have y2 := HR6.out.cell (i := 2) rfl
      have y3 := HR6.out.cell (i := 3) rfl
      have y4 := HR6.out.cell (i := 4) rfl
      have y5 := HR6.out.cell (i := 5) rfl
      have y6 := HR6.out.cell (i := 6) rfl
      have y7 := HR6.out.cell (i := 7) rfl
      have y8 := HR6.out.cell (i := 8) rfl
      go_wp2_with fail
      have HF := Lib.hid (set9_cel (v0 := .int .i64 L.kind) (v1 := .int .i64 L.src) (v2 := .int .i64 L.dst) (v3 := .int .i64 L.txn) (v4 := .int .i64 L.ts) (v5 := .int .i64 L.code) (v6 := .string L.text) (v7 := .slice A1 L.keys.length c1) (v8 := .slice B1 L.ws.length d1) HR6.out)
      have z0 := HF.out.cell (i := 0) rfl
      have z1 := HF.out.cell (i := 1) rfl
      have z2 := HF.out.cell (i := 2) rfl
      have z3 := HF.out.cell (i := 3) rfl
      have z4 := HF.out.cell (i := 4) rfl
      have z5 := HF.out.cell (i := 5) rfl
      have z6 := HF.out.cell (i := 6) rfl
      have z7 := HF.out.cell (i := 7) rfl
      have z8 := HF.out.cell (i := 8) rfl
      unfold set9 at z0 z1 z2 z3 z4 z5 z6 z7 z8
      refine bodyPost_ret (v := .tuple #[letV L A1 B1 c1 d1, .int .i64 0]) (by simp [results, Try.results21, go_sem, letV, z0, z1, z2, z3, z4, z5, z6, z7, z8]) rfl (HMo.out L A1 B1 c1 d1 _ HOk.out HCb.out (set9_below HB6.out (Nat.le_refl _)) ?_)
      exact ⟨strs_far HV6.out.ks (R := w.heap.size) HAn.out (Nat.le_of_eq set9_size.symm) (fun a ha => set9_other ha), wrs_far HV6.out.ws (R := w.heap.size) HBn.out (Nat.le_of_eq set9_size.symm) (fun a ha => set9_other ha), HV6.out.rng, HV6.out.kn, HV6.out.wn⟩
    · rw [okB_false hm] at HMy
      have HN := Lib.hid (HNb.out hm)
      clear hm
      go_wp2_with fail
      refine HMy.out.mono ?_
      rintro e w6 ⟨rfl, hb⟩
      have HR6 := Lib.hid (HR5.out.below hb)
      have HB6 := Lib.hid (HB5.out.trans (hb.mono HB5.out.size))
      clear hb k0 k1 k2 k3 k4 k5 k6 k7 k8 HC5 HR5 HV5 HB5 HMy
      have zq := fun i => HR6.out.free (i := i)
      have y0 := HR6.out.cell (i := 0) rfl
      have y1 := HR6.out.cell (i := 1) rfl
      have y2 := HR6.out.cell (i := 2) rfl
      have y3 := HR6.out.cell (i := 3) rfl
      have y4 := HR6.out.cell (i := 4) rfl
      have y5 := HR6.out.cell (i := 5) rfl
      have y6 := HR6.out.cell (i := 6) rfl
      have y7 := HR6.out.cell (i := 7) rfl
      have y8 := HR6.out.cell (i := 8) rfl
      go_wp2_with fail
      have HF := Lib.hid (set9_cel (v0 := .int .i64 0) (v1 := .int .i64 0) (v2 := .int .i64 0) (v3 := .int .i64 0) (v4 := .int .i64 0) (v5 := .int .i64 0) (v6 := .string ⟨#[]⟩) (v7 := .slice none 0 0) (v8 := .slice none 0 0) HR6.out)
      have z0 := HF.out.cell (i := 0) rfl
      have z1 := HF.out.cell (i := 1) rfl
      have z2 := HF.out.cell (i := 2) rfl
      have z3 := HF.out.cell (i := 3) rfl
      have z4 := HF.out.cell (i := 4) rfl
      have z5 := HF.out.cell (i := 5) rfl
      have z6 := HF.out.cell (i := 6) rfl
      have z7 := HF.out.cell (i := 7) rfl
      have z8 := HF.out.cell (i := 8) rfl
      unfold set9 at z0 z1 z2 z3 z4 z5 z6 z7 z8
      exact bodyPost_ret (v := .tuple #[letV noLet none none 0 0, .int .i64 70]) (by simp [results, Try.results21, go_sem, letV, noLet, z0, z1, z2, z3, z4, z5, z6, z7, z8]) rfl (HMk.out _ _ HN.out (set9_below HB6.out (Nat.le_refl _)) rfl)

theorem ldecodeAll : DecodeAll := fun s w hs => ldecode_any s w hs

end Lt
end Go.Proofs.Ytkpcfakfkcghdaa
