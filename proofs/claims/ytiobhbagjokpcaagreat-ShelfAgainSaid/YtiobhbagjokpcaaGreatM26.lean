/- Parts of the proof, joined: ChL3, ChL4; their conditions stand with each. -/
import Derived.Lib.AppendZerosOnto
import Derived.Test.YtiobhbagjokpcaaGreatM25

/- The landed chain: rows joined anew (slices.Concat), versions copied; contracts; no condition but the range. -/
namespace Go.Proofs.YtiobhbagjokpcaaGreat
namespace Ch
open Go.RowKit Bk

attribute [local go_sem ↓] Go.wp_at_zero Go.wp_at_succ
attribute [local go_sem] floatUpon pick

set_option maxRecDepth 20000 in
set_option maxHeartbeats 4000000 in
theorem grow_any (n : Nat) (w : World) (h : n * 32 ≤ 140737488355328) :
    Calls Tryz.prog 143 #[.slice none 0 0, .int .i64 (n : Int)] w fun e w' => ∃ v, e = .returned v ∧ w'.ownsRow w.heap.size 55 3 v 0 [] ∧ Below w.heap.size w w' := by
  obtain ⟨i1, hi', hz0', hz1', hz2'⟩ := info_parts Tryz.infoVer
  have hn1 : (n : Int) ≤ 4398046511104 := by omega
  by_cases h0 : n = 0
  · subst h0
    go_enter Tryz.func143, Tryz.ntmps143
    go_wp2_with fail
    go_ret
    exact ⟨_, rfl, World.ownsRow_nil _ _ _ _, Below.refl _ _⟩
  · have hp : (0 : Int) < (n : Int) := by omega
    have hrz : ∀ ty, (Builtin.append_ #[66, 3] ty #[.slice none 0 0, .int .i64 (n : Int)]).run Tryz.prog w = .ok (.slice (some ⟨w.heap.size, 0, none⟩) n (grownCap w n 0 55)) (w.drew.alloc (.cells (Builtin.zeroCells (Value.agg #[.int .i64 0, .string ⟨#[]⟩, .bool false]).cells n ++ Builtin.zeroCells (Value.agg #[.int .i64 0, .string ⟨#[]⟩, .bool false]).cells (grownCap w n 0 55 - n)) 55)) := fun ty =>
      Lib.run_append_nil_zeros (P := Tryz.prog) w 66 3 ty 55 i1 _ .i64 .i64 Tryz.underlying66 Tryz.underlying3 hi' hz0' n (by omega) (by omega) (by omega) (by rw [hz2']; omega)
    have hGn : n ≤ grownCap w n 0 55 := grownCap_ge w _ _ _
    have hG63 := grownCap_le_maxLen w n 0 55 (by unfold maxLen; omega)
    generalize grownCap w n 0 55 = G at hrz hGn hG63
    have hzs : (Value.agg #[.int .i64 0, .string ⟨#[]⟩, .bool false]).cells.size = 3 := rfl
    obtain ⟨M, hM⟩ : ∃ M, Builtin.zeroCells (Value.agg #[.int .i64 0, .string ⟨#[]⟩, .bool false]).cells n ++ Builtin.zeroCells (Value.agg #[.int .i64 0, .string ⟨#[]⟩, .bool false]).cells (G - n) = M := ⟨_, rfl⟩
    have hMs : M.size = G * 3 := by rw [← hM, Array.size_append, size_zeroCells, size_zeroCells, hzs]; omega
    rw [hM] at hrz
    clear hM hzs
    have HO := Lib.hid (show (w.drew.alloc (.cells M 55)).ownsRow w.heap.size 55 3 (.slice (some ⟨w.heap.size, 0, none⟩) 0 G) 0 [] from ⟨rfl, .inr ⟨w.heap.size, G, M, rfl, Nat.le_refl _, heap_alloc_new w.drew _, Nat.zero_le _, hG63, hMs, by simp⟩⟩)
    have HB := Lib.hid (show Below w.heap.size w (w.drew.alloc (.cells M 55)) from (Below.refl _ w).drew.alloc (by simp) _)
    have hG1 : (G : Int) ≤ 9223372036854775807 := by unfold maxLen at hG63; omega
    have hG0 : (0 : Int) ≤ (G : Int) := by omega
    clear hMs hG63
    go_enter Tryz.func143, Tryz.ntmps143
    go_wp2_with (at_builtin; refine Lib.wpList_append_run _ rfl _ _ _ _ rfl _ _ rfl rfl _ _ (hrz _) ?_)
    all_goals (go_ret; exact ⟨_, rfl, HO.out, HB.out⟩)

/-- the slice v holds these versions, its nil form none -/
def PartOf (W : World) (v : Value) (L : List Vr) : Prop :=
  ∃ (A : Option Addr) (c : Nat), v = .slice A L.length c ∧ VrsAt W A L ∧ (A = none → L.length = 0 ∧ c = 0)

theorem PartOf.below {W W' : World} {v : Value} {L : List Vr} (h : PartOf W v L) (hb : Below W.heap.size W W') : PartOf W' v L := by
  obtain ⟨A, c, e, h1, h2⟩ := h
  exact ⟨A, c, e, h1.below hb, h2⟩

def joinL (ps : List (Value × List Vr)) (j : Nat) : List Vr := (ps.take j).flatMap (·.2)

theorem joinL_succ {ps : List (Value × List Vr)} {j : Nat} (h : j < ps.length) : joinL ps (j + 1) = joinL ps j ++ ps[j].2 := by
  unfold joinL
  rw [List.take_succ_eq_append_getElem h, List.flatMap_append]
  simp

theorem joinL_le (ps : List (Value × List Vr)) : ∀ (i j : Nat), i ≤ j → j ≤ ps.length → (joinL ps i).length ≤ (joinL ps j).length := by
  intro i j hij
  induction hij with
  | refl => intro _; exact Nat.le_refl _
  | step h ih =>
    intro hj
    rw [joinL_succ (by omega), List.length_append]
    have := ih (by omega)
    omega

set_option maxRecDepth 20000 in
set_option maxHeartbeats 4000000 in
theorem concat_any (ad : Addr) (c : Nat) (ps : List (Value × List Vr)) (w : World) (hb : ad.block < w.heap.size) (hcell : ∀ i (h : i < ps.length), w.cell? (ad.add i) = some ps[i].1) (hP : ∀ i (h : i < ps.length), PartOf w ps[i].1 ps[i].2) (hsum : (joinL ps ps.length).length * 32 ≤ 140737488355328) (hps : ps.length ≤ 1024) :
    Calls Tryz.prog 119 #[.slice (some ad) ps.length c] w fun e w' => ∃ v, e = .returned v ∧ w'.ownsRow w.heap.size 55 3 v (joinL ps ps.length).length (vrV (joinL ps ps.length)) ∧ Below w.heap.size w w' := by
  obtain ⟨i1, hi', hz0', hz1', hz2'⟩ := info_parts Tryz.infoVer
  have HCe := Lib.hid (fun i (h : i < ps.length) W (hbl : Below w.heap.size w W) => (cell_kept hbl (ad.add i) (by rw [st_block]; exact hb)).trans (hcell i h))
  have HP := Lib.hid (fun i (h : i < ps.length) W (hbl : Below w.heap.size w W) => (hP i h).below hbl)
  have HLe := Lib.hid (joinL_le ps)
  have HS := Lib.hid hsum
  have hpl : (ps.length : Int) ≤ 1024 := by omega
  clear hb hcell hP hsum hps
  go_enter Tryz.func119, Tryz.ntmps119
  go_wp2_with fail
  go_loopw [3, 11] (fun sv iv wr => ∃ j : Nat, j ≤ ps.length ∧ iv = .int .i64 (j : Int) ∧ sv = .int .i64 ((joinL ps j).length : Int) ∧ Hid (Below w.heap.size w wr)) (fun _ iv _ => ps.length - (intOf iv).toNat)
  case atStart => exact ⟨0, Nat.zero_le _, rfl, rfl, Lib.hid (Below.refl _ _)⟩
  case round =>
    obtain ⟨j, hj, rfl, rfl, hbl⟩ := hrel
    by_cases hlt : j < ps.length
    · have pj : (j : Int) < (ps.length : Int) := by omega
      have hce := HCe.out j hlt _ hbl.out
      obtain ⟨A, cA, hv, -, -⟩ := HP.out j hlt _ hbl.out
      rw [hv] at hce
      have hs := joinL_succ hlt
      have hle := HLe.out (j + 1) ps.length (by omega) (Nat.le_refl _)
      have hS := HS.out
      have hsl : (joinL ps (j + 1)).length = (joinL ps j).length + ps[j].2.length := by rw [hs, List.length_append]
      obtain ⟨s1, hs1⟩ : ∃ s1, (joinL ps (j + 1)).length = s1 := ⟨_, rfl⟩
      rw [hs1] at hsl hle
      have HS1 := Lib.hid hs1
      generalize (joinL ps j).length = s0 at hsl ⊢
      generalize ps[j].2.length = m at hsl hce
      have hsum : (s0 : Int) + (m : Int) = (s1 : Int) := by omega
      have hb1 : (s1 : Int) ≤ 4398046511104 := by omega
      have hn0 : ¬ (s1 : Int) < 0 := by omega
      have hm0 : (m : Int) ≤ 4398046511104 := by omega
      have HSl := Lib.hid hsl
      clear hv hs hle hS hsl hs1
      go_wp2_with fail
      go_roundw
      case rel => exact ⟨j + 1, by omega, by go_num, by rw [HS1.out], hbl⟩
      case measure => simp [intOf]; omega
    · obtain rfl : j = ps.length := by omega
      have HG := Lib.hid (fun W => grow_any (joinL ps ps.length).length W HS.out)
      obtain ⟨S, hS⟩ : ∃ S, (joinL ps ps.length).length = S := ⟨_, rfl⟩
      have HSe := Lib.hid hS
      rw [hS] at HG ⊢
      clear hS
      go_wp2_with fail
      refine (HG.out _).mono ?_
      rintro e2 w2 ⟨v2, rfl, ho2, hb2⟩
      have HO2 := Lib.hid (own_base ho2 hbl.out.size)
      have HB2 := Lib.hid (hbl.out.trans (hb2.mono hbl.out.size))
      clear ho2 hb2 hbl HG
      go_wp2_with fail
      go_loopw [6, 27] (fun vv iv wr => ∃ (j : Nat) (v : Value), j ≤ ps.length ∧ iv = .int .i64 (j : Int) ∧ vv = v ∧ Hid (wr.ownsRow w.heap.size 55 3 v (joinL ps j).length (vrV (joinL ps j))) ∧ Hid (Below w.heap.size w wr)) (fun _ iv _ => ps.length - (intOf iv).toNat)
      case atStart => exact ⟨0, v2, Nat.zero_le _, rfl, rfl, HO2, HB2⟩
      case round =>
        obtain ⟨j, v, hj, rfl, rfl, hown, hbl⟩ := hrel
        clear HO2 HB2
        by_cases hlt : j < ps.length
        · have pj : (j : Int) < (ps.length : Int) := by omega
          have hce := HCe.out j hlt _ hbl.out
          obtain ⟨A, cA, hv, hA, hnil⟩ := HP.out j hlt _ hbl.out
          rw [hv] at hce
          have hs := joinL_succ hlt
          have hle := HLe.out (j + 1) ps.length (by omega) (Nat.le_refl _)
          have hS := HS.out
          have hsl : (joinL ps (j + 1)).length = (joinL ps j).length + ps[j].2.length := by rw [hs, List.length_append]
          have hvr : vrV (joinL ps (j + 1)) = vrV (joinL ps j) ++ vrV ps[j].2 := by rw [hs, vrV_app]
          have Hsl := Lib.hid hsl
          have Hvr := Lib.hid hvr
          have HVl := Lib.hid (vrV_len ps[j].2)
          have HA := Lib.hid hA
          have HNil := Lib.hid hnil
          have HLs := Lib.hid (show ((joinL ps j).length + ps[j].2.length) * 32 ≤ 140737488355328 by omega)
          generalize ps[j].2 = L at hce Hsl Hvr HVl HA HNil HLs
          clear hv hs hle hS hsl hvr hA hnil
          go_wp2_with (at_builtin; refine wpList_append_opt3 rfl _ _ 66 rfl w.heap.size 55 i1 (.agg #[.int .i64 0, .string ⟨#[]⟩, .bool false]) 32 Tryz.underlying66 hi' hz0' hz1' hz2' rfl _ (joinL ps j).length _ rfl hown.out A L.length cA (vrV L) rfl HVl.out HNil.out ?c1 ?c2 ?c3 ?c4 hbl.out.size ?_)
          case c1 => exact fun ad e => by subst e; exact HA.out.news
          case c2 => exact vrV_one _
          case c3 => have := HLs.out; unfold maxLen; omega
          case c4 => exact HLs.out
          intro v' w3 ho hg hat
          have HB3 := Lib.hid (hbl.out.grown hg hbl.out.size (fun k hk => (hown.out.lt k hk).1))
          rw [← Hsl.out, ← Hvr.out] at ho
          have HO3 := Lib.hid ho
          clear ho hg hat hce
          go_wp2_with fail
          go_roundw
          case rel => exact ⟨j + 1, v', by omega, by go_num, rfl, HO3, HB3⟩
          case measure => simp [intOf]; omega
        · obtain rfl : j = ps.length := by omega
          go_wp2_with fail
          go_ret
          exact ⟨_, rfl, hown.out, hbl.out⟩

/-! ### versions copied -/

theorem Cel.put_same {w : World} {g i : Nat} {t : TypeId} {xs : List Value} {v : Value} (h : Cel w g t xs) (hv : xs[i]? = some v) : Cel (w.setCell ⟨g, i, none⟩ v) g t xs := by
  have := h.set (i := i) (v := v)
  rwa [show xs.set i v = xs by
    apply List.ext_getElem?
    intro j
    rw [List.getElem?_set]
    by_cases e : i = j
    · subst e
      rw [if_pos rfl, hv, if_pos (List.getElem?_eq_some_iff.1 hv).1]
    · rw [if_neg e]] at this

set_option maxRecDepth 20000 in
set_option maxHeartbeats 4000000 in
theorem copied_any (x : Vr) (w : World) (hx : x.shard.size ≤ 281474976710656) :
    Calls Tryz.prog 89 #[.agg (vcs x).toArray] w fun e w' => e = .returned (.agg (vcs x).toArray) ∧ Below w.heap.size w w' := by
  obtain ⟨xt, xs, xd⟩ := x
  simp only at hx
  have HCl := Lib.hid (fun W => clone_any xs W hx)
  show Calls _ _ #[.agg #[.int .i64 xt, .string xs, .bool xd]] _ _
  clear hx
  go_enter Tryz.func89, Tryz.ntmps89
  go_upto_region 1 with fail
  have hb1 : Below w.heap.size w (w.alloc (.cells #[.int .i64 xt, .string xs, .bool xd] 55)) := (Below.refl _ w).alloc (Nat.le_refl _) _
  have hc1 : Cel (w.alloc (.cells #[.int .i64 xt, .string xs, .bool xd] 55)) w.heap.size 55 [.int .i64 xt, .string xs, .bool xd] := (blk1 w _).2
  have hs1 : (w.alloc (.cells #[.int .i64 xt, .string xs, .bool xd] 55)).heap.size = w.heap.size + 1 := by simp
  generalize w.alloc (.cells #[.int .i64 xt, .string xs, .bool xd] 55) = W1 at hb1 hc1 hs1 ⊢
  have hb2 : Below W1.heap.size W1 (W1.alloc (.cells #[.int .i64 0, .string ⟨#[]⟩, .bool false] 55)) := (Below.refl _ W1).alloc (Nat.le_refl _) _
  have hc2 : Cel (W1.alloc (.cells #[.int .i64 0, .string ⟨#[]⟩, .bool false] 55)) (w.heap.size + 1) 55 [.int .i64 0, .string ⟨#[]⟩, .bool false] := by rw [← hs1]; exact (blk1 W1 _).2
  have hb3 := hb1.trans (hb2.mono hb1.size)
  have hc3 := hc1.below hb2
  generalize W1.alloc (.cells #[.int .i64 0, .string ⟨#[]⟩, .bool false] 55) = W2 at hb3 hc2 hc3 ⊢
  clear hb1 hc1 hb2
  have HB := Lib.hid hb3
  have H2 := Lib.hid hc2
  have H3 := Lib.hid hc3
  have q1 := hc3.cell (i := 1) rfl
  clear hb3 hc2 hc3 hs1
  go_wp2_with fail
  refine (HCl.out _).mono ?_
  rintro e w3 ⟨rfl, hb⟩
  have HB4 := Lib.hid (HB.out.trans (hb.mono HB.out.size))
  have hc3 := H3.out.below hb
  have hc2 := H2.out.below hb
  have f1 := fun i => hc3.free (i := i)
  have q0 := hc3.cell (i := 0) rfl
  have q1 := hc3.cell (i := 1) rfl
  have q2 := hc3.cell (i := 2) rfl
  have hc3' := Cel.put_same hc3 (i := 1) (v := .string xs) rfl
  have hc2' := hc2.far (g' := w.heap.size) (i := 1) (v := .string xs) (by omega)
  have hb5 := HB4.out.setCell (p := ⟨w.heap.size, 1, none⟩) (Nat.le_refl _) (.string xs)
  have H2 := Lib.hid hc2'
  have H3 := Lib.hid hc3'
  have HB5 := Lib.hid hb5
  clear hb hc2 hc3 hc2' hc3' hb5 HB HB4
  go_upto_region 2 with fail
  have p0 := H3.out.cell (i := 0) rfl
  have p1 := H3.out.cell (i := 1) rfl
  have p2 := H3.out.cell (i := 2) rfl
  have g0 := H2.out.cell (i := 0) rfl
  have g1 := H2.out.cell (i := 1) rfl
  have g2 := H2.out.cell (i := 2) rfl
  have gf := fun i => H2.out.free (i := i)
  generalize w3.setCell ⟨w.heap.size, 1, none⟩ (.string xs) = W4 at p0 p1 p2 g0 g1 g2 gf H2 H3 HB5 ⊢
  clear q0 q1 q2 f1
  have HF := Lib.hid (set3_cel (v0 := .int .i64 xt) (v1 := .string xs) (v2 := .bool xd) H2.out)
  have HBF := Lib.hid (set3_below (R := w.heap.size + 1) (v0 := .int .i64 xt) (v1 := .string xs) (v2 := .bool xd) HB5.out (Nat.le_succ _))
  go_wp2_with fail
  have z0 := HF.out.cell (i := 0) rfl
  have z1 := HF.out.cell (i := 1) rfl
  have z2 := HF.out.cell (i := 2) rfl
  unfold set3 at z0 z1 z2
  exact bodyPost_ret (v := .agg #[.int .i64 xt, .string xs, .bool xd]) (by simp [results, Tryz.results89, go_sem, z0, z1, z2]) rfl ⟨rfl, HBF.out⟩

theorem own_cel {W : World} {H n g cap : Nat} {t : TypeId} {xs : List Value} (h : W.ownsRow H t 3 (.slice (some ⟨g, 0, none⟩) n cap) n xs) (hx : xs.length = n * 3) (hn : 0 < n) : ∃ ys : List Value, Cel W g t ys ∧ H ≤ g ∧ (∀ (j : Nat) (u : Value), xs[j]? = some u → ys[j]? = some u) ∧ (∀ W', Cel W' g t ys → W'.ownsRow H t 3 (.slice (some ⟨g, 0, none⟩) n cap) n xs) := by
  obtain ⟨h1, h2⟩ := h
  rcases h2 with ⟨h2, h3⟩ | ⟨g', cap', cur, h2, h3, h4, h5, h6, h7, h8⟩
  · omega
  · simp only [Value.slice.injEq, Option.some.injEq, Addr.mk.injEq, and_true, true_and] at h2
    obtain ⟨rfl, rfl⟩ := h2
    refine ⟨cur.toList, by unfold Cel; rw [h4], h3, fun j u hu => ?_, fun W' hW => ⟨h1, .inr ⟨g, cap, cur, rfl, h3, ?_, h5, h6, h7, h8⟩⟩⟩
    · have hj := (List.getElem?_eq_some_iff.1 hu).1
      rw [← h8, List.getElem?_take_of_lt (by omega)] at hu
      exact hu
    · unfold Cel at hW
      rw [hW]

set_option maxRecDepth 20000 in
set_option maxHeartbeats 4000000 in
theorem copies_any (ad : Addr) (c : Nat) (ps : List (Value × List Vr)) (w : World) (hb : ad.block < w.heap.size) (hcell : ∀ i (h : i < ps.length), w.cell? (ad.add i) = some ps[i].1) (hP : ∀ i (h : i < ps.length), PartOf w ps[i].1 ps[i].2) (hsum : (joinL ps ps.length).length * 32 ≤ 140737488355328) (hps : ps.length ≤ 1024) (hok : ∀ x ∈ joinL ps ps.length, x.shard.size ≤ 281474976710656) :
    Calls Tryz.prog 99 #[.slice (some ad) ps.length c] w fun e w' => ∃ v, e = .returned v ∧ w'.ownsRow w.heap.size 55 3 v (joinL ps ps.length).length (vrV (joinL ps ps.length)) ∧ Below w.heap.size w w' := by
  have HC := Lib.hid (concat_any ad c ps w hb hcell hP hsum hps)
  have HOk := Lib.hid hok
  have hS := hsum
  generalize joinL ps ps.length = L at HC HOk hS ⊢
  have hlen : (L.length : Int) ≤ 4398046511104 := by omega
  clear hb hcell hP hsum hps hok
  go_enter Tryz.func99, Tryz.ntmps99
  go_wp2_with fail
  refine HC.out.mono ?_
  rintro e1 w1 ⟨v, rfl, ho, hb⟩
  have HB := Lib.hid hb
  clear hb HC
  by_cases h0 : L.length = 0
  · have HO := Lib.hid ho
    obtain ⟨A, cv, rfl, -⟩ := vrs_own ho rfl
    have pl : ¬ (0 : Int) < (L.length : Int) := by omega
    have HL0 := Lib.hid h0
    clear ho h0
    go_wp2_with fail
    go_loopw [10] (fun iv wr => iv = .int .i64 0 ∧ wr = w1) (fun iv _ => 0)
    case atStart => exact ⟨rfl, rfl⟩
    case round =>
      obtain ⟨rfl, rfl⟩ := hrel
      go_wp2_with fail
      go_ret
      exact ⟨_, rfl, HO.out, HB.out⟩
  · obtain ⟨g, cap, rfl, -, -⟩ := World.ownsRow.form ho (by omega)
    obtain ⟨ys, hcel, hg, hyx, hback⟩ := own_cel ho (vrV_len L) (by omega)
    have HCe := Lib.hid hcel
    have HY := Lib.hid hyx
    have HBk := Lib.hid hback
    clear ho hcel hyx hback
    go_wp2_with fail
    go_loopw [10] (fun iv wr => ∃ j : Nat, j ≤ L.length ∧ iv = .int .i64 (j : Int) ∧ Hid (Cel wr g 55 ys) ∧ Hid (Below w.heap.size w wr)) (fun iv _ => L.length - (intOf iv).toNat)
    case atStart => exact ⟨0, Nat.zero_le _, rfl, HCe, HB⟩
    case round =>
      obtain ⟨j, hj, rfl, hcel, hbl⟩ := hrel
      clear HCe HB
      by_cases hlt : j < L.length
      · have pj : (j : Int) < (L.length : Int) := by omega
        obtain ⟨y0, y1, y2⟩ := vrV_at L j hlt
        have z0 := HY.out _ _ y0
        have z1 := HY.out _ _ y1
        have z2 := HY.out _ _ y2
        have x0 := hcel.out.cell z0
        have x1 := hcel.out.cell z1
        have x2 := hcel.out.cell z2
        have hx := HOk.out _ (List.getElem_mem hlt)
        generalize L[j] = X at z0 z1 z2 x0 x1 x2 hx
        obtain ⟨xt, xs, xd⟩ := X
        simp only at z0 z1 z2 x0 x1 x2 hx
        have HCp : Hid (∀ W : World, Calls Tryz.prog 89 #[.agg #[.int .i64 xt, .string xs, .bool xd]] W fun e w' => e = .returned (.agg #[.int .i64 xt, .string xs, .bool xd]) ∧ Below W.heap.size W w') := Lib.hid (fun W => copied_any ⟨xt, xs, xd⟩ W hx)
        have hB0 : Below wr.heap.size wr (wr.alloc (.cells #[.int .i64 xt, .string xs, .bool xd] 55)) := (Below.refl _ wr).alloc (Nat.le_refl _) _
        have hR0 : Cel (wr.alloc (.cells #[.int .i64 xt, .string xs, .bool xd] 55)) wr.heap.size 55 [.int .i64 xt, .string xs, .bool xd] := (blk1 wr _).2
        have HZ := Lib.hid (And.intro z0 (And.intro z1 z2))
        clear y0 y1 y2 hx z0 z1 z2
        go_upto_region 5 with fail
        have q0 := hR0.cell (i := 0) rfl
        have q1 := hR0.cell (i := 1) rfl
        have q2 := hR0.cell (i := 2) rfl
        have HB1 := Lib.hid (hbl.out.trans (hB0.mono hbl.out.size))
        have HC1 := Lib.hid (hcel.out.below hB0)
        generalize hG : wr.heap.size = G at *
        generalize wr.alloc (.cells #[.int .i64 xt, .string xs, .bool xd] 55) = W1 at *
        clear hR0 hB0 x0 x1 x2 hbl hcel hG
        go_wp2_with fail
        refine (HCp.out _).mono ?_
        rintro e2 w2 ⟨rfl, hb⟩
        have HB2 := Lib.hid (HB1.out.trans (hb.mono HB1.out.size))
        have HC2 := Lib.hid (HC1.out.below hb)
        have x0 := HC2.out.cell HZ.out.1
        have x1 := HC2.out.cell HZ.out.2.1
        have x2 := HC2.out.cell HZ.out.2.2
        have f0 := fun i => HC2.out.free (i := i)
        have HF := Lib.hid (Cel.put_same (Cel.put_same (Cel.put_same HC2.out HZ.out.1) HZ.out.2.1) HZ.out.2.2)
        have HBF := Lib.hid (((HB2.out.setCell (p := ⟨g, j * 3, none⟩) hg (.int .i64 xt)).setCell (p := ⟨g, j * 3 + 1, none⟩) hg (.string xs)).setCell (p := ⟨g, j * 3 + 2, none⟩) hg (.bool xd))
        clear hb HB1 HC1 q0 q1 q2
        go_wp2_with fail
        go_roundw
        case rel => exact ⟨j + 1, by omega, by go_num, HF, HBF⟩
        case measure => simp [intOf]; omega
      · obtain rfl : j = L.length := by omega
        have HO := Lib.hid (HBk.out _ hcel.out)
        go_wp2_with fail
        go_ret
        exact ⟨_, rfl, HO.out, hbl.out⟩

end Ch
end Go.Proofs.YtiobhbagjokpcaaGreat

/- The landed chain: Last, At, Sweep, Add; contracts; no condition but the range. -/
namespace Go.Proofs.YtiobhbagjokpcaaGreat
namespace Ch
open Go.RowKit Bk

attribute [local go_sem ↓] Go.wp_at_zero Go.wp_at_succ
attribute [local go_sem] floatUpon pick

set_option maxRecDepth 20000 in
set_option maxHeartbeats 4000000 in
theorem llast_any (A : Option Addr) (c : Nat) (l : List Vr) (w : World) (h : VrsAt w A l) (hn : l.length * 32 ≤ 140737488351232) (hr : ∀ x ∈ l, VrRng x) (hc : l.length ≤ c) :
    Calls Tryz.prog 76 #[.slice A l.length c] w fun e w' => e = .returned (.tuple #[.int .i64 (lastP l).1, .int .i64 (lastP l).2]) ∧ Below w.heap.size w w' := by
  have HC := Lib.hid (lcheck_any A c l w h hn hr hc)
  have HL := Lib.hid (fun W (hb : Below w.heap.size w W) => last_in A c l l.length W (h.below hb) rfl (by omega))
  have E := Lib.hid (show lastP l = if (chkP l).2 ≠ 0 then (0, (chkP l).2) else (lastT l, 0) from rfl)
  obtain ⟨a, e, hae⟩ : ∃ a e, chkP l = (a, e) := ⟨_, _, rfl⟩
  rw [hae] at HC E
  simp only at HC E
  clear h hr hae hc hn
  go_enter Tryz.func76, Tryz.ntmps76
  go_wp2_with fail
  refine HC.out.mono ?_
  rintro e1 w1 ⟨rfl, hb⟩
  have HB := Lib.hid hb
  clear HC hb
  by_cases he : e = 0
  · subst he
    have E2 := Lib.hid (show lastP l = (lastT l, 0) by rw [E.out]; rfl)
    clear E
    go_wp2_with fail
    refine (HL.out _ HB.out).mono ?_
    rintro e2 w2 ⟨rfl, rfl⟩
    go_wp2_with fail
    go_ret2
    exact ⟨by rw [E2.out]; rfl, HB.out⟩
  · have E2 := Lib.hid (show lastP l = (0, e) by rw [E.out, if_pos he])
    have hz : (e == 0) = false := by simpa using he
    clear E
    go_wp2_with fail
    go_ret2
    exact ⟨by rw [E2.out]; rfl, HB.out⟩

set_option maxRecDepth 20000 in
set_option maxHeartbeats 4000000 in
theorem lat_any (A : Option Addr) (c : Nat) (l : List Vr) (t : Int) (w : World) (h : VrsAt w A l) (hn : l.length * 32 ≤ 140737488351232) (hr : ∀ x ∈ l, VrRng x) (hc : l.length ≤ c) :
    Calls Tryz.prog 55 #[.slice A l.length c, .int .i64 t] w fun e w' => e = .returned (.tuple #[.agg (vcs (atP l t).1).toArray, .bool (atP l t).2.1, .int .i64 (atP l t).2.2]) ∧ Below w.heap.size w w' := by
  have HC := Lib.hid (fun W (hb : Below w.heap.size w W) => lcheck_any A c l W (h.below hb) hn hr hc)
  have HP0 := Lib.hid (fun (hok : ChOk l) W (hb : Below w.heap.size w W) => notAbove_any A c l t W (h.below hb) hok.rise hok.len)
  have HOk := Lib.hid (fun (h0 : (chkP l).2 = 0) => chk_ok.1 h0)
  have HA := Lib.hid h
  have HRg := Lib.hid hr
  have hlen : (l.length : Int) ≤ 9223372036854775807 := by omega
  have E := Lib.hid (show atP l t = if (chkP l).2 ≠ 0 then (noVr, false, (chkP l).2) else ((atV l t).1, (atV l t).2, 0) from rfl)
  obtain ⟨a, e, hae⟩ : ∃ a e, chkP l = (a, e) := ⟨_, _, rfl⟩
  rw [hae] at HC E HOk
  simp only at HC E HOk
  clear h hr hae hc
  go_enter Tryz.func55, Tryz.ntmps55
  go_wp2_with fail
  have hR0 : Cel (w.alloc (.cells #[.int .i64 0, .string ⟨#[]⟩, .bool false] 55)) w.heap.size 55 [.int .i64 0, .string ⟨#[]⟩, .bool false] := (blk1 w _).2
  have hB0 : Below w.heap.size w (w.alloc (.cells #[.int .i64 0, .string ⟨#[]⟩, .bool false] 55)) := (Below.refl _ w).alloc (Nat.le_refl _) _
  refine (HC.out _ hB0).mono ?_
  rintro e1 w1 ⟨rfl, hb⟩
  have HR := Lib.hid (hR0.below hb)
  have HB := Lib.hid (hB0.trans (hb.mono hB0.size))
  clear HC hb hR0 hB0
  by_cases he : e = 0
  · subst he
    have HP := Lib.hid (HP0.out (HOk.out rfl))
    have hpl := place_le l t
    clear HP0
    cases hpn : placeN l t with
    | zero =>
      have E2 := Lib.hid (show atP l t = (noVr, false, 0) by rw [E.out]; unfold atV; rw [low_none hpn]; rfl)
      rw [hpn] at HP
      clear E hpn hpl
      go_wp2_with fail
      refine (HP.out _ HB.out).mono ?_
      rintro e2 w2 ⟨rfl, hb⟩
      have HB2 := Lib.hid (HB.out.trans (hb.mono HB.out.size))
      have HR2 := Lib.hid (HR.out.below hb)
      clear hb
      have zq := fun i => HR2.out.free (i := i)
      have q0 := HR2.out.cell (i := 0) rfl
      have q1 := HR2.out.cell (i := 1) rfl
      have q2 := HR2.out.cell (i := 2) rfl
      go_wp2_with fail
      have HF := Lib.hid (set3_cel (v0 := .int .i64 0) (v1 := .string ⟨#[]⟩) (v2 := .bool false) HR2.out)
      have z0 := HF.out.cell (i := 0) rfl
      have z1 := HF.out.cell (i := 1) rfl
      have z2 := HF.out.cell (i := 2) rfl
      unfold set3 at z0 z1 z2
      exact bodyPost_ret (v := .tuple #[.agg #[.int .i64 0, .string ⟨#[]⟩, .bool false], .bool false, .int .i64 0]) (by simp [results, Tryz.results55, go_sem, z0, z1, z2]) rfl ⟨by rw [E2.out]; rfl, set3_below HB2.out (Nat.le_refl _)⟩
    | succ k =>
      obtain ⟨hk, hlast⟩ := low_last hpn
      obtain ⟨X, hX⟩ : ∃ X, l[k] = X := ⟨_, rfl⟩
      have E2 := Lib.hid (show atP l t = (X, true, 0) by rw [E.out]; unfold atV; rw [hlast, hX]; rfl)
      have HX := Lib.hid hX
      have hsz := (HRg.out _ (List.getElem_mem hk)).shard
      rw [hX] at hsz
      rw [hpn] at HP
      have hc1 : ((k + 1 : Nat) : Int) - 1 = (k : Int) := by omega
      have hc2 : (k : Int) < (l.length : Int) := by omega
      have hz : ¬ ((k + 1 : Nat) : Int) = 0 := by omega
      have hz2 : (((k + 1 : Nat) : Int) == 0) = false := by simpa using hz
      have hc3 : ((k + 1 : Nat) : Int) ≤ 9223372036854775807 := by omega
      have HK := Lib.hid hk
      clear E hpn hpl hlast hX
      generalize k + 1 = n at HP hc1 hz hz2 hc3
      go_wp2_with fail
      refine (HP.out _ HB.out).mono ?_
      rintro e2 w2 ⟨rfl, hb⟩
      have HB2 := Lib.hid (HB.out.trans (hb.mono HB.out.size))
      have HR2 := Lib.hid (HR.out.below hb)
      clear hb
      obtain ⟨ad, rfl, hab, hcl⟩ := (HA.out.below HB2.out) (by have := HK.out; omega)
      obtain ⟨x0, x1, x2⟩ := hcl k HK.out
      rw [HX.out] at x0 x1 x2
      rw [← add_field _ _ _ (by omega)] at x1 x2
      obtain ⟨xt, xs, xd⟩ := X
      simp only at x0 x1 x2 hsz
      have HCp : Hid (∀ W : World, Calls Tryz.prog 89 #[.agg #[.int .i64 xt, .string xs, .bool xd]] W fun e w' => e = .returned (.agg #[.int .i64 xt, .string xs, .bool xd]) ∧ Below W.heap.size W w') := Lib.hid (fun W => copied_any ⟨xt, xs, xd⟩ W (by have rb : reachBytes = 140737488351232 := rfl; simp only; omega))
      clear hab hcl HX hsz
      go_wp2_with fail
      refine (HCp.out _).mono ?_
      rintro e3 w3 ⟨rfl, hb⟩
      have HB3 := Lib.hid (HB2.out.trans (hb.mono HB2.out.size))
      have HR3 := Lib.hid (HR2.out.below hb)
      clear hb HB2 HR2 x0 x1 x2
      have zq := fun i => HR3.out.free (i := i)
      have q0 := HR3.out.cell (i := 0) rfl
      have q1 := HR3.out.cell (i := 1) rfl
      have q2 := HR3.out.cell (i := 2) rfl
      go_wp2_with fail
      have HF := Lib.hid (set3_cel (v0 := .int .i64 xt) (v1 := .string xs) (v2 := .bool xd) HR3.out)
      have z0 := HF.out.cell (i := 0) rfl
      have z1 := HF.out.cell (i := 1) rfl
      have z2 := HF.out.cell (i := 2) rfl
      unfold set3 at z0 z1 z2
      exact bodyPost_ret (v := .tuple #[.agg #[.int .i64 xt, .string xs, .bool xd], .bool true, .int .i64 0]) (by simp [results, Tryz.results55, go_sem, z0, z1, z2]) rfl ⟨by rw [E2.out]; rfl, set3_below HB3.out (Nat.le_refl _)⟩
  · have E2 := Lib.hid (show atP l t = (noVr, false, e) by rw [E.out, if_pos he])
    have hz : (e == 0) = false := by simpa using he
    clear E
    have zq := fun i => HR.out.free (i := i)
    have q0 := HR.out.cell (i := 0) rfl
    have q1 := HR.out.cell (i := 1) rfl
    have q2 := HR.out.cell (i := 2) rfl
    go_wp2_with fail
    have HF := Lib.hid (set3_cel (v0 := .int .i64 0) (v1 := .string ⟨#[]⟩) (v2 := .bool false) HR.out)
    have z0 := HF.out.cell (i := 0) rfl
    have z1 := HF.out.cell (i := 1) rfl
    have z2 := HF.out.cell (i := 2) rfl
    unfold set3 at z0 z1 z2
    exact bodyPost_ret (v := .tuple #[.agg #[.int .i64 0, .string ⟨#[]⟩, .bool false], .bool false, .int .i64 e]) (by simp [results, Tryz.results55, go_sem, z0, z1, z2]) rfl ⟨by rw [E2.out]; rfl, set3_below HB.out (Nat.le_refl _)⟩

end Ch
end Go.Proofs.YtiobhbagjokpcaaGreat
