/- Parts of the proof, joined: MpCheck, MpCheck2, MpClone, MpMix, MpShard, MatTab; their conditions stand with each. -/
import Derived.Test.YtemcjnbgcecinaaRows
import Derived.Lib.Strings
import Derived.Lib.Walk
import Derived.Lib.BufferWrite
import Derived.Lib.UnsafeStr
import Derived.Lib.Hide
import Derived.Laws.MakeOwn
import Derived.WalkKit
import Derived.Deep.RegionWith
import Derived.Deep.RegionHeld3
import Derived.BigRegion
import Derived.Test.YtemcjnbgcecinaaA1
import Derived.Test.YtemcjnbgcecinaaA2
import Derived.Test.YtemcjnbgcecinaaA7
import Derived.Test.YtemcjnbgcecinaaA9
import Derived.Test.YtemcjnbgcecinaaA10
import Derived.Test.YtemcjnbgcecinaaA12
import Derived.Test.YtemcjnbgcecinaaA14

/- What the landed package mend's Check answers; contracts; no condition but the range. -/
namespace Go.Proofs.Ytemcjnbgcecinaa
open Go.RowKit

set_option maxHeartbeats 1000000 in
theorem misCode_any (k m : Int) (w : World) : Calls Try.prog 27 #[.int .i64 k, .int .i64 m] w fun e w' => e = .returned (.bool (codeB k m)) ∧ w' = w := by
  by_cases h1 : 1 ≤ k
  · by_cases h2 : k ≤ 255
    · by_cases h3 : 0 ≤ m
      · by_cases h4 : m ≤ 255 - k
        · have E := Lib.hid (show codeB k m = true by unfold codeB; simp; omega)
          have hw : IntKind.i64.wrap (255 - k) = 255 - k := i64_wrap (by omega) (by omega)
          go_enter Try.func27, Try.ntmps27
          go_wp2
          go_ret
          exact ⟨by rw [E.out]; rfl, rfl⟩
        · have E := Lib.hid (show codeB k m = false by unfold codeB; simp; omega)
          have h5 : 255 - k < m := by omega
          have hw : IntKind.i64.wrap (255 - k) = 255 - k := i64_wrap (by omega) (by omega)
          go_enter Try.func27, Try.ntmps27
          go_wp2
          go_ret
          exact ⟨by rw [E.out]; rfl, rfl⟩
      · have E := Lib.hid (show codeB k m = false by unfold codeB; simp; omega)
        go_enter Try.func27, Try.ntmps27
        go_wp2
        go_ret
        exact ⟨by rw [E.out]; rfl, rfl⟩
    · have E := Lib.hid (show codeB k m = false by unfold codeB; simp; omega)
      go_enter Try.func27, Try.ntmps27
      go_wp2
      go_ret
      exact ⟨by rw [E.out]; rfl, rfl⟩
  · have E := Lib.hid (show codeB k m = false by unfold codeB; simp; omega)
    go_enter Try.func27, Try.ntmps27
    go_wp2
    go_ret
    exact ⟨by rw [E.out]; rfl, rfl⟩

def numB (n i : Int) : Bool := decide (0 ≤ i ∧ i < n)

set_option maxHeartbeats 1000000 in
theorem isNumber_any (n i : Int) (w : World) : Calls Try.prog 38 #[.int .i64 n, .int .i64 i] w fun e w' => e = .returned (.bool (numB n i)) ∧ w' = w := by
  by_cases h1 : 0 ≤ i
  · by_cases h2 : i < n
    · have E := Lib.hid (show numB n i = true by unfold numB; simp; omega)
      go_enter Try.func38, Try.ntmps38
      go_wp2
      go_ret
      exact ⟨by rw [E.out]; rfl, rfl⟩
    · have E := Lib.hid (show numB n i = false by unfold numB; simp; omega)
      go_enter Try.func38, Try.ntmps38
      go_wp2
      go_ret
      exact ⟨by rw [E.out]; rfl, rfl⟩
  · have E := Lib.hid (show numB n i = false by unfold numB; simp; omega)
    go_enter Try.func38, Try.ntmps38
    go_wp2
    go_ret
    exact ⟨by rw [E.out]; rfl, rfl⟩

/-- what is wrong with one shard, those ahead standing in a map -/
def faultE (n si : Int) (ss fs : ByteArray) (f : Int → Option Int) : Int :=
  if si < 0 ∨ n ≤ si then 1 else if (f si).isSome = true then 6 else if 2052 < ss.size then 2 else if ss.size ≠ fs.size then 4 else 0

set_option maxRecDepth 20000 in
set_option maxHeartbeats 1000000 in
theorem fault_any (n si f0 : Int) (ss fs : ByteArray) (b cnt : Nat) (f : Int → Option Int) (w : World) (hM : MapAt w b cnt f) (hn : n ≤ 255) (h1 : ss.size ≤ 9223372036854775807) (_h2 : fs.size ≤ 9223372036854775807) :
    Calls Try.prog 28 #[.int .i64 n, .agg #[.int .i64 si, .string ss], .agg #[.int .i64 f0, .string fs], .map (some b)] w fun e w' => e = .returned (.int .i64 (faultE n si ss fs f)) ∧ Below w.heap.size w w' := by
  have HM := Lib.hid hM
  have BW : Hid (Below w.heap.size w ((w.alloc (.cells #[.int .i64 si, .string ss] 50)).alloc (.cells #[.int .i64 f0, .string fs] 50))) := ((Below.refl _ w).alloc (Nat.le_refl _) _).alloc (by simp) _
  have HM2 := Lib.hid (hM.below BW.out)
  clear hM
  by_cases hr : si < 0 ∨ n ≤ si
  · have E := Lib.hid (show faultE n si ss fs f = 1 by unfold faultE; rw [if_pos hr])
    have q : numB n si = false := by unfold numB; simp; omega
    clear hr
    go_enter Try.func28, Try.ntmps28
    go_wp2_with fail
    refine (isNumber_any _ _ _).mono ?_
    rintro e w' ⟨rfl, rfl⟩
    rw [q]
    go_wp2_with fail
    go_ret
    exact ⟨by rw [E.out]; rfl, BW.out⟩
  · have q : numB n si = true := by unfold numB; simp; omega
    have r1 : 0 ≤ si := by omega
    have r2 : si < 255 := by omega
    have hl := HM2.out.look (x := si) (by omega) (by omega)
    cases hs : (f si).isSome
    · rw [hs] at hl
      by_cases h3 : 2052 < ss.size
      · have E := Lib.hid (show faultE n si ss fs f = 2 by unfold faultE; rw [if_neg hr, if_neg (by simp [hs]), if_pos h3])
        have h3' : (2052 : Int) < (ss.size : Int) := by omega
        clear hr h3
        go_enter Try.func28, Try.ntmps28
        go_wp2_with fail
        refine (isNumber_any _ _ _).mono ?_
        rintro e w' ⟨rfl, rfl⟩
        rw [q]
        go_wp2_with fail
        go_ret
        exact ⟨by rw [E.out]; rfl, BW.out⟩
      · have h3' : (ss.size : Int) ≤ 2052 := by omega
        by_cases h4 : ss.size = fs.size
        · have E := Lib.hid (show faultE n si ss fs f = 0 by unfold faultE; rw [if_neg hr, if_neg (by simp [hs]), if_neg h3, if_neg (by omega)])
          have q4 : ((ss.size : Int) != (fs.size : Int)) = false := by simp [h4]
          clear hr h3 h4
          go_enter Try.func28, Try.ntmps28
          go_wp2_with fail
          refine (isNumber_any _ _ _).mono ?_
          rintro e w' ⟨rfl, rfl⟩
          rw [q]
          go_wp2_with fail
          go_ret
          exact ⟨by rw [E.out]; rfl, BW.out⟩
        · have E := Lib.hid (show faultE n si ss fs f = 4 by unfold faultE; rw [if_neg hr, if_neg (by simp [hs]), if_neg h3, if_pos h4])
          have q4 : ((ss.size : Int) != (fs.size : Int)) = true := by simp; omega
          clear hr h3 h4
          go_enter Try.func28, Try.ntmps28
          go_wp2_with fail
          refine (isNumber_any _ _ _).mono ?_
          rintro e w' ⟨rfl, rfl⟩
          rw [q]
          go_wp2_with fail
          go_ret
          exact ⟨by rw [E.out]; rfl, BW.out⟩
    · rw [hs] at hl
      have E := Lib.hid (show faultE n si ss fs f = 6 by unfold faultE; rw [if_neg hr, if_pos hs])
      clear hr
      go_enter Try.func28, Try.ntmps28
      go_wp2_with fail
      refine (isNumber_any _ _ _).mono ?_
      rintro e w' ⟨rfl, rfl⟩
      rw [q]
      go_wp2_with fail
      go_ret
      exact ⟨by rw [E.out]; rfl, BW.out⟩

/-- the map of the first N shards' numbers: where each stands (the last one, if it stood twice) -/
def plF (L : List (Int × ByteArray)) : Nat → Int → Option Int
  | 0, _ => none
  | N + 1, x => setK (plF L N) (sI L N) (N : Int) x

theorem plF_some {L : List (Int × ByteArray)} {x y : Int} : ∀ {N : Nat}, plF L N x = some y → ∃ j, j < N ∧ y = (j : Int) ∧ sI L j = x
  | 0, h => by simp [plF] at h
  | N + 1, h => by
    unfold plF setK at h
    by_cases e : x = sI L N
    · rw [if_pos e] at h
      exact ⟨N, by omega, (Option.some.inj h).symm, e.symm⟩
    · rw [if_neg e] at h
      obtain ⟨j, h1, h2⟩ := plF_some h
      exact ⟨j, by omega, h2⟩

theorem plF_none {L : List (Int × ByteArray)} {x : Int} : ∀ {N : Nat}, plF L N x = none → ∀ j, j < N → sI L j ≠ x
  | 0, _, j, hj => absurd hj (by omega)
  | N + 1, h, j, hj => by
    unfold plF setK at h
    by_cases e : x = sI L N
    · rw [if_pos e] at h; cases h
    · rw [if_neg e] at h
      by_cases hj' : j = N
      · subst hj'; exact fun z => e z.symm
      · exact plF_none h j (by omega)

theorem fault_bad (t : Int) (L : List (Int × ByteArray)) (i : Nat) : faultE t (sI L i) (sS L i) (sS L 0) (plF L i) = badE t L i := by
  unfold faultE badE
  by_cases h1 : sI L i < 0 ∨ t ≤ sI L i
  · rw [if_pos h1, if_pos h1]
  · rw [if_neg h1, if_neg h1]
    cases hp : plF L i (sI L i) with
    | some y =>
      obtain ⟨j, hj, _, e⟩ := plF_some hp
      have h2 : ∃ j, j < i ∧ sI L j = sI L i := ⟨j, hj, e⟩
      simp only [Option.isSome_some, if_true, h2]
    | none =>
      have h2 : ¬ ∃ j, j < i ∧ sI L j = sI L i := fun ⟨j, hj, e⟩ => plF_none hp j hj e
      simp only [Option.isSome_none, Bool.false_eq_true, if_false, h2]

end Go.Proofs.Ytemcjnbgcecinaa

/- What the landed package mend's Check answers; one contract; no condition but the range. -/
namespace Go.Proofs.Ytemcjnbgcecinaa
open Go.RowKit

set_option maxRecDepth 20000 in
set_option maxHeartbeats 2000000 in
theorem mcheck_any (k m : Int) (A : Option Addr) (c : Nat) (L : List (Int × ByteArray)) (w : World) (h : ShardsAt w A L) (hn : L.length ≤ 4000000000000000000) (hmax : ∀ i, i < L.length → (sS L i).size ≤ 9223372036854775807) :
    Calls Try.prog 11 #[.int .i64 k, .int .i64 m, .slice A L.length c] w fun e w' => e = .returned (ckAns k m L) ∧ Below w.heap.size w w' := by
  cases hc : codeB k m
  · have E := Lib.hid (ck_code (L := L) hc)
    have HC := Lib.hid hc
    clear hc h hmax
    go_enter Try.func11, Try.ntmps11
    go_wp2_with fail
    refine (misCode_any _ _ _).mono ?_
    rintro e w1 ⟨rfl, rfl⟩
    rw [HC.out]
    go_wp2_with fail
    go_ret2
    exact ⟨by rw [E.out]; rfl, Below.refl _ _⟩
  · have HC := Lib.hid hc
    obtain ⟨a, b, rfl, rfl, h1, h2⟩ := codeB_nat hc
    have HB := Lib.hid (fun i hi h0 e he h1 => ck_bad (L := L) (i := i) hc hi h0 (e := e) he h1)
    have HF := Lib.hid (fun h0 hl => ck_few (L := L) hc h0 hl)
    have HO := Lib.hid (fun h0 hl => ck_ok (L := L) hc h0 hl)
    have HS := Lib.hid h
    have HM := Lib.hid hmax
    have hmm := @run_makeMap Try.prog
    clear hc h hmax
    go_enter Try.func11, Try.ntmps11
    go_wp2_with fail
    refine (misCode_any _ _ _).mono ?_
    rintro e w1 ⟨rfl, rfl⟩
    rw [HC.out]
    go_wp2_with fail
    have M0 := Lib.hid (mapAt_made w1)
    have B0 : Hid (Below w1.heap.size w1 (w1.alloc (.map #[] 0))) := (Below.refl _ w1).alloc (Nat.le_refl _) _
    generalize (w1.alloc (.map #[] 0)) = w2 at M0 B0 ⊢
    go_loopw [19] (fun u wr => ∃ i : Nat, i ≤ L.length ∧ u = .int .i64 (i : Int) ∧ Hid (∀ j, j < i → badE ((a : Int) + (b : Int)) L j = 0) ∧ Hid (MapAt wr w1.heap.size i (plF L i)) ∧ Hid (Below w1.heap.size w1 wr)) (fun u _ => L.length - (intOf u).toNat)
    case atStart => exact ⟨0, by omega, rfl, fun j hj => absurd hj (by omega), M0.out, B0.out⟩
    case round =>
      obtain ⟨i, hi, rfl, h0, hM, hbel⟩ := hrel
      clear M0 B0 hmm
      by_cases hlt : i < L.length
      · have pi : (i : Int) < (L.length : Int) := by omega
        obtain ⟨ad, rfl, hab, hcl0⟩ := (HS.out.below hbel.out) (by omega)
        obtain ⟨x1, x2⟩ := hcl0 i hlt
        obtain ⟨y1, y2⟩ := hcl0 0 (by omega)
        rw [Nat.zero_mul, add_zero'] at y1
        have x3 : wr.cell? ⟨(ad.add (i * 2)).block, (ad.add (i * 2)).off + 1, none⟩ = some (.string (sS L i)) := by rw [add_field]; exact x2
        clear x2 hcl0
        go_wp2_with fail
        clear x1 x3 y1 y2
        obtain ⟨s1, b1⟩ := blk1 wr (.cells #[.int .i64 (sI L i), .string (sS L i)] 50)
        have B1 : Hid (Below w1.heap.size w1 (wr.alloc (.cells #[.int .i64 (sI L i), .string (sS L i)] 50))) := hbel.out.alloc hbel.out.size _
        have M1 := Lib.hid (hM.out.below ((Below.refl _ wr).alloc (Nat.le_refl _) (.cells #[.int .i64 (sI L i), .string (sS L i)] 50)))
        have hlm := hM.out.lt
        generalize wr.alloc (.cells #[.int .i64 (sI L i), .string (sS L i)] 50) = W at s1 b1 B1 M1 ⊢
        obtain ⟨ad', had, hab1, hcl0⟩ := (HS.out.below B1.out) (by omega)
        obtain rfl := Option.some.inj had
        obtain ⟨y1, y2⟩ := hcl0 0 (by omega)
        rw [Nat.zero_mul, add_zero'] at y1
        have y3 : W.cell? ⟨ad.block, ad.off + 1, none⟩ = some (.string (sS L 0)) := by rw [add_first]; rwa [Nat.zero_mul, Nat.zero_add] at y2
        have z1 := blk_cell (j := 0) b1 rfl
        have z2 := blk_cell (j := 1) b1 rfl
        have p0 : (0 : Int) < (L.length : Int) := by omega
        have hFl := fun W M => fault_any ((a : Int) + (b : Int)) (sI L i) (sI L 0) (sS L i) (sS L 0) w1.heap.size i (plF L i) W M (by omega) (HM.out i hlt) (HM.out 0 (by omega))
        rw [fault_bad] at hFl
        have HFl := Lib.hid hFl
        generalize wr.heap.size = g at s1 b1 z1 z2 ⊢
        have Z1 := Lib.hid b1
        clear hFl y2 hcl0 hM hbel b1
        refine wp_region_quiet_tail 8 (by kernel_rfl) (by kernel_rfl) ?_
        simp only [List.take_succ_cons, List.take_zero, List.drop_succ_cons, List.drop_zero]
        repeat (go_big_quiet_step (fail))
        refine wpQuiet_nil ?_
        intro d
        go_wp2_with fail
        refine (HFl.out (W.drewN d) (M1.out.below (below_drewN (Below.refl _ W) d))).mono ?_
        rintro e w3 ⟨rfl, hb⟩
        have hbW : Below W.heap.size W w3 := by have := (below_drewN (Below.refl W.heap.size W) d).trans (hb.mono (by simp)); exact this
        have B3 := Lib.hid (B1.out.trans (hbW.mono B1.out.size))
        have M3 := Lib.hid (M1.out.below hbW)
        have zz1 := blk_cell (j := 0) ((hbW.block g (by omega)).trans Z1.out) rfl
        by_cases he : badE ((a : Int) + (b : Int)) L i = 0
        · have hz : badE ((a : Int) + (b : Int)) L i = 0 := he
          have HE := Lib.hid he
          rw [he]
          have hrng : 0 ≤ sI L i ∧ sI L i < (a : Int) + (b : Int) := by
            by_cases h2 : sI L i < 0 ∨ (a : Int) + (b : Int) ≤ sI L i
            · rw [bad_rng h2] at hz; cases hz
            · omega
          clear hz he hbW hb y1 y3 z1 z2 B1 M1
          go_wp2_with (first | (at_mapUpdate; refine wpList_mapSet _ rfl _ _ _ rfl w1.heap.size i (plF L i) rfl M3.out (by unfold maxLen; omega) (sI L i) (i : Int) rfl rfl (by omega) (by omega) (by omega) (by omega) ?_; intro w4 M4 G4 S4))
          have B4 := Lib.hid (B3.out.grown G4 B3.out.size (fun k hk => by cases hk; exact Nat.le_refl _))
          have M5 : Hid (MapAt w4 w1.heap.size (i + 1) (plF L (i + 1))) := M4
          clear M4 G4 S4 M3
          go_wp2_with fail
          go_roundw
          case rel => exact ⟨i + 1, by omega, by go_num, (fun x hx => by
            by_cases e : x = i
            · subst e; exact HE.out
            · exact h0.out x (by omega)), M5.out, B4.out⟩
          case measure => simp [intOf]; omega
        · have E := Lib.hid (HB.out i hlt h0.out _ rfl he)
          have q : (badE ((a : Int) + (b : Int)) L i != 0) = true := by simpa using he
          clear he
          generalize badE ((a : Int) + (b : Int)) L i = er at *
          go_wp2_with fail
          go_ret2
          exact ⟨by rw [E.out]; rfl, B3.out⟩
      · obtain rfl : i = L.length := by omega
        by_cases hf : (L.length : Int) < (a : Int)
        · have E := Lib.hid (HF.out h0.out hf)
          go_wp2_with fail
          go_ret2
          exact ⟨by rw [E.out]; rfl, hbel.out⟩
        · have hf' : (a : Int) ≤ (L.length : Int) := by omega
          have E := Lib.hid (HO.out h0.out hf')
          clear hf
          go_wp2_with fail
          go_ret2
          exact ⟨by rw [E.out]; rfl, hbel.out⟩

end Go.Proofs.Ytemcjnbgcecinaa

/- What the library's strings.Clone answers: the same bytes; no condition but the range. -/
namespace Go.Proofs.Ytemcjnbgcecinaa
open Go.RowKit

set_option maxHeartbeats 4000000 in
set_option maxRecDepth 100000 in
theorem clone_in (s : ByteArray) (w : World) (hlim : s.size ≤ 281474976710656) :
    Calls Try.prog 75 #[.string s] w fun e w' => e = .returned (.string s) ∧ Below w.heap.size w w' := by
  by_cases h0 : s.size = 0
  · have hs : s = ⟨#[]⟩ := by
      apply ByteArray.ext
      exact Array.eq_empty_of_size_eq_zero h0
    subst hs
    go_enter Try.func75, Try.ntmps75
    go_wp2
    go_ret
    exact ⟨rfl, Below.refl _ _⟩
  · obtain ⟨i0, hi, hz0, hz1, hz2⟩ := info_parts Try.infoU8
    have hinfo : (Try.prog.info? 5).map (·.size) = some 1 := by rw [hi]; simp [hz1]
    have hco : Try.prog.cellsOf 5 = 1 := by simp [Program.cellsOf, hi, hz1]
    obtain ⟨M, hM⟩ : ∃ M, M = madeCells (Value.int .u8 0).cells (((s.size : Nat) : Int).toNat * i0.size) := ⟨_, rfl⟩
    have hMs : M.size = s.size := by rw [hM, size_madeCells, hz1]; simp
    have hmk : ∀ W : World, (Instr.makeSlice 48 (.int .i64 (s.size : Int)) (.int .i64 (s.size : Int))).run Try.prog W = .ok (.slice (some ⟨W.heap.size, 0, none⟩) s.size s.size) (W.alloc (.cells M 5)) := fun W => by
      have h := run_make (P := Try.prog) W 48 5 i0 (.int .u8 0) Try.underlying48 hi hz0 .i64 .i64 (s.size : Int) (s.size : Int) (by omega) (by omega) (by rw [hz2]; omega) (by omega)
      rw [← hM] at h
      simpa using h
    clear hM
    have hcp := Lib.run_copy_row_string (P := Try.prog) (w.alloc (.cells M 5)) 48 9 3 5 w.heap.size 0 s.size s.size s M 5 Try.underlying48 hinfo (heap_alloc_new w _) (Nat.le_refl _) (by omega)
    obtain ⟨Y, hY⟩ : ∃ Y, Y = (M.toList.take 0 ++ Lib.byteCells s.data.toList ++ M.toList.drop (0 + s.size)).toArray := ⟨_, rfl⟩
    rw [← hY] at hcp
    have hYl : Y.toList = Lib.byteCells s.data.toList := by
      rw [hY, List.toList_toArray, List.take_zero, List.nil_append, List.drop_of_length_le (by rw [Array.length_toList]; omega), List.append_nil]
    have hYs : Y.size = s.size := by rw [← Array.length_toList, hYl, Lib.byteCells_length, ← Lib.size_eq]
    have hgY : ((w.alloc (.cells M 5)).setRow w.heap.size Y).heap[w.heap.size]? = some (.cells Y 5 (0, 0)) := setRow_heap _ _ M _ 5 (0, 0) (heap_alloc_new w _)
    have hne : s.data.toList ≠ [] := fun e => h0 (by rw [Lib.size_eq, e]; rfl)
    have hUS := Lib.run_unsafeString_row (P := Try.prog) ((w.alloc (.cells M 5)).setRow w.heap.size Y) 118 3 9 5 Try.underlying118 hco w.heap.size Y.size (by unfold World.shape?; rw [hgY]) s.data.toList hne (by rw [← Lib.size_eq]; omega) (by rw [← Lib.size_eq]; omega)
      (fun j x hx => Lib.cells_of_row hgY Y.size j _ (by rw [List.take_of_length_le (by rw [Array.length_toList]; exact Nat.le_refl _), hYl]; simp [Lib.byteCells, hx]))
    rw [← Lib.size_eq] at hUS
    clear hY
    go_enter Try.func75, Try.ntmps75
    go_wp2
    go_ret
    have hb1 : Below w.heap.size w (w.alloc (.cells M 5)) := (Below.refl _ w).alloc (Nat.le_refl _) _
    have hb2 : Below w.heap.size (w.alloc (.cells M 5)) ((w.alloc (.cells M 5)).setRow w.heap.size Y) := ⟨rfl, rfl, rfl, by simp, fun k hk => setRow_other _ _ _ _ (by omega)⟩
    exact ⟨rfl, Lib.below_freeze (hb1.trans hb2) (p := ⟨w.heap.size, 0, none⟩) (Nat.le_refl _) _⟩

set_option maxHeartbeats 1000000 in
theorem clone_any (s : ByteArray) (w : World) (hlim : s.size ≤ 281474976710656) :
    Calls Try.prog 47 #[.string s] w fun e w' => e = .returned (.string s) ∧ Below w.heap.size w w' := by
  go_enter Try.func47, Try.ntmps47
  go_wp2_with fail
  refine (clone_in s _ hlim).mono ?_
  rintro e w' ⟨rfl, hb⟩
  go_wp2_with fail
  go_ret
  exact ⟨rfl, hb⟩

end Go.Proofs.Ytemcjnbgcecinaa

/- What the landed package mend's maker mixes; contracts; no condition but the range. -/
namespace Go.Proofs.Ytemcjnbgcecinaa
open Go.RowKit

/-- a maker stands in block p -/
structure MkAt (W : World) (p fb mb k m : Nat) (A : Option Addr) (c : Nat) (L : List (Int × ByteArray)) (G R : ByteArray) : Prop where
  fld : FieldAt W fb
  blk : W.heap[p]? = some (.cells #[.pointer (some ⟨fb, 0, none⟩), .int .i64 ((k : Int) + (m : Int)), .int .i64 (k : Int), .string G, .int .i64 (k : Int), .int .i64 (k : Int), .string R, .slice A k c, .map (some mb)] 73 (0, 0))
  map : MapAt W mb k (plF L k)
  sh : ShardsAt W A L

section
variable {W W' : World} {p fb mb k m c : Nat} {A : Option Addr} {L : List (Int × ByteArray)} {G R : ByteArray}

theorem MkAt.below (h : MkAt W p fb mb k m A c L G R) (hb : Below W.heap.size W W') : MkAt W' p fb mb k m A c L G R :=
  ⟨h.fld.below hb h.fld.lt, (hb.block p (Array.getElem?_eq_some_iff.1 h.blk).1).trans h.blk, h.map.below hb, h.sh.below hb⟩

theorem MkAt.lt (h : MkAt W p fb mb k m A c L G R) : p < W.heap.size := (Array.getElem?_eq_some_iff.1 h.blk).1

theorem MkAt.cells (h : MkAt W p fb mb k m A c L G R) : W.cell? ⟨p, 0, none⟩ = some (.pointer (some ⟨fb, 0, none⟩)) ∧ (W.cell? ⟨p, 1, none⟩ = some (.int .i64 ((k : Int) + (m : Int))) ∧ W.cell? ⟨p, 2, none⟩ = some (.int .i64 (k : Int)) ∧ W.cell? ⟨p, 3, none⟩ = some (.string G)) ∧
    (W.cell? ⟨p, 4, none⟩ = some (.int .i64 (k : Int)) ∧ W.cell? ⟨p, 5, none⟩ = some (.int .i64 (k : Int)) ∧ W.cell? ⟨p, 6, none⟩ = some (.string R)) ∧ W.cell? ⟨p, 7, none⟩ = some (.slice A k c) ∧ W.cell? ⟨p, 8, none⟩ = some (.map (some mb)) :=
  ⟨blk_cell h.blk rfl, ⟨blk_cell h.blk rfl, blk_cell h.blk rfl, blk_cell h.blk rfl⟩, ⟨blk_cell h.blk rfl, blk_cell h.blk rfl, blk_cell h.blk rfl⟩, blk_cell h.blk rfl, blk_cell h.blk rfl⟩

end

/-- a row of factors -/
def facG (F : ByteArray) (_ x : Nat) : UInt8 := byteAt F x

set_option maxRecDepth 20000 in
set_option maxHeartbeats 4000000 in
theorem mmix_any (p fb mb k m n c : Nat) (A : Option Addr) (L : List (Int × ByteArray)) (G R F : ByteArray) (w : World) (hE : MkAt w p fb mb k m A c L G R) (hk : 1 ≤ k) (hk2 : k ≤ 255) (hL : k ≤ L.length)
    (hs : ∀ i, i < k → (sS L i).size = n) (hn : n ≤ 100000) (hF : F.size = k) :
    Calls Try.prog 48 #[.pointer (some ⟨p, 0, none⟩), .string F] w fun e w' => e = .returned (.string (undS k (facG F) (haveL k L) n 0)) ∧ Below w.heap.size w w' := by
  obtain ⟨i1, hi', hz0', hz1', hz2'⟩ := info_parts Try.infoU8
  have HE := Lib.hid hE
  have HS := Lib.hid hs
  have HFs := Lib.hid hF
  obtain ⟨ad, rfl, hab, hcl⟩ := hE.sh (by omega)
  obtain ⟨_, _, _, c7, _⟩ := hE.cells
  obtain ⟨y1, y2⟩ := hcl 0 (by omega)
  rw [Nat.zero_mul, add_zero'] at y1
  have y3 : w.cell? ⟨ad.block, ad.off + 1, none⟩ = some (.string (sS L 0)) := by rw [add_first]; rwa [Nat.zero_mul, Nat.zero_add] at y2
  have hk0 : Hid ((sS L 0).size = n) := hs 0 (by omega)
  have p0 : (0 : Int) < (k : Int) := by omega
  clear hcl y2 hs hE
  go_enter Try.func48, Try.ntmps48
  go_upto_region 2 with (at_make; refine wpList_make_full _ rfl (.tmp 17) (.tmp 17) 48 rfl w.heap.size 5 i1 (.int .u8 0) 1 Try.underlying48 hi' hz0' hz1' .i64 .i64 _ _ n rfl rfl (by rw [hk0.out]) (by rw [hk0.out]) (by rw [hz2']; omega) (by unfold maxLen; omega) (by simp) ?_; intro w1 hown hgrow)
  have hCB : Cel w1 w.heap.size 5 (Lib.byteCells (rowJ (facG F) (haveL k L) n 0 0 0)) := by
    rw [Nat.mul_one, show (Value.int .u8 0).cells = #[.int .u8 0] from rfl, toList_madeCells_one] at hown
    have := owns_blk0 hown
    rw [← rowJ_zero]
    unfold Cel Lib.byteCells
    rw [List.map_replicate]
    exact this
  have CB := Lib.hid hCB
  have B1 : Hid (Below w.heap.size w w1) := (Below.refl _ _).grown hgrow (Nat.le_refl _) (fun k hk => by cases hk)
  have E1 := Lib.hid (HE.out.below B1.out)
  obtain ⟨_, _, _, d7, _⟩ := E1.out.cells
  clear hown hgrow hCB c7 y1 y3
  go_wp2_with fail
  clear d7
  generalize hob : w.heap.size = ob at CB B1 ⊢
  have HOB := Lib.hid hob
  clear hob
  go_loopw [24] (fun x wr => ∃ j : Nat, j ≤ k ∧ x = .int .i64 (j : Int) ∧ Hid (Cel wr ob 5 (Lib.byteCells (rowJ (facG F) (haveL k L) n 0 j 0))) ∧ Hid (Below ob w wr)) (fun x _ => k - (intOf x).toNat)
  case atStart => exact ⟨0, by omega, rfl, CB.out, B1.out⟩
  case round =>
    obtain ⟨j, hj, rfl, hcel, hbel⟩ := hrel
    clear CB B1 E1
    by_cases hlt : j < k
    · have pj : (j : Int) < (k : Int) := by omega
      have hbw : Below w.heap.size w wr := by rw [HOB.out]; exact hbel.out
      have Er := Lib.hid (HE.out.below hbw)
      obtain ⟨ad', had, hab1, hcl⟩ := Er.out.sh (by omega)
      obtain rfl := Option.some.inj had
      obtain ⟨x1, x2⟩ := hcl j (by omega)
      have x3 : wr.cell? ⟨(ad.add (j * 2)).block, (ad.add (j * 2)).off + 1, none⟩ = some (.string (sS L j)) := by rw [add_field]; exact x2
      clear x2 hcl hbw
      go_wp2_with fail
      clear x1 x3
      obtain ⟨s1, b1⟩ := blk1 wr (.cells #[.int .i64 (sI L j), .string (sS L j)] 50)
      have hb0 : Below wr.heap.size wr (wr.alloc (.cells #[.int .i64 (sI L j), .string (sS L j)] 50)) := (Below.refl _ wr).alloc (Nat.le_refl _) _
      have B2 : Hid (Below ob w (wr.alloc (.cells #[.int .i64 (sI L j), .string (sS L j)] 50))) := hbel.out.trans (hb0.mono (by have := hcel.out.lt; omega))
      have E2 := Lib.hid (Er.out.below hb0)
      have C2 := Lib.hid (hcel.out.below hb0)
      clear hb0
      generalize wr.alloc (.cells #[.int .i64 (sI L j), .string (sS L j)] 50) = W at s1 b1 B2 E2 C2 ⊢
      obtain ⟨d0, _, _, _, _⟩ := E2.out.cells
      have z1 := blk_cell (j := 0) b1 rfl
      have z2 := blk_cell (j := 1) b1 rfl
      generalize wr.heap.size = g at s1 b1 z1 z2 ⊢
      clear b1
      have hix : ∀ W, (Instr.index 9 (.string F) (.int .i64 (j : Int))).run Try.prog W = .ok (.int .u8 ((byteAt F j).toNat : Int)) W := fun W => by
        rw [run_index_string W 9 F .i64 _ Try.underlying9, dif_pos (by have := HFs.out; omega)]
        have hj' : j < F.data.size := by have := HFs.out; exact (by omega : j < F.size)
        unfold byteAt
        rw [Array.getElem?_eq_getElem hj', Option.getD_some]
        rfl
      have HSc := Lib.hid (fun W h => scale_any fb (byteAt F j).toNat (sS L j) W h (GfU.toNat_le _) (by rw [HS.out j hlt]; omega))
      refine wp_region_quiet_tail 9 (by kernel_rfl) (by kernel_rfl) ?_
      simp only [List.take_succ_cons, List.take_zero, List.drop_succ_cons, List.drop_zero]
      repeat (go_big_quiet_step (fail))
      refine wpQuiet_nil ?_
      intro d
      go_wp2_with fail
      refine (HSc.out (W.drewN d) (E2.out.fld.drewN d)).mono ?_
      rintro e w3 ⟨rfl, hb⟩
      have hbW : Below W.heap.size W w3 := by have := (below_drewN (Below.refl W.heap.size W) d).trans (hb.mono (by simp)); exact this
      have B3 := Lib.hid (B2.out.trans (hbW.mono (by have := C2.out.lt; omega)))
      have C3 := Lib.hid (C2.out.below hbW)
      obtain ⟨sc, hsc⟩ : ∃ sc : ByteArray, sc = ⟨(scl (byteAt F j).toNat (sS L j)).toArray⟩ := ⟨_, rfl⟩
      have hscs : sc.size = n := by
        rw [hsc]
        show (scl (byteAt F j).toNat (sS L j)).toArray.size = n
        rw [List.size_toArray, scl_length, HS.out j hlt]
      have hscv : ∀ q (h : q < sc.size), ((accB (facG F) (haveL k L) j 0 q).toNat ^^^ (sc[q]'h).toNat) = (accB (facG F) (haveL k L) (j + 1) 0 q).toNat := fun q h => by
        subst hsc
        have hp : q < (sS L j).size := by rw [HS.out j hlt]; rw [hscs] at h; exact h
        have e1 : ((⟨(scl (byteAt F j).toNat (sS L j)).toArray⟩ : ByteArray)[q]'h) = (scl (byteAt F j).toNat (sS L j))[q]'(by rw [scl_length]; exact hp) := rfl
        rw [e1, scl_at _ _ _ hp]
        unfold accB
        rw [GfU.sum_succ, UInt8.toNat_xor, GfU.ml_toNat, haveL_at k L j hlt, ← byteAt_get _ _ hp]
        rfl
      have HScs := Lib.hid hscs
      have HScv := Lib.hid hscv
      rw [← hsc]
      clear hsc hscs hscv hix HSc hcel hbel hb hbW B2 C2 E2 Er d0 z1 z2
      go_wp2_with fail
      go_loopw [41] (fun x wr => ∃ q : Nat, q ≤ n ∧ x = .int .i64 (q : Int) ∧ Hid (Cel wr ob 5 (Lib.byteCells (rowJ (facG F) (haveL k L) n 0 j q))) ∧ Hid (Below ob w wr)) (fun x _ => n - (intOf x).toNat)
      case atStart => exact ⟨0, by omega, rfl, C3.out, B3.out⟩
      case round =>
        obtain ⟨q, hq, rfl, hcel, hbel⟩ := hrel
        clear C3 B3
        by_cases hltq : q < n
        · have pq : (q : Int) < (n : Int) := by omega
          have hps : q < sc.size := by rw [HScs.out]; exact hltq
          have pps : (q : Int) < (sc.size : Int) := by omega
          have hxv := HScv.out q hps
          have x1 := hcel.out.cell (rowJ_at (facG F) (haveL k L) n 0 j q hltq)
          have hset := hcel.out.set (i := q) (v := .int .u8 ((accB (facG F) (haveL k L) (j + 1) 0 q).toNat : Int))
          rw [rowJ_set (facG F) (haveL k L) n 0 j q hltq _ rfl] at hset
          have HSET := Lib.hid hset
          have hfree := hcel.out.free (i := q)
          have ba : (accB (facG F) (haveL k L) j 0 q).toNat ≤ 255 := GfU.toNat_le _
          have bp : (sc[q]'hps).toNat ≤ 255 := GfU.toNat_le _
          have HXV := Lib.hid hxv
          have hixp : ∀ W, (Instr.index 9 (.string sc) (.int .i64 (q : Int))).run Try.prog W = .ok (.int .u8 ((sc[q]'hps).toNat : Int)) W := fun W => by
            rw [run_index_string W 9 sc .i64 _ Try.underlying9, dif_pos (by omega)]
            simp only [Int.toNat_natCast]
          generalize (accB (facG F) (haveL k L) j 0 q).toNat = av at x1 HXV ba
          generalize (sc[q]'hps).toNat = bv at HXV bp hixp
          clear hxv hset
          go_wp2_with fail
          refine wp_region_quiet_tail 11 (by kernel_rfl) (by kernel_rfl) ?_
          simp only [List.take_succ_cons, List.take_zero, List.drop_succ_cons, List.drop_zero]
          repeat (go_big_quiet_step ((go_at_call 77; exact Calls.quiet_of_same (add_in av bv _ ba bp))))
          refine wpQuiet_nil ?_
          intro d
          rw [HXV.out]
          go_wp2_with fail
          go_roundw
          case rel => exact ⟨q + 1, by omega, by go_num, HSET.out.drewN d, below_drewN (hbel.out.setCell (Nat.le_refl _) _) d⟩
          case measure => simp [intOf]; omega
        · obtain rfl : q = n := by omega
          have hcel2 : Hid (Cel wr ob 5 (Lib.byteCells (rowJ (facG F) (haveL k L) q 0 (j + 1) 0))) := by
            have h := hcel.out; rw [rowJ_end] at h; exact h
          clear hcel
          go_wp2_with fail
          go_roundw
          case rel => exact ⟨j + 1, by omega, by go_num, hcel2.out, hbel.out⟩
          case measure => simp [intOf]; omega
    · obtain rfl : j = k := by omega
      have hcv := bytes_string hcel.out 0 n n (by rw [rowJ_len]; omega)
      rw [List.drop_zero, List.take_of_length_le (by rw [rowJ_len]; exact Nat.le_refl _), rowJ_last] at hcv
      clear hcel
      go_wp2_with fail
      go_ret
      exact ⟨rfl, by rw [HOB.out]; exact hbel.out⟩

end Go.Proofs.Ytemcjnbgcecinaa

/- What the landed package mend's maker answers of a shard; contracts; no condition but the range. -/
namespace Go.Proofs.Ytemcjnbgcecinaa
open Go.RowKit

/-- one row that is picked -/
def rowG (k : Nat) (G : ByteArray) (i : Nat) : ByteArray := ⟨(tabL 1 k fun _ j => cel G k i j).toArray⟩

theorem pick_one {r k i : Nat} {G : ByteArray} (h : i < r) : pickAns r k G [(i : Int)] = .tuple #[.agg #[.int .i64 1, .int .i64 (k : Int), .string (rowG k G i)], .int .i64 0] := by
  have e : tabL 1 k (pickF [(i : Int)] (cel G k)) = tabL 1 k fun _ j => cel G k i j := tab_congr 1 k fun a b ha hb => by
    obtain rfl : a = 0 := by omega
    simp [pickF]
  unfold pickAns rowG
  rw [if_pos (fun j hj => by simp at hj; subst hj; simp; omega), if_neg (by simp), if_neg (by simp), ← e]
  rfl

theorem matAt_row' {W : World} {p : Nat} {r c : Int} {s : ByteArray} {old : Array Value} (h : W.heap[p]? = some (.cells old 59 (0, 0))) :
    MatAt (W.setRow p #[.int .i64 r, .int .i64 c, .string s]) p r c s :=
  have h' := setRow_heap W p old #[.int .i64 r, .int .i64 c, .string s] 59 (0, 0) h
  ⟨blk_cell h' rfl, blk_cell h' rfl, blk_cell h' rfl, (Array.getElem?_eq_some_iff.1 h').1⟩

theorem below_row' {B p : Nat} {w W : World} (h : Below B w W) (hp : B ≤ p) (cs : Array Value) : Below B w (W.setRow p cs) :=
  h.trans ⟨rfl, rfl, rfl, by simp [World.setRow], fun k hk => setRow_other _ _ _ _ (by omega)⟩

/-- the factors of a shard -/
def facS (k : Nat) (G R : ByteArray) (i : Nat) : ByteArray := ⟨(tabL 1 k (timesF k k (rowG k G i) R)).toArray⟩

theorem facS_size (k : Nat) (G R : ByteArray) (i : Nat) : (facS k G R i).size = k := by
  unfold facS
  rw [size_tab, Nat.one_mul]

theorem facS_at (k : Nat) (G R : ByteArray) (i x : Nat) (hx : x < k) : byteAt (facS k G R i) x = GfU.mm k (fun a b => cel G k a b) (cel R k) i x := by
  have h := cel_tab 1 k (timesF k k (rowG k G i) R) 0 x (by omega) hx
  unfold cel at h
  rw [Nat.zero_mul, Nat.zero_add] at h
  unfold byteAt facS
  rw [h]
  unfold timesF GfU.mm
  exact GfU.sum_congr k fun y hy => by rw [show cel (rowG k G i) k 0 y = cel G k i y from cel_tab 1 k _ 0 y (by omega) hy]

theorem alloc_kept {w w5 : World} {x y z : Value} {T : TypeId} (hb : Below (w.alloc (.cells #[x, y, z] T)).heap.size (w.alloc (.cells #[x, y, z] T)) w5) :
    w5.cell? ⟨w.heap.size, 0, none⟩ = some x ∧ w5.cell? ⟨w.heap.size, 1, none⟩ = some y ∧ w5.cell? ⟨w.heap.size, 2, none⟩ = some z ∧ ∀ o, w5.frozen? ⟨w.heap.size, o, none⟩ = false := by
  have h := (hb.block w.heap.size (by simp)).trans (heap_alloc_new w _)
  exact ⟨blk_cell h rfl, blk_cell h rfl, blk_cell h rfl, blk_free h⟩

theorem use_alloc {w w5 : World} {x y z : Value} {T : TypeId} {P : Prop} (h : Hid (Below w.heap.size w w5) → w5.cell? ⟨w.heap.size, 0, none⟩ = some x → w5.cell? ⟨w.heap.size, 1, none⟩ = some y → w5.cell? ⟨w.heap.size, 2, none⟩ = some z → (∀ o, w5.frozen? ⟨w.heap.size, o, none⟩ = false) → P) :
    Below (w.drew.alloc (.cells #[x, y, z] T)).heap.size (w.drew.alloc (.cells #[x, y, z] T)) w5 → P := fun hb => by
  obtain ⟨h1, h2, h3, h4⟩ := alloc_kept (w := w.drew) hb
  exact h ((below_drewN (Below.refl w.heap.size w) 1).trans (below_new hb)) h1 h2 h3 h4

set_option maxRecDepth 20000 in
set_option maxHeartbeats 4000000 in
theorem mfactors_any (p fb mb k m c i : Nat) (A : Option Addr) (L : List (Int × ByteArray)) (G R : ByteArray) (w : World) (hE : MkAt w p fb mb k m A c L G R) (hk : 1 ≤ k) (hk2 : k + m ≤ 255) (hi : i < k + m)
    (hG : G.size = (k + m) * k) (hR : R.size = k * k) :
    Calls Try.prog 49 #[.pointer (some ⟨p, 0, none⟩), .int .i64 (i : Int)] w fun e w' => e = .returned (.string (facS k G R i)) ∧ Below w.heap.size w w' := by
  have HE := Lib.hid hE
  obtain ⟨_, ⟨c1, c2, c3⟩, _, _, _⟩ := hE.cells
  have HPk := Lib.hid (fun a cap W ha hL => pick_some (k + m) k G a cap [(i : Int)] W (by omega) hk2 hk (by omega) hG ha hL (by simp))
  rw [pick_one hi, Int.natCast_add] at HPk
  have HMl := Lib.hid (fun W => mul_yes 1 k k (rowG k G i) R W (by omega) (by omega) hk (by omega) hk (by omega) (by unfold rowG; rw [size_tab]) hR)
  clear hE hG hR
  go_enter Try.func49, Try.ntmps49
  go_wp2_with fail
  refine (HPk.out ⟨w.heap.size, 0, none⟩ 1 _ (by simp) (fun j hj => by
    obtain rfl : j = 0 := by simpa using hj
    rw [add_zero']
    exact World.cell?_alloc_new _ _ _ _)).mono ?_
  rintro e w1 ⟨rfl, hb⟩
  have hb1 := below_new hb
  have B1 := Lib.hid hb1
  have E1 := Lib.hid (HE.out.below hb1)
  clear hb hb1 c1 c2 c3 HPk
  go_upto_region 2 with fail
  have M2 := Lib.hid (matAt_new w1 1 (k : Int) (rowG k G i) 59)
  have hb2 : Below w1.heap.size w1 (w1.alloc (.cells #[.int .i64 1, .int .i64 (k : Int), .string (rowG k G i)] 59)) := (Below.refl _ w1).alloc (Nat.le_refl _) _
  have B2 := Lib.hid (B1.out.trans (hb2.mono B1.out.size))
  have E2 := Lib.hid (E1.out.below hb2)
  generalize (w1.alloc (.cells #[.int .i64 1, .int .i64 (k : Int), .string (rowG k G i)] 59)) = w2 at M2 B2 E2 ⊢
  generalize w1.heap.size = q at M2 ⊢
  clear hb2 B1 E1
  obtain ⟨m0, m1, m2, _⟩ := M2.out
  obtain ⟨_, _, ⟨d4, d5, d6⟩, _, _⟩ := E2.out.cells
  have n0 := World.new_ne w2 _ m0
  have n1 := World.new_ne w2 _ d4
  have b0 := World.block_lt_of_cell? w2 _ m0
  have b1 := World.block_lt_of_cell? w2 _ d4
  simp only at n0 n1 b0 b1
  go_region_with ((go_at_call 78; refine (HMl.out _).mono ?_; rintro e w5 ⟨rfl, hb5⟩; revert hb5; (first | (refine use_alloc (w := w2) ?_; intro B5 z0 z1 z2 zf) | (intro hb5; have B5 := Lib.hid hb5; clear hb5))))
  all_goals go_wp2_with fail
  all_goals go_ret
  all_goals first
    | exact ⟨rfl, B2.out.trans ((((below_drewN (Below.refl w2.heap.size w2) 1).trans B5.out).alloc (by have := B5.out.size; simpa using this) _).mono B2.out.size)⟩
    | exact ⟨rfl, B2.out.trans ((below_agg3 B5.out (Nat.le_refl _) _ _ _).mono B2.out.size)⟩
    | trace_state

end Go.Proofs.Ytemcjnbgcecinaa

/- The table of rows by which the landed package inverts: how it lies in memory, and what its methods on one row do; no condition but the range. -/
namespace Go.Proofs.Ytemcjnbgcecinaa
open Go.RowKit

/-- a row of m bytes; the headers of n rows -/
def rowA (m : Nat) (x : Nat → UInt8) : Array Value := ((List.range m).map fun j => Value.int .u8 ((x j).toNat : Int)).toArray

def hdrA (n m : Nat) (g : Nat → Nat) : Array Value := ((List.range n).map fun i => Value.slice (some ⟨g i, 0, none⟩) m m).toArray

theorem rowA_size (m : Nat) (x : Nat → UInt8) : (rowA m x).size = m := by simp [rowA]

theorem rowA_at (m : Nat) (x : Nat → UInt8) (j : Nat) (h : j < m) : (rowA m x)[j]? = some (.int .u8 ((x j).toNat : Int)) := by simp [rowA, h]

theorem hdrA_at (n m : Nat) (g : Nat → Nat) (i : Nat) (h : i < n) : (hdrA n m g)[i]? = some (.slice (some ⟨g i, 0, none⟩) m m) := by simp [hdrA, h]

theorem rowA_congr (m : Nat) {x y : Nat → UInt8} (h : ∀ j, j < m → x j = y j) : rowA m x = rowA m y := by
  unfold rowA
  rw [List.map_congr_left fun j hj => by rw [h j (List.mem_range.1 hj)]]

theorem rowA_set (m : Nat) (x y : Nat → UInt8) (k : Nat) (hk : k < m) (h : ∀ j, j < m → j ≠ k → y j = x j) (v : Int) (hv : v = ((y k).toNat : Int)) : (rowA m x).setIfInBounds k (.int .u8 v) = rowA m y := by
  subst hv
  apply Array.ext_getElem?
  intro p
  rw [Array.getElem?_setIfInBounds, rowA_size]
  by_cases e : k = p
  · subst e; rw [if_pos rfl, if_pos hk, rowA_at m y k hk]
  · rw [if_neg e]
    by_cases hp : p < m
    · rw [rowA_at m x p hp, rowA_at m y p hp, h p hp (fun z => e z.symm)]
    · rw [Array.getElem?_eq_none (by rw [rowA_size]; omega), Array.getElem?_eq_none (by rw [rowA_size]; omega)]

/-- the table stands: its struct in block tp, the field in B, the headers in rb, row i in g i, all rows from block H on -/
structure Tab (H : Nat) (w : World) (tp B rb n : Nat) (g : Nat → Nat) (X : Nat → Nat → UInt8) : Prop where
  tc : w.heap[tp]? = some (.cells #[.pointer (some ⟨B, 0, none⟩), .slice (some ⟨rb, 0, none⟩) n n] 113 (0, 0))
  fl : w.heap[B]? = some (.cells (Cf 255) 94 (0, 0))
  rc : w.heap[rb]? = some (.cells (hdrA n (2 * n) g) 48 (0, 0))
  row : ∀ i, i < n → w.heap[g i]? = some (.cells (rowA (2 * n) (X i)) 5 (0, 0))
  inj : ∀ i j, i < n → j < n → g i = g j → i = j
  lo : H ≤ rb ∧ ∀ i, i < n → H ≤ g i

variable {H tp B rb n : Nat} {g : Nat → Nat} {X Y : Nat → Nat → UInt8} {w w' : World}

theorem heap_lt {o : Obj} {b : Nat} (h : w.heap[b]? = some o) : b < w.heap.size := (Array.getElem?_eq_some_iff.1 h).1

theorem Tab.below (h : Tab H w tp B rb n g X) (hb : Below w.heap.size w w') : Tab H w' tp B rb n g X :=
  ⟨(hb.block _ (heap_lt h.tc)).trans h.tc, (hb.block _ (heap_lt h.fl)).trans h.fl, (hb.block _ (heap_lt h.rc)).trans h.rc, fun i hi => (hb.block _ (heap_lt (h.row i hi))).trans (h.row i hi), h.inj, h.lo⟩

theorem Tab.drewN (h : Tab H w tp B rb n g X) (d : Nat) : Tab H (w.drewN d) tp B rb n g X := ⟨h.tc, h.fl, h.rc, h.row, h.inj, h.lo⟩

theorem Tab.drew (h : Tab H w tp B rb n g X) : Tab H w.drew tp B rb n g X := ⟨h.tc, h.fl, h.rc, h.row, h.inj, h.lo⟩

theorem Tab.congr (h : Tab H w tp B rb n g X) (e : ∀ i j, i < n → j < 2 * n → Y i j = X i j) : Tab H w tp B rb n g Y :=
  ⟨h.tc, h.fl, h.rc, fun i hi => by rw [rowA_congr (2 * n) (x := Y i) (y := X i) fun j hj => e i j hi hj]; exact h.row i hi, h.inj, h.lo⟩

theorem Tab.field (h : Tab H w tp B rb n g X) : FieldAt w B := fieldAt_blk h.fl

theorem Tab.t0 (h : Tab H w tp B rb n g X) : w.cell? ⟨tp, 0, none⟩ = some (.pointer (some ⟨B, 0, none⟩)) := blk_cell h.tc rfl

theorem Tab.t1 (h : Tab H w tp B rb n g X) : w.cell? ⟨tp, 1, none⟩ = some (.slice (some ⟨rb, 0, none⟩) n n) := blk_cell h.tc rfl

theorem Tab.hd (h : Tab H w tp B rb n g X) (i : Nat) (hi : i < n) : w.cell? ⟨rb, i, none⟩ = some (.slice (some ⟨g i, 0, none⟩) (2 * n) (2 * n)) := blk_cell h.rc (hdrA_at n (2 * n) g i hi)

theorem Tab.at (h : Tab H w tp B rb n g X) (i j : Nat) (hi : i < n) (hj : j < 2 * n) : w.cell? ⟨g i, j, none⟩ = some (.int .u8 ((X i j).toNat : Int)) := blk_cell (h.row i hi) (rowA_at (2 * n) (X i) j hj)

/-- one row turned -/
theorem Tab.turn (h : Tab H w tp B rb n g X) (r : Nat) (hr : r < n) (hk : ∀ b, b ≠ g r → b < w.heap.size → w'.heap[b]? = w.heap[b]?) (hn : w'.heap[g r]? = some (.cells (rowA (2 * n) (Y r)) 5 (0, 0))) (he : ∀ i j, i < n → i ≠ r → j < 2 * n → Y i j = X i j) : Tab H w' tp B rb n g Y := by
  have hne : ∀ {b : Nat} {cs : Array Value} {T : TypeId}, w.heap[b]? = some (.cells cs T (0, 0)) → T ≠ 5 → b ≠ g r := by
    intro b cs T hb hT e
    rw [e, h.row r hr] at hb
    injection hb with hb
    injection hb with _ hb _
    exact hT hb.symm
  refine ⟨(hk _ (hne h.tc (by decide)) (heap_lt h.tc)).trans h.tc, (hk _ (hne h.fl (by decide)) (heap_lt h.fl)).trans h.fl, (hk _ (hne h.rc (by decide)) (heap_lt h.rc)).trans h.rc, ?_, h.inj, h.lo⟩
  intro i hi
  by_cases e : i = r
  · subst e; exact hn
  · rw [hk _ (fun z => e (h.inj i r hi hr z)) (heap_lt (h.row i hi)), h.row i hi, rowA_congr (2 * n) (x := Y i) (y := X i) fun j hj => he i j hi e hj]

theorem Tab.store (h : Tab H w tp B rb n g X) (r k : Nat) (hr : r < n) (hk : k < 2 * n) (v : Int) (hv : v = ((Y r k).toNat : Int)) (he : ∀ i j, i < n → j < 2 * n → (i ≠ r ∨ j ≠ k) → Y i j = X i j) : Tab H (w.setCell ⟨g r, k, none⟩ (.int .u8 v)) tp B rb n g Y := by
  refine h.turn r hr (fun b hb _ => heap_setCell_other _ _ _ _ hb) ?_ (fun i j hi hir hj => he i j hi hj (.inl hir))
  rw [heap_setCell_same _ _ _ _ _ _ (h.row r hr), rowA_set (2 * n) (X r) (Y r) k hk (fun j hj hjk => he r j hr hj (.inr hjk)) v hv]

set_option maxRecDepth 20000 in
set_option maxHeartbeats 1000000 in
theorem leads_yes (i c : Nat) (h : Tab H w tp B rb n g X) (hi : i < n) (hc : c < n) (_hn : n ≤ 255) (hx : X i c ≠ 0) :
    Calls Try.prog 88 #[.pointer (some ⟨tp, 0, none⟩), .int .i64 (i : Int), .int .i64 (c : Int)] w fun e w' => e = .returned (.bool true) ∧ w' = w := by
  have c1 := h.t1
  have c2 := h.hd i hi
  have c3 := h.at i c hi (by omega)
  have p1 : (i : Int) < (n : Int) := by omega
  have p2 : (c : Int) < 2 * (n : Int) := by omega
  have t : (((X i c).toNat : Int) != 0) = true := by have := GfU.ne_zero.1 hx; simp; omega
  clear hx h
  go_enter Try.func88, Try.ntmps88
  go_wp2
  go_ret
  exact ⟨rfl, rfl⟩

set_option maxRecDepth 20000 in
set_option maxHeartbeats 1000000 in
theorem leads_no (i c : Nat) (h : Tab H w tp B rb n g X) (hi : i < n) (hc : c < n) (_hn : n ≤ 255) (hx : X i c = 0) :
    Calls Try.prog 88 #[.pointer (some ⟨tp, 0, none⟩), .int .i64 (i : Int), .int .i64 (c : Int)] w fun e w' => e = .returned (.bool false) ∧ w' = w := by
  have c1 := h.t1
  have c2 := h.hd i hi
  have c3 := h.at i c hi (by omega)
  have p1 : (i : Int) < (n : Int) := by omega
  have p2 : (c : Int) < 2 * (n : Int) := by omega
  have e0 : ((X i c).toNat : Int) = 0 := by rw [hx]; rfl
  rw [e0] at c3
  clear hx h e0
  go_enter Try.func88, Try.ntmps88
  go_wp2
  go_ret
  exact ⟨rfl, rfl⟩

set_option maxRecDepth 20000 in
set_option maxHeartbeats 1000000 in
theorem beside_any (i j : Nat) (h : Tab H w tp B rb n g X) (hi : i < n) (hj : j < n) (hn : n ≤ 255) :
    Calls Try.prog 74 #[.pointer (some ⟨tp, 0, none⟩), .int .i64 (i : Int), .int .i64 (j : Int)] w fun e w' => e = .returned (.int .u8 ((X i (n + j)).toNat : Int)) ∧ Below w.heap.size w w' := by
  have c1 := h.t1
  have c2 := h.hd i hi
  have c3 := h.at i (n + j) hi (by omega)
  have p1 : (i : Int) < (n : Int) := by omega
  have p2 : (n : Int) + (j : Int) < 2 * (n : Int) := by omega
  have p3 : ((n : Int) + (j : Int)).toNat = n + j := by omega
  clear h
  go_enter Try.func74, Try.ntmps74
  go_wp2_with fail
  go_quiet (fail)
  go_wp2
  go_ret
  exact ⟨rfl, below_drewN (Below.refl _ _) _⟩

end Go.Proofs.Ytemcjnbgcecinaa
