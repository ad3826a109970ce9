/- Parts of the proof, joined: StRef, MdRef, MdCheck, StRef2, StRef3; their conditions stand with each. -/
import Derived.BigQuiet
import Derived.Deep.QuietTactic
import Derived.DataElems
import Derived.Test.YtemcjnbgcecinaaA6
import Derived.Test.YtemcjnbgcecinaaA8

/- What the document's own answers of layer 3 do: codes, sizes, plain bytes, data shards; no condition but the range. -/
namespace Go.Proofs.Ytemcjnbgcecinaa
open Go.RowKit

set_option maxHeartbeats 1000000 in
theorem rcode_any (k m : Int) (w : World) : Calls Try.prog 29 #[.int .i64 k, .int .i64 m] w fun e w' => e = .returned (.bool (codeB k m)) ∧ w' = w := by
  by_cases h1 : 1 ≤ k
  · by_cases h2 : k ≤ 255
    · by_cases h3 : 0 ≤ m
      · by_cases h4 : m ≤ 255 - k
        · have E := Lib.hid (show codeB k m = true by unfold codeB; simp; omega)
          have hw : IntKind.i64.wrap (255 - k) = 255 - k := i64_wrap (by omega) (by omega)
          go_enter Try.func29, Try.ntmps29
          go_wp2
          go_ret
          exact ⟨by rw [E.out]; rfl, rfl⟩
        · have E := Lib.hid (show codeB k m = false by unfold codeB; simp; omega)
          have h5 : 255 - k < m := by omega
          have hw : IntKind.i64.wrap (255 - k) = 255 - k := i64_wrap (by omega) (by omega)
          go_enter Try.func29, Try.ntmps29
          go_wp2
          go_ret
          exact ⟨by rw [E.out]; rfl, rfl⟩
      · have E := Lib.hid (show codeB k m = false by unfold codeB; simp; omega)
        go_enter Try.func29, Try.ntmps29
        go_wp2
        go_ret
        exact ⟨by rw [E.out]; rfl, rfl⟩
    · have E := Lib.hid (show codeB k m = false by unfold codeB; simp; omega)
      go_enter Try.func29, Try.ntmps29
      go_wp2
      go_ret
      exact ⟨by rw [E.out]; rfl, rfl⟩
  · have E := Lib.hid (show codeB k m = false by unfold codeB; simp; omega)
    go_enter Try.func29, Try.ntmps29
    go_wp2
    go_ret
    exact ⟨by rw [E.out]; rfl, rfl⟩

set_option maxHeartbeats 1000000 in
theorem rSize_any (k n : Int) (w : World) :
    Calls Try.prog 96 #[.int .i64 k, .int .i64 n] w fun e w' => e = .returned (sizeAns k n) ∧ w' = w := by
  cases hc : codeB k 0
  · have E := Lib.hid (show sizeAns k n = .tuple #[.int .i64 0, .int .i64 1] by unfold sizeAns; rw [if_neg (by simp [hc])])
    go_enter Try.func96, Try.ntmps96
    go_wp2_with (go_at_call 29; refine (rcode_any _ _ _).mono ?_; rintro e w' ⟨rfl, rfl⟩)
    go_ret2
    exact ⟨by rw [E.out]; rfl, rfl⟩
  · obtain ⟨a, b, rfl, hb, h1, h2⟩ := codeB_nat hc
    obtain rfl : b = 0 := by omega
    clear hb
    by_cases h3 : 0 ≤ n
    · by_cases h4 : n ≤ 2048
      · obtain ⟨m, rfl⟩ : ∃ m : Nat, n = (m : Int) := ⟨n.toNat, by omega⟩
        have E := Lib.hid (sizeAns_yes h1 (by omega) (show m ≤ 2048 by omega))
        have E3 := Lib.hid (show (4 + (m : Int) + (a : Int) - 1) / (a : Int) = ((St.szN a m : Nat) : Int) by
          unfold St.szN
          rw [Int.natCast_ediv]
          congr 1
          omega)
        have hk : ((a : Int) == 0) = false := by simp; omega
        have e2 : (0 : Int) ≤ 4 + (m : Int) + (a : Int) - 1 := by omega
        have e3 : (1 : Int) ≤ (a : Int) := by omega
        go_enter Try.func96, Try.ntmps96
        go_wp2_with (go_at_call 29; refine (rcode_any _ _ _).mono ?_; rintro e w' ⟨rfl, rfl⟩)
        go_ret2
        exact ⟨by rw [E.out, ← E3.out]; rfl, rfl⟩
      · have E := Lib.hid (show sizeAns a n = .tuple #[.int .i64 0, .int .i64 1] by unfold sizeAns; rw [if_neg (by omega)])
        go_enter Try.func96, Try.ntmps96
        go_wp2_with (go_at_call 29; refine (rcode_any _ _ _).mono ?_; rintro e w' ⟨rfl, rfl⟩)
        go_ret2
        exact ⟨by rw [E.out]; rfl, rfl⟩
    · have E := Lib.hid (show sizeAns a n = .tuple #[.int .i64 0, .int .i64 1] by unfold sizeAns; rw [if_neg (by omega)])
      go_enter Try.func96, Try.ntmps96
      go_wp2_with (go_at_call 29; refine (rcode_any _ _ _).mono ?_; rintro e w' ⟨rfl, rfl⟩)
      go_ret2
      exact ⟨by rw [E.out]; rfl, rfl⟩


theorem plain_obj (k : Nat) (s : ByteArray) (i : Nat) (h : i < s.size) (h2 : 4 + i < (St.plainL k s).length) : (((St.plainL k s)[4 + i]'h2).toNat : Int) = ((s[i]'h).toNat : Int) := by
  have e : (St.plainL k s)[4 + i]? = some (s[i]'h) := by
    unfold St.plainL
    rw [List.append_assoc, List.getElem?_append_right (by rw [St.head_len]; omega), St.head_len, show 4 + i - 4 = i by omega, List.getElem?_append_left (by rw [St.data_len]; exact h)]
    rw [List.getElem?_eq_getElem (by rw [St.data_len]; exact h)]; rfl
  rw [List.getElem?_eq_getElem h2] at e
  rw [Option.some.inj e]

theorem plain_tail (k : Nat) (s : ByteArray) (hk : 1 ≤ k) : preC (St.plainL k s) (4 + s.size) = Lib.byteCells (St.plainL k s) := by
  have hl := St.plain_len hk s
  have hg := St.sz_ge (n := s.size) hk
  have e : (St.plainL k s).take (4 + s.size) = St.headL s.size ++ s.data.toList := by
    unfold St.plainL
    rw [List.take_append_of_le_length (by rw [List.length_append, St.head_len, St.data_len]; exact Nat.le_refl _), List.take_of_length_le (by rw [List.length_append, St.head_len, St.data_len]; exact Nat.le_refl _)]
  unfold preC
  rw [e, hl]
  unfold St.plainL Lib.byteCells
  rw [List.map_append (l₂ := List.replicate _ _), List.map_replicate]
  rfl

set_option maxRecDepth 20000 in
set_option maxHeartbeats 2000000 in
theorem rplain_any (k : Nat) (s : ByteArray) (w : World) (hk : 1 ≤ k) (hk2 : k ≤ 255) (hs : s.size ≤ 2048) :
    Calls Try.prog 84 #[.int .i64 (k : Int), .string s] w fun e w' => e = .returned (.string ⟨(St.plainL k s).toArray⟩) ∧ Below w.heap.size w w' := by
  obtain ⟨i0, hi, hz0, hz1, hz2⟩ := info_parts Try.infoU8
  have hb := St.sz_bound (n := s.size) hk2 hs
  have hg := St.sz_ge (n := s.size) hk
  have hl := St.plain_len hk s
  have hobj := fun i h h2 => plain_obj k s i h h2
  have htail := plain_tail k s hk
  have hbe := fun i h h2 => beN_at k s i h h2
  have HSz := Lib.hid (sizeAns_yes hk hk2 hs)
  generalize St.plainL k s = L at *
  generalize hn : St.szN k s.size = n at *
  obtain ⟨N, hN⟩ : ∃ N, N = k * n := ⟨_, rfl⟩
  rw [← hN] at hb hg hl
  have p3 : (n : Int) * (k : Int) = (N : Int) := by rw [hN, Int.natCast_mul, Int.mul_comm]
  have p1 : (0 : Int) ≤ (n : Int) * (k : Int) := by rw [p3]; omega
  have p2 : (n : Int) * (k : Int) ≤ 2306 := by rw [p3]; omega
  have P3 := Lib.hid p3
  have HL := Lib.hid hl
  have HO := Lib.hid hobj
  have HT := Lib.hid htail
  have HBe := Lib.hid hbe
  have HR := Lib.hid (fun w => rSize_any (k : Int) (s.size : Int) w)
  rw [HSz.out] at HR
  have V0 := Lib.hid (show ((St.beN s.size 0 : Nat) : Int) = (s.size : Int) / 16777216 by unfold St.beN; simp only [Nat.reduceSub, Nat.reducePow]; omega)
  have V1 := Lib.hid (show ((St.beN s.size 1 : Nat) : Int) = (s.size : Int) / 65536 by unfold St.beN; simp only [Nat.reduceSub, Nat.reducePow]; omega)
  have V2 := Lib.hid (show ((St.beN s.size 2 : Nat) : Int) = (s.size : Int) / 256 by unfold St.beN; simp only [Nat.reduceSub, Nat.reducePow]; omega)
  have V3 := Lib.hid (show ((St.beN s.size 3 : Nat) : Int) = (s.size : Int) % 256 by unfold St.beN; simp only [Nat.reduceSub, Nat.pow_zero]; omega)
  have hs2 : (s.size : Int) ≤ 2048 := by omega
  have n0 : (0 : Int) < (N : Int) := by omega
  have n1 : (1 : Int) < (N : Int) := by omega
  have n2 : (2 : Int) < (N : Int) := by omega
  have n3 : (3 : Int) < (N : Int) := by omega
  clear p3 hN hl hobj htail hbe HSz hn
  go_enter Try.func84, Try.ntmps84
  go_wp2_with fail
  refine (HR.out _).mono ?_
  rintro e w1 ⟨rfl, rfl⟩
  go_upto_region 3 with (at_make; refine wpList_make_full _ rfl (.tmp 18) (.tmp 18) 48 rfl w1.heap.size 5 i0 (.int .u8 0) 1 Try.underlying48 hi hz0 hz1 .i64 .i64 _ _ N rfl rfl P3.out P3.out (by rw [hz2]; omega) (by unfold maxLen; omega) (by simp) ?_; intro w2 hown hgrow)
  have C0 : Cel w2 w1.heap.size 5 (preC L 0) := by
    rw [preC_zero L N HL.out] at hown
    exact owns_blk0 hown
  have B2 : Hid (Below w1.heap.size w1 w2) := (Below.refl _ _).grown hgrow (Nat.le_refl _) (fun k hk => by cases hk)
  have next : ∀ (W : World) (i : Nat) (v : Int) (hi : i < 4), Cel W w1.heap.size 5 (preC L i) → v = ((St.beN s.size i : Nat) : Int) → Cel (W.setCell ⟨w1.heap.size, i, none⟩ (.int .u8 v)) w1.heap.size 5 (preC L (i + 1)) := fun W i v hi h hv => by
    have hs := h.set (i := i) (v := .int .u8 v)
    rwa [preC_set L i (by rw [HL.out]; omega) v (by rw [hv]; exact (HBe.out i hi (by rw [HL.out]; omega)).symm)] at hs
  have N1 := Lib.hid next
  have cell4 : ∀ (W : World) (i j : Nat), j < 4 → i ≤ L.length → Cel W w1.heap.size 5 (preC L i) → (∃ v, W.cell? ⟨w1.heap.size, j, none⟩ = some v) ∧ W.frozen? ⟨w1.heap.size, j, none⟩ = false := fun W i j hj hi h => by
    refine ⟨⟨_, h.cell (List.getElem?_eq_getElem (by rw [preC_length L i hi, HL.out]; omega))⟩, h.free⟩
  have K4 := Lib.hid cell4
  clear hown hgrow next cell4
  have C0' := Lib.hid C0
  clear C0
  obtain ⟨⟨v0, c0⟩, f0⟩ := K4.out w2 0 0 (by omega) (by rw [HL.out]; omega) C0'.out
  go_upto_region 4 with fail
  have C1' := Lib.hid (N1.out _ 0 _ (by omega) C0'.out V0.out.symm)
  have B3 : Hid (Below w1.heap.size w1 (w2.setCell ⟨w1.heap.size, 0, none⟩ (.int .u8 ((s.size : Int) / 16777216)))) := B2.out.setCell (Nat.le_refl _) _
  clear C0' c0 f0 B2
  generalize w2.setCell ⟨w1.heap.size, 0, none⟩ (.int .u8 ((s.size : Int) / 16777216)) = w3 at C1' B3 ⊢
  obtain ⟨⟨v1, c1⟩, f1⟩ := K4.out w3 1 1 (by omega) (by rw [HL.out]; omega) C1'.out
  go_upto_region 5 with fail
  have C2' := Lib.hid (N1.out _ 1 _ (by omega) C1'.out V1.out.symm)
  have B4 : Hid (Below w1.heap.size w1 (w3.setCell ⟨w1.heap.size, 1, none⟩ (.int .u8 ((s.size : Int) / 65536)))) := B3.out.setCell (Nat.le_refl _) _
  clear C1' c1 f1 B3
  generalize w3.setCell ⟨w1.heap.size, 1, none⟩ (.int .u8 ((s.size : Int) / 65536)) = w4 at C2' B4 ⊢
  obtain ⟨⟨v2, c2⟩, f2⟩ := K4.out w4 2 2 (by omega) (by rw [HL.out]; omega) C2'.out
  go_upto_region 6 with fail
  have C3' := Lib.hid (N1.out _ 2 _ (by omega) C2'.out V2.out.symm)
  have B5 : Hid (Below w1.heap.size w1 (w4.setCell ⟨w1.heap.size, 2, none⟩ (.int .u8 ((s.size : Int) / 256)))) := B4.out.setCell (Nat.le_refl _) _
  clear C2' c2 f2 B4
  generalize w4.setCell ⟨w1.heap.size, 2, none⟩ (.int .u8 ((s.size : Int) / 256)) = w5 at C3' B5 ⊢
  obtain ⟨⟨v3, c3⟩, f3⟩ := K4.out w5 3 3 (by omega) (by rw [HL.out]; omega) C3'.out
  go_wp2_with fail
  have C4' := Lib.hid (N1.out _ 3 _ (by omega) C3'.out V3.out.symm)
  have B6 : Hid (Below w1.heap.size w1 (w5.setCell ⟨w1.heap.size, 3, none⟩ (.int .u8 ((s.size : Int) % 256)))) := B5.out.setCell (Nat.le_refl _) _
  clear C3' c3 f3 B5
  generalize w5.setCell ⟨w1.heap.size, 3, none⟩ (.int .u8 ((s.size : Int) % 256)) = w6 at C4' B6 ⊢
  go_loopw [8] (fun i wr => ∃ j : Nat, j ≤ s.size ∧ i = .int .i64 (j : Int) ∧ Hid (Cel wr w1.heap.size 5 (preC L (4 + j))) ∧ Hid (Below w1.heap.size w1 wr)) (fun i _ => s.size - (intOf i).toNat)
  case atStart => exact ⟨0, by omega, rfl, C4'.out, B6.out⟩
  case round =>
    obtain ⟨j, hj, rfl, hcel, hbel⟩ := hrel
    clear C4' B6 N1 K4
    by_cases hlt : j < s.size
    · have hjL : 4 + j < L.length := by rw [HL.out]; omega
      have pj : (j : Int) < (s.size : Int) := by omega
      have pj2 : 4 + (j : Int) < (N : Int) := by omega
      obtain ⟨v, hv⟩ := preC_at L (4 + j) hjL
      have hold := hcel.out.cell hv
      have hfree := hcel.out.free (i := 4 + j)
      have hset := hcel.out.set (i := 4 + j) (v := .int .u8 ((s[j]'hlt).toNat : Int))
      rw [preC_set L (4 + j) hjL _ (HO.out j hlt hjL).symm] at hset
      have HSET := Lib.hid hset
      clear hv hset
      go_wp2_with fail
      go_roundw
      case rel => exact ⟨j + 1, by omega, by go_num, HSET.out, hbel.out.setCell (Nat.le_refl _) _⟩
      case measure => simp [intOf]; omega
    · obtain rfl : j = s.size := by omega
      have hcel2 : wr.heap[w1.heap.size]? = some (.cells (Lib.byteCells L).toArray 5 (0, 0)) := by
        have h := hcel.out
        rw [HT.out] at h
        exact h
      have hcv := bytes_string hcel2 0 N N (by rw [HL.out]; omega)
      rw [List.drop_zero, List.take_of_length_le (by rw [HL.out]; exact Nat.le_refl _)] at hcv
      clear hcel hcel2
      go_wp2_with fail
      go_ret
      exact ⟨rfl, hbel.out⟩

end Go.Proofs.Ytemcjnbgcecinaa

/- Shards with their numbers; what Check answers, as a function of them; no condition. -/
namespace Go.Proofs.Ytemcjnbgcecinaa
open Go.RowKit

def sI (L : List (Int × ByteArray)) (i : Nat) : Int := (L.getD i (0, ⟨#[]⟩)).1

def sS (L : List (Int × ByteArray)) (i : Nat) : ByteArray := (L.getD i (0, ⟨#[]⟩)).2

/-- the cells at A are the shards L -/
def ShardsAt (w : World) (A : Option Addr) (L : List (Int × ByteArray)) : Prop :=
  0 < L.length → ∃ ad, A = some ad ∧ ad.block < w.heap.size ∧ ∀ i, i < L.length → w.cell? (ad.add (i * 2)) = some (.int .i64 (sI L i)) ∧ w.cell? (ad.add (i * 2 + 1)) = some (.string (sS L i))

theorem add_field (a : Addr) (n : Nat) : (⟨(a.add n).block, (a.add n).off + 1, none⟩ : Addr) = a.add (n + 1) := by
  unfold Addr.add
  by_cases h : n = 0
  · rw [if_pos h, if_neg (by omega), h, Nat.zero_add]
  · rw [if_neg h, if_neg (by omega)]
    simp only [Nat.add_assoc]

theorem add_first (a : Addr) : (⟨a.block, a.off + 1, none⟩ : Addr) = a.add 1 := rfl

theorem ShardsAt.below {w w' : World} {A : Option Addr} {L : List (Int × ByteArray)} (h : ShardsAt w A L) (hb : Below w.heap.size w w') : ShardsAt w' A L := fun hp => by
  obtain ⟨ad, rfl, h1, h2⟩ := h hp
  exact ⟨ad, rfl, Nat.lt_of_lt_of_le h1 hb.size, fun i hi => ⟨(hb.cell (p := ad.add (i * 2)) (by rw [st_block]; exact h1)).trans (h2 i hi).1, (hb.cell (p := ad.add (i * 2 + 1)) (by rw [st_block]; exact h1)).trans (h2 i hi).2⟩⟩

open Classical in
/-- what is wrong with shard i, 0: nothing -/
noncomputable def badE (t : Int) (L : List (Int × ByteArray)) (i : Nat) : Int :=
  if sI L i < 0 ∨ t ≤ sI L i then 1 else if ∃ j, j < i ∧ sI L j = sI L i then 6 else if 2052 < (sS L i).size then 2 else if (sS L i).size ≠ (sS L 0).size then 4 else 0

noncomputable def ckV (k m : Int) (L : List (Int × ByteArray)) : Int × Int :=
  if codeB k m = true then
    match (List.range L.length).find? fun i => badE (k + m) L i != 0 with
    | some i => ((i : Int), badE (k + m) L i)
    | none => if (L.length : Int) < k then (-1, 40) else (0, 0)
  else (-1, 1)

noncomputable def ckAns (k m : Int) (L : List (Int × ByteArray)) : Value := .tuple #[.int .i64 (ckV k m L).1, .int .i64 (ckV k m L).2]

theorem ck_code {k m : Int} {L : List (Int × ByteArray)} (h : codeB k m = false) : ckAns k m L = .tuple #[.int .i64 (-1), .int .i64 1] := by
  unfold ckAns ckV; rw [if_neg (by simp [h])]

theorem ck_bad {k m : Int} {L : List (Int × ByteArray)} {i : Nat} (h : codeB k m = true) (hi : i < L.length) (h0 : ∀ j, j < i → badE (k + m) L j = 0) {e : Int} (he : badE (k + m) L i = e) (h1 : e ≠ 0) :
    ckAns k m L = .tuple #[.int .i64 (i : Int), .int .i64 e] := by
  have hf : (List.range L.length).find? (fun i => badE (k + m) L i != 0) = some i := by
    rw [List.find?_range_eq_some]
    refine ⟨by simp [he, h1], by simpa using hi, fun j hj => by simp [h0 j hj]⟩
  unfold ckAns ckV; rw [if_pos h, hf]; simp only [he]

theorem ck_none {k m : Int} {L : List (Int × ByteArray)} (h : codeB k m = true) (h0 : ∀ j, j < L.length → badE (k + m) L j = 0) : ckV k m L = if (L.length : Int) < k then (-1, 40) else (0, 0) := by
  have hf : (List.range L.length).find? (fun i => badE (k + m) L i != 0) = none := by
    rw [List.find?_eq_none]
    intro j hj
    simp [h0 j (List.mem_range.1 hj)]
  unfold ckV; rw [if_pos h, hf]

theorem ck_few {k m : Int} {L : List (Int × ByteArray)} (h : codeB k m = true) (h0 : ∀ j, j < L.length → badE (k + m) L j = 0) (hl : (L.length : Int) < k) : ckAns k m L = .tuple #[.int .i64 (-1), .int .i64 40] := by
  unfold ckAns; rw [ck_none h h0, if_pos hl]

theorem ck_ok {k m : Int} {L : List (Int × ByteArray)} (h : codeB k m = true) (h0 : ∀ j, j < L.length → badE (k + m) L j = 0) (hl : ¬ (L.length : Int) < k) : ckAns k m L = .tuple #[.int .i64 0, .int .i64 0] := by
  unfold ckAns; rw [ck_none h h0, if_neg hl]

theorem bad_rng {t : Int} {L : List (Int × ByteArray)} {i : Nat} (h : sI L i < 0 ∨ t ≤ sI L i) : badE t L i = 1 := by unfold badE; rw [if_pos h]

theorem bad_there {t : Int} {L : List (Int × ByteArray)} {i : Nat} (h : ¬ (sI L i < 0 ∨ t ≤ sI L i)) (h2 : ∃ j, j < i ∧ sI L j = sI L i) : badE t L i = 6 := by unfold badE; rw [if_neg h, if_pos h2]

theorem bad_long {t : Int} {L : List (Int × ByteArray)} {i : Nat} (h : ¬ (sI L i < 0 ∨ t ≤ sI L i)) (h2 : ¬ ∃ j, j < i ∧ sI L j = sI L i) (h3 : 2052 < (sS L i).size) : badE t L i = 2 := by unfold badE; rw [if_neg h, if_neg h2, if_pos h3]

theorem bad_shape {t : Int} {L : List (Int × ByteArray)} {i : Nat} (h : ¬ (sI L i < 0 ∨ t ≤ sI L i)) (h2 : ¬ ∃ j, j < i ∧ sI L j = sI L i) (h3 : ¬ 2052 < (sS L i).size) (h4 : (sS L i).size ≠ (sS L 0).size) : badE t L i = 4 := by unfold badE; rw [if_neg h, if_neg h2, if_neg h3, if_pos h4]

theorem bad_ok {t : Int} {L : List (Int × ByteArray)} {i : Nat} (h : ¬ (sI L i < 0 ∨ t ≤ sI L i)) (h2 : ¬ ∃ j, j < i ∧ sI L j = sI L i) (h3 : ¬ 2052 < (sS L i).size) (h4 : (sS L i).size = (sS L 0).size) : badE t L i = 0 := by unfold badE; rw [if_neg h, if_neg h2, if_neg h3, if_neg (by omega)]

end Go.Proofs.Ytemcjnbgcecinaa

/- What the document's Check answers; one contract; no condition but the range. -/
namespace Go.Proofs.Ytemcjnbgcecinaa
open Go.RowKit

set_option maxRecDepth 20000 in
set_option maxHeartbeats 2000000 in
theorem rmcheck_any (k m : Int) (A : Option Addr) (c : Nat) (L : List (Int × ByteArray)) (w : World) (h : ShardsAt w A L) (hn : L.length ≤ 4000000000000000000) (hmax : ∀ i, i < L.length → (sS L i).size ≤ 9223372036854775807) :
    Calls Try.prog 12 #[.int .i64 k, .int .i64 m, .slice A L.length c] w fun e w' => e = .returned (ckAns k m L) ∧ ∃ n, w' = w.drewN n := by
  cases hc : codeB k m
  · have E := Lib.hid (ck_code (L := L) hc)
    have HC := Lib.hid hc
    clear hc h hmax
    go_enter Try.func12, Try.ntmps12
    go_wp2_with fail
    refine (rcode_any _ _ _).mono ?_
    rintro e w1 ⟨rfl, rfl⟩
    rw [HC.out]
    go_wp2_with fail
    go_ret2
    exact ⟨by rw [E.out]; rfl, 0, rfl⟩
  · have HC := Lib.hid hc
    obtain ⟨a, b, rfl, rfl, h1, h2⟩ := codeB_nat hc
    have HB := Lib.hid (fun i hi h0 e he h1 => ck_bad (L := L) (i := i) hc hi h0 (e := e) he h1)
    have HF := Lib.hid (fun h0 hl => ck_few (L := L) hc h0 hl)
    have HO := Lib.hid (fun h0 hl => ck_ok (L := L) hc h0 hl)
    have HS := Lib.hid h
    have HM := Lib.hid hmax
    clear hc h hmax
    go_enter Try.func12, Try.ntmps12
    go_wp2_with fail
    refine (rcode_any _ _ _).mono ?_
    rintro e w1 ⟨rfl, rfl⟩
    rw [HC.out]
    go_wp2_with fail
    go_loopw [8] (fun u wr => ∃ i n : Nat, i ≤ L.length ∧ u = .int .i64 (i : Int) ∧ Hid (∀ j, j < i → badE ((a : Int) + (b : Int)) L j = 0) ∧ wr = w1.drewN n) (fun u _ => L.length - (intOf u).toNat)
    case atStart => exact ⟨0, 0, by omega, rfl, fun j hj => absurd hj (by omega), rfl⟩
    case round =>
      obtain ⟨i, n, hi, rfl, h0, rfl⟩ := hrel
      by_cases hlt : i < L.length
      · have pi : (i : Int) < (L.length : Int) := by omega
        obtain ⟨ad, rfl, hab, hcl0⟩ := HS.out (by omega)
        have ci := hcl0 i hlt
        have c0 := Lib.hid (hcl0 0 (by omega))
        have HCl := Lib.hid hcl0
        clear hcl0
        have hm := HM.out i hlt
        have hm0 := HM.out 0 (by omega)
        have HBi := Lib.hid (fun e he h1 => HB.out i hlt h0.out e he h1)
        have B1 := Lib.hid (bad_rng (t := (a : Int) + (b : Int)) (L := L) (i := i))
        have B2 := Lib.hid (bad_there (t := (a : Int) + (b : Int)) (L := L) (i := i))
        have B3 := Lib.hid (bad_long (t := (a : Int) + (b : Int)) (L := L) (i := i))
        have B4 := Lib.hid (bad_shape (t := (a : Int) + (b : Int)) (L := L) (i := i))
        have B5 := Lib.hid (bad_ok (t := (a : Int) + (b : Int)) (L := L) (i := i))
        generalize hW : w1.drewN n = W
        have HW := Lib.hid hW
        obtain ⟨x1, x2⟩ : W.cell? (ad.add (i * 2)) = some (.int .i64 (sI L i)) ∧ W.cell? (ad.add (i * 2 + 1)) = some (.string (sS L i)) := by rw [← hW]; exact ci
        clear hW ci
        by_cases r1 : sI L i < 0
        · go_wp2_with fail
          go_ret2
          exact ⟨by rw [HBi.out 1 (B1.out (.inl r1)) (by omega)]; rfl, _, HW.out.symm⟩
        · by_cases r2 : (a : Int) + (b : Int) ≤ sI L i
          · have r1' : (0 : Int) ≤ sI L i := by omega
            go_wp2_with fail
            go_ret2
            exact ⟨by rw [HBi.out 1 (B1.out (.inr r2)) (by omega)]; rfl, _, HW.out.symm⟩
          · have r1' : (0 : Int) ≤ sI L i := by omega
            have r2' : sI L i < (a : Int) + (b : Int) := by omega
            have R := Lib.hid (show ¬ (sI L i < 0 ∨ (a : Int) + (b : Int) ≤ sI L i) by omega)
            clear r1 r2
            go_wp2_with fail
            go_loopw [9] (fun u wr => ∃ j d : Nat, j ≤ i ∧ u = .int .i64 (j : Int) ∧ Hid (∀ x, x < j → sI L x ≠ sI L i) ∧ wr = W.drewN d) (fun u _ => i - (intOf u).toNat)
            case atStart => exact ⟨0, 0, by omega, rfl, fun x hx => absurd hx (by omega), rfl⟩
            case round =>
              obtain ⟨j, d, hj, rfl, hne, rfl⟩ := hrel
              by_cases hlt2 : j < i
              · have pj : (j : Int) < (i : Int) := by omega
                have pjl : (j : Int) < (L.length : Int) := by omega
                have cj := HCl.out j (by omega)
                generalize hV : W.drewN d = V
                have HV := Lib.hid hV
                have y1 : V.cell? (ad.add (i * 2)) = some (.int .i64 (sI L i)) := by rw [← hV]; exact x1
                have y2 : V.cell? (ad.add (j * 2)) = some (.int .i64 (sI L j)) := by rw [← hV, ← HW.out]; exact cj.1
                clear hV cj
                by_cases he : sI L j = sI L i
                · have q : (sI L j == sI L i) = true := by simp [he]
                  have E := Lib.hid (HBi.out 6 (B2.out R.out ⟨j, hlt2, he⟩) (by omega))
                  clear he
                  go_wp2_with fail
                  go_quiet (fail)
                  go_wp2_with fail
                  go_ret2
                  exact ⟨by rw [E.out]; rfl, _, by rw [← HV.out, ← HW.out, World.drewN_drewN, World.drewN_drewN]⟩
                · have q : (sI L j == sI L i) = false := by simp [he]
                  have HE := Lib.hid he
                  clear he
                  go_wp2_with fail
                  go_quiet (fail)
                  go_wp2_with fail
                  go_roundw
                  case rel => exact ⟨j + 1, _, by omega, by go_num, (fun x hx => by
                    by_cases e : x = j
                    · subst e; exact HE.out
                    · exact hne.out x (by omega)), by rw [← HV.out, World.drewN_drewN]⟩
                  case measure => simp [intOf]; omega
              · obtain rfl : i = j := by omega
                have N := Lib.hid (show ¬ ∃ x, x < i ∧ sI L x = sI L i from fun ⟨x, hx, e⟩ => hne.out x hx e)
                generalize hV : W.drewN d = V
                have HV := Lib.hid hV
                have y1 : V.cell? (ad.add (i * 2 + 1)) = some (.string (sS L i)) := by rw [← hV]; exact x2
                have y1b : V.cell? ⟨(ad.add (i * 2)).block, (ad.add (i * 2)).off + 1, none⟩ = some (.string (sS L i)) := by rw [add_field]; exact y1
                have y0 : V.cell? ⟨ad.block, ad.off + 1, none⟩ = some (.string (sS L 0)) := by rw [← hV, ← HW.out]; have := c0.out.2; rw [add_first]; rwa [Nat.zero_mul, Nat.zero_add] at this
                clear hV x1 x2 c0
                have p0 : (0 : Int) < (L.length : Int) := by omega
                by_cases r3 : 2052 < (sS L i).size
                · have r3' : (2052 : Int) < ((sS L i).size : Int) := by omega
                  have E := Lib.hid (HBi.out 2 (B3.out R.out N.out r3) (by omega))
                  clear r3
                  go_wp2_with fail
                  go_ret2
                  exact ⟨by rw [E.out]; rfl, _, by rw [← HV.out, ← HW.out, World.drewN_drewN]⟩
                · have r3' : ((sS L i).size : Int) ≤ 2052 := by omega
                  by_cases r4 : (sS L i).size = (sS L 0).size
                  · have q : (((sS L i).size : Int) != ((sS L 0).size : Int)) = false := by simp [r4]
                    have E := Lib.hid (B5.out R.out N.out r3 r4)
                    clear r3 r4
                    go_wp2_with fail
                    go_quiet (fail)
                    go_wp2_with fail
                    go_roundw
                    case rel => exact ⟨i + 1, _, by omega, by go_num, (fun x hx => by
                      by_cases e : x = i
                      · subst e; exact E.out
                      · exact h0.out x (by omega)), by rw [← HV.out, ← HW.out, World.drewN_drewN, World.drewN_drewN]⟩
                    case measure => simp [intOf]; omega
                  · have q : (((sS L i).size : Int) != ((sS L 0).size : Int)) = true := by simp; omega
                    have E := Lib.hid (HBi.out 4 (B4.out R.out N.out r3 r4) (by omega))
                    clear r3 r4
                    go_wp2_with fail
                    go_quiet (fail)
                    go_wp2_with fail
                    go_ret2
                    exact ⟨by rw [E.out]; rfl, _, by rw [← HV.out, ← HW.out, World.drewN_drewN, World.drewN_drewN]⟩
      · obtain rfl : i = L.length := by omega
        by_cases hf : (L.length : Int) < (a : Int)
        · have E := Lib.hid (HF.out h0.out hf)
          go_wp2_with fail
          go_ret2
          exact ⟨by rw [E.out]; rfl, _, rfl⟩
        · have hf' : (a : Int) ≤ (L.length : Int) := by omega
          have E := Lib.hid (HO.out h0.out hf')
          clear hf
          go_wp2_with fail
          go_ret2
          exact ⟨by rw [E.out]; rfl, _, rfl⟩

end Go.Proofs.Ytemcjnbgcecinaa

/- What the document's own answers of layer 3 do: data shards, whether shards are as long, the object of plain bytes, Join; no condition but the range. -/
namespace Go.Proofs.Ytemcjnbgcecinaa
open Go.RowKit

/-- what the document's Split answers -/
def RSplitAns (H : Nat) (k : Int) (s : ByteArray) (e : Ending) (w' : World) : Prop :=
  if codeB k 0 = true then
    if s.size ≤ 2048 then ∃ v, e = .returned (.tuple #[v, .int .i64 0]) ∧ w'.ownsRow H 9 1 v k.toNat (strV (St.shards k.toNat s))
    else e = .returned (.tuple #[.slice none 0 0, .int .i64 2])
  else e = .returned (.tuple #[.slice none 0 0, .int .i64 1])

theorem shards_take (k : Nat) (s : ByteArray) (j : Nat) (h : j < k) : strV ((St.shards k s).take j) ++ [.string (St.piece (St.plainL k s) (St.szN k s.size) j)] = strV ((St.shards k s).take (j + 1)) := by
  have e : (St.shards k s)[j]? = some (St.piece (St.plainL k s) (St.szN k s.size) j) := St.pieces_at _ _ _ _ h
  unfold strV
  rw [List.take_add_one, e, List.map_append]; rfl

theorem str_one {w : World} {g : Nat} {t : TypeId} {u : Value} (h : w.heap[g]? = some (.cells #[u] t (0, 0))) : ∀ j v, [u][j]? = some v → w.cell? ((⟨g, 0, none⟩ : Addr).add j) = some v := fun j v hv => by
  match j with
  | 0 => simp at hv; subst hv; rw [addr_head]; exact blk_cell h rfl
  | j + 1 => simp at hv

end Go.Proofs.Ytemcjnbgcecinaa

/- What the document's own answers of layer 3 do: whether shards are as long, the object of plain bytes, Join; no condition but the range. -/
namespace Go.Proofs.Ytemcjnbgcecinaa
open Go.RowKit

set_option maxRecDepth 20000 in
set_option maxHeartbeats 1000000 in
theorem reven_any (A : Option Addr) (c : Nat) (l : List ByteArray) (w : World) (h : StrsAt w A l) (hpos : 1 ≤ l.length) (hn : l.length ≤ 9223372036854775806) :
    Calls Try.prog 58 #[.slice A l.length c] w fun e w' => e = .returned (.bool (decide (St.Even l))) ∧ ∃ n, w' = w.drewN n := by
  obtain ⟨ad, rfl, hab, hc⟩ := h hpos
  have HC := Lib.hid hc
  have c0 : w.cell? ad = some (.string (l[0]'hpos)) := by have := hc 0 (by omega); rwa [add_zero'] at this
  have hd0 : l.headD ⟨#[]⟩ = l[0] := by cases l with | nil => simp at hpos | cons x r => rfl
  have HD := Lib.hid hd0
  have p0 : (0 : Int) < (l.length : Int) := by omega
  have p0n : 0 < l.length := hpos
  have C0 := Lib.hid c0
  clear h hc hd0 c0
  go_enter Try.func58, Try.ntmps58
  go_wp2_with fail
  go_loopw [3] (fun i wr => ∃ k n : Nat, 1 ≤ k ∧ k ≤ l.length ∧ i = .int .i64 (k : Int) ∧ Hid (∀ j (hj : j < l.length), j < k → l[j].size = l[0].size) ∧ wr = w.drewN n) (fun i _ => l.length - (intOf i).toNat)
  case atStart => exact ⟨1, 0, by omega, by omega, rfl, (fun j hj h => by
    obtain rfl : j = 0 := by omega
    rfl), rfl⟩
  case round =>
    obtain ⟨k, n, hk1, hk, rfl, hev, rfl⟩ := hrel
    by_cases hlt : k < l.length
    · have ck : (w.drewN n).cell? (ad.add k) = some (.string l[k]) := HC.out k hlt
      have c0 : (w.drewN n).cell? ad = some (.string l[0]) := C0.out
      have pk : (k : Int) < (l.length : Int) := by omega
      generalize hW : w.drewN n = W at ck c0
      have HW := Lib.hid hW
      clear hW
      by_cases he : l[k].size = l[0].size
      · have t1 : ((l[k].size : Int) != (l[0].size : Int)) = false := by simp [he]
        have HE := Lib.hid he
        clear he
        go_wp2_with fail
        go_quiet (fail)
        go_wp2
        go_roundw
        case rel => exact ⟨k + 1, _, by omega, by omega, by go_num, (fun j hj hjk => by
          by_cases e : j = k
          · subst e; exact HE.out
          · exact hev.out j hj (by omega)), by rw [← HW.out, World.drewN_drewN]⟩
        case measure => simp [intOf]; omega
      · have t1 : ((l[k].size : Int) != (l[0].size : Int)) = true := by simp; omega
        have E := Lib.hid (show decide (St.Even l) = false by
          rw [decide_eq_false_iff_not]
          intro hE
          have := hE l[k] (List.getElem_mem hlt)
          rw [HD.out] at this
          exact he this)
        clear he
        go_wp2_with fail
        go_quiet (fail)
        go_wp2
        go_ret
        exact ⟨by rw [E.out]; rfl, _, by rw [← HW.out, World.drewN_drewN]⟩
    · have E := Lib.hid (show decide (St.Even l) = true by
        rw [decide_eq_true_eq]
        intro x hx
        obtain ⟨j, hj, rfl⟩ := List.getElem_of_mem hx
        rw [HD.out]
        exact hev.out j hj (by omega))
      go_wp2_with fail
      go_ret
      exact ⟨by rw [E.out]; rfl, _, rfl⟩

theorem num4 (s : ByteArray) (h : 4 ≤ s.size) : ∃ (h0 : 0 < s.size) (h1 : 1 < s.size) (h2 : 2 < s.size) (h3 : 3 < s.size), ((St.numL s.data.toList : Nat) : Int) = ((s[0]'h0).toNat : Int) * 16777216 + ((s[1]'h1).toNat : Int) * 65536 + ((s[2]'h2).toNat : Int) * 256 + ((s[3]'h3).toNat : Int) := by
  refine ⟨by omega, by omega, by omega, by omega, ?_⟩
  obtain ⟨⟨l⟩⟩ := s
  match l with
  | a :: b :: c :: d :: r =>
    show ((St.numL (a :: b :: c :: d :: r) : Nat) : Int) = (a.toNat : Int) * 16777216 + (b.toNat : Int) * 65536 + (c.toNat : Int) * 256 + (d.toNat : Int)
    simp only [St.numL, List.take_succ_cons, List.take_zero, List.foldl_cons, List.foldl_nil]
    omega
  | [] => exact absurd h (by decide)
  | [a] => exact absurd h (by show ¬ 4 ≤ (1 : Nat); omega)
  | [a, b] => exact absurd h (by show ¬ 4 ≤ (2 : Nat); omega)
  | [a, b, c] => exact absurd h (by show ¬ 4 ≤ (3 : Nat); omega)

/-- what the object of plain bytes is told to be -/
def WholeAns (k : Nat) (s : ByteArray) (e : Ending) : Prop := match St.uncut k s.data.toList with
  | some o => e = .returned (.tuple #[.string o, .bool true])
  | none => ∃ o, e = .returned (.tuple #[.string o, .bool false])

set_option maxRecDepth 20000 in
set_option maxHeartbeats 2000000 in
theorem rwhole_any (k : Nat) (s : ByteArray) (w : World) (hk : 1 ≤ k) (hk2 : k ≤ 255) (hs : s.size ≤ 9223372036854775807) :
    Calls Try.prog 59 #[.int .i64 (k : Int), .string s] w fun e w' => WholeAns k s e ∧ Below w.heap.size w w' := by
  have hlen : s.data.toList.length = s.size := St.data_len s
  by_cases h4 : s.size < 4
  · have h4' : (s.size : Int) < 4 := by omega
    have E : Hid (∀ e, e = Ending.returned (.tuple #[.string ⟨#[]⟩, .bool false]) → WholeAns k s e) := fun e he => by
      unfold WholeAns St.uncut
      rw [hlen, if_pos h4]
      exact ⟨_, he⟩
    clear h4 hlen
    go_enter Try.func59, Try.ntmps59
    go_wp2_with fail
    go_ret2
    exact ⟨E.out _ rfl, Below.refl _ _⟩
  · have h4' : ¬ (s.size : Int) < 4 := by omega
    obtain ⟨i0, i1, i2, i3, hnum⟩ := num4 s (by omega)
    have b0 := (s[0]'i0).toNat_lt
    have b1 := (s[1]'i1).toNat_lt
    have b2 := (s[2]'i2).toNat_lt
    have b3 := (s[3]'i3).toNat_lt
    have j0 : (0 : Int) < (s.size : Int) := by omega
    have j1 : (1 : Int) < (s.size : Int) := by omega
    have j2 : (2 : Int) < (s.size : Int) := by omega
    have j3 : (3 : Int) < (s.size : Int) := by omega
    generalize hm : St.numL s.data.toList = m at hnum
    have HM := Lib.hid hm
    have HNum := Lib.hid (show ((s[0]'i0).toNat : Int) * (16777216 : Int) + ((s[1]'i1).toNat : Int) * (65536 : Int) + ((s[2]'i2).toNat : Int) * (256 : Int) + ((s[3]'i3).toNat : Int) = (m : Int) by omega)
    have hm32 : m < 4294967296 := by omega
    have HLen := Lib.hid hlen
    clear hm hlen hnum
    go_enter Try.func59, Try.ntmps59
    go_wp2_with fail
    go_quiet (fail)
    rw [HNum.out]
    have hsub : IntKind.i64.wrap ((s.size : Int) - 4) = (s.size : Int) - 4 := i64_wrap (by omega) (by omega)
    clear HNum hsub
    have hUN : ∀ e o, (2048 < m ∨ s.size - 4 < m) → e = Ending.returned (.tuple #[.string o, .bool false]) → WholeAns k s e := fun e o hbad he => by
      unfold WholeAns St.uncut
      rw [HLen.out, HM.out, if_neg h4, if_pos hbad]
      exact ⟨_, he⟩
    have HUN := Lib.hid hUN
    clear hUN
    by_cases hbig : 2048 < m
    · have hb' : (2048 : Int) < (m : Int) := by omega
      have E : Hid (∀ e, e = Ending.returned (.tuple #[.string ⟨#[]⟩, .bool false]) → WholeAns k s e) := fun e he => HUN.out e _ (.inl hbig) he
      clear hbig
      go_wp2_with fail
      go_ret2
      exact ⟨E.out _ rfl, below_drewN (Below.refl _ _) _⟩
    · have hb' : ¬ (2048 : Int) < (m : Int) := by omega
      by_cases hbig2 : s.size - 4 < m
      · have hb2 : (s.size : Int) - 4 < (m : Int) := by omega
        have E : Hid (∀ e, e = Ending.returned (.tuple #[.string ⟨#[]⟩, .bool false]) → WholeAns k s e) := fun e he => HUN.out e _ (.inr hbig2) he
        clear hbig hbig2
        go_wp2_with fail
        go_ret2
        exact ⟨E.out _ rfl, below_drewN (Below.refl _ _) _⟩
      · have hb2 : ¬ (s.size : Int) - 4 < (m : Int) := by omega
        have hsl : ∀ W, (Instr.slice 9 (.string s) (some (.int .i64 4)) (some (.int .i64 (4 + (m : Int)))) none).run Try.prog W = .ok (.string ⟨((s.data.toList.drop 4).take m).toArray⟩) W := fun W => by
          rw [run_slice_string_if W 9 s .i64 .i64 _ _ Try.underlying9, if_pos (by omega), if_pos (by omega), show ((4 : Int) + (m : Int)).toNat = 4 + m by omega]
          congr 2
          apply ByteArray.ext
          rw [ByteArray.data_extract]
          apply Array.ext'
          simp only [Array.toList_extract, List.extract_eq_take_drop, show (4 : Int).toNat = 4 from rfl, Nat.add_sub_cancel_left]
        obtain ⟨o, ho⟩ : ∃ o : ByteArray, o = ⟨((s.data.toList.drop 4).take m).toArray⟩ := ⟨_, rfl⟩
        rw [← ho] at hsl
        have hos : o.size ≤ 2048 := by
          rw [ho]
          show ((s.data.toList.drop 4).take m).toArray.size ≤ 2048
          rw [List.size_toArray, List.length_take]; omega
        have hu : St.uncut k s.data.toList = if St.plainL k o = s.data.toList then some o else none := by
          unfold St.uncut
          rw [HLen.out, HM.out, if_neg h4, if_neg (by omega), ← ho]
        have HP := Lib.hid (fun w => rplain_any k o w hk hk2 hos)
        by_cases heq : St.plainL k o = s.data.toList
        · have hps : (⟨(St.plainL k o).toArray⟩ : ByteArray) = s := by rw [heq]
          rw [hps] at HP
          have t1 := text_eq s
          have E : Hid (∀ e, e = Ending.returned (.tuple #[.string o, .bool true]) → WholeAns k s e) := fun e he => by
            unfold WholeAns
            rw [hu, if_pos heq]; exact he
          clear hbig hbig2 hu ho heq hps HUN
          go_wp2_with fail
          refine (HP.out _).mono ?_
          rintro e w2 ⟨rfl, hb⟩
          have HB := Lib.hid hb
          clear hb
          go_wp2_with fail
          go_ret2
          exact ⟨E.out _ rfl, (below_drewN (Below.refl _ w) nq).trans HB.out⟩
        · have hps : (⟨(St.plainL k o).toArray⟩ : ByteArray) ≠ s := fun h => heq (by rw [← h])
          generalize (⟨(St.plainL k o).toArray⟩ : ByteArray) = PS at HP hps
          have t1 := text_ne hps
          have E : Hid (∀ e, e = Ending.returned (.tuple #[.string o, .bool false]) → WholeAns k s e) := fun e he => by
            unfold WholeAns
            rw [hu, if_neg heq]; exact ⟨o, he⟩
          clear hbig hbig2 hu ho heq hps HUN
          go_wp2_with fail
          refine (HP.out _).mono ?_
          rintro e w2 ⟨rfl, hb⟩
          have HB := Lib.hid hb
          clear hb
          go_wp2_with fail
          go_ret2
          exact ⟨E.out _ rfl, (below_drewN (Below.refl _ w) nq).trans HB.out⟩

end Go.Proofs.Ytemcjnbgcecinaa
