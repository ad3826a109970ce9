/- Parts of the proof, joined: MdKept, MdWalks, MdLarge, MdWalks2, MpMap, QuietTail; their conditions stand with each. -/
import Derived.Test.YtemcjnbgcecinaaRows
import Derived.Maps.OwnOps
import Derived.Maps.OwnSet
import Derived.Maps.Views
import Derived.WalkArith
import Derived.Below
import Derived.Carry
import Derived.StillTail
import Derived.Deep.Quiet
import Derived.Deep.QuietTactic
import Derived.Test.YtemcjnbgcecinaaA8
import Derived.Test.YtemcjnbgcecinaaA13

/- Whether what was lent is as it was; no condition but the range. -/
namespace Go.Proofs.Ytemcjnbgcecinaa
open Go.RowKit

theorem lent_shards {w : World} {H g cap : Nat} {L : List (Int × ByteArray)} (h : w.ownsRow H 50 2 (.slice (some ⟨g, 0, none⟩) (L.length + 1) cap) (L.length + 1) (shV L ++ markV)) : ShardsAt w (some ⟨g, 0, none⟩) L := fun _ => by
  have hf := World.ownsRow.cellAt h
  refine ⟨_, rfl, ?_, fun i hi => ?_⟩
  · obtain ⟨g', cap', hv, _, hlt⟩ := World.ownsRow.form h (by omega)
    simp only [Value.slice.injEq, Option.some.injEq, Addr.mk.injEq] at hv
    obtain ⟨⟨rfl, -⟩, -⟩ := hv
    exact hlt
  · rw [addr_head, addr_head, hf (i * 2) (by omega), hf (i * 2 + 1) (by omega), List.getElem?_append_left (by rw [shV_len]; omega), List.getElem?_append_left (by rw [shV_len]; omega)]
    exact shV_at L i hi

theorem lent_markV {w : World} {H g cap : Nat} {L : List (Int × ByteArray)} (h : w.ownsRow H 50 2 (.slice (some ⟨g, 0, none⟩) (L.length + 1) cap) (L.length + 1) (shV L ++ markV)) :
    w.cell? ⟨g, L.length * 2, none⟩ = some (.int .i64 (-77)) ∧ w.cell? ⟨g, L.length * 2 + 1, none⟩ = some (.string ⟨#[]⟩) := by
  have hf := World.ownsRow.cellAt h
  rw [hf (L.length * 2) (by omega), hf (L.length * 2 + 1) (by omega), List.getElem?_append_right (by rw [shV_len]; exact Nat.le_refl _), List.getElem?_append_right (by rw [shV_len]; omega), shV_len, Nat.sub_self, Nat.add_sub_cancel_left]
  exact ⟨rfl, rfl⟩

set_option maxRecDepth 20000 in
set_option maxHeartbeats 2000000 in
theorem mdkept_any (H g cap : Nat) (v : Value) (L : List (Int × ByteArray)) (w : World) (h : ShardsOf w v L) (ho : w.ownsRow H 50 2 (.slice (some ⟨g, 0, none⟩) (L.length + 1) cap) (L.length + 1) (shV L ++ markV)) :
    Calls Try.prog 13 #[.slice (some ⟨g, 0, none⟩) L.length cap, v] w fun e w' => e = .returned (.bool true) ∧ ∃ n, w' = w.drewN n := by
  obtain ⟨A, c, rfl, hst, _, hn24, _⟩ := h
  have HSt := Lib.hid hst
  have HLs := Lib.hid (lent_shards ho)
  obtain ⟨k0, k1⟩ := lent_markV ho
  have hcap : L.length + 1 ≤ cap := by
    rcases ho.2 with ⟨h1, h2⟩ | ⟨g', cap', cur, h1, _, _, h3, _⟩
    · simp at h1
    · simp only [Value.slice.injEq] at h1; omega
  have hcapM : cap ≤ 9223372036854775807 := by
    rcases ho.2 with ⟨h1, h2⟩ | ⟨g', cap', cur, h1, _, _, _, h3, _⟩
    · simp at h1
    · simp only [Value.slice.injEq] at h1; unfold maxLen at h3; omega
  have hcl : (L.length : Int) + 1 ≤ (cap : Int) := by omega
  have hc0 : ¬ cap = 0 := by omega
  have pl : (L.length : Int) < (L.length : Int) + 1 := by omega
  have HM := Lib.hid (And.intro k0 k1)
  clear hst ho k0 k1
  go_enter Try.func13, Try.ntmps13
  go_wp2_with fail
  go_loopw [5] (fun u wr => ∃ i d : Nat, i ≤ L.length ∧ u = .int .i64 (i : Int) ∧ wr = w.drewN d) (fun u _ => L.length - (intOf u).toNat)
  case atStart => exact ⟨0, 0, by omega, rfl, rfl⟩
  case round =>
    obtain ⟨i, d, hi, rfl, rfl⟩ := hrel
    by_cases hlt : i < L.length
    · have pi : (i : Int) < (L.length : Int) := by omega
      obtain ⟨ad, rfl, hab, hcl'⟩ := HSt.out (by omega)
      obtain ⟨ad', had, _, hcl2⟩ := HLs.out (by omega)
      obtain rfl := Option.some.inj had
      obtain ⟨x1, x2⟩ := hcl' i hlt
      obtain ⟨z1, z2⟩ := hcl2 i hlt
      rw [addr_head] at z1 z2
      generalize hW : w.drewN d = W
      have HW := Lib.hid hW
      have y1 : W.cell? (ad.add (i * 2)) = some (.int .i64 (sI L i)) := by rw [← hW]; exact x1
      have y2 : W.cell? ⟨(ad.add (i * 2)).block, (ad.add (i * 2)).off + 1, none⟩ = some (.string (sS L i)) := by rw [add_field, ← hW]; exact x2
      have y2b : W.cell? (ad.add (i * 2 + 1)) = some (.string (sS L i)) := by rw [← hW]; exact x2
      have y3 : W.cell? ⟨g, i * 2, none⟩ = some (.int .i64 (sI L i)) := by rw [← hW]; exact z1
      have y4 : W.cell? ⟨g, i * 2 + 1, none⟩ = some (.string (sS L i)) := by rw [← hW]; exact z2
      have qq := text_eq (sS L i)
      clear hW x1 x2 z1 z2 hcl' hcl2
      go_wp2_with fail
      go_quiet (fail)
      go_wp2_with fail
      go_roundw
      case rel => exact ⟨i + 1, _, by omega, by go_num, by rw [← HW.out, World.drewN_drewN]⟩
      case measure => simp [intOf]; omega
    · obtain rfl : i = L.length := by omega
      generalize hW : w.drewN d = W
      have HW := Lib.hid hW
      have y3 : W.cell? ⟨g, L.length * 2, none⟩ = some (.int .i64 (-77)) := by rw [← hW]; exact HM.out.1
      have y4 : W.cell? ⟨g, L.length * 2 + 1, none⟩ = some (.string ⟨#[]⟩) := by rw [← hW]; exact HM.out.2
      clear hW
      go_wp2_with fail
      go_ret
      exact ⟨rfl, d, HW.out.symm⟩

end Go.Proofs.Ytemcjnbgcecinaa

/- The walks of the laws that what Check, Data, Object, One and Agree answer is as the document has it, over contracts of the landed package; no condition but the form's reach. -/
namespace Go.Proofs.Ytemcjnbgcecinaa
open Go.RowKit

def MdWorks : Prop := ∀ w : World, Calls Try.prog 9 #[] w fun e w' => e = .returned (.bool true) ∧ Below w.heap.size w w'

def MdCheckAll : Prop := ∀ (k m : Int) (A : Option Addr) (c : Nat) (L : List (Int × ByteArray)) (w : World), ShardsAt w A L → L.length ≤ 4000000000000000000 → (∀ i, i < L.length → (sS L i).size ≤ 9223372036854775807) →
  Calls Try.prog 11 #[.int .i64 k, .int .i64 m, .slice A L.length c] w fun e w' => e = .returned (ckAns k m L) ∧ Below w.heap.size w w'

def MdDataAll : Prop := ∀ (k m : Int) (A : Option Addr) (c : Nat) (L : List (Int × ByteArray)) (w : World), ShardsAt w A L → L.length ≤ c → L.length ≤ 4000000000000000000 → (∀ i, i < L.length → (sS L i).size ≤ 9223372036854775807) →
  Calls Try.prog 15 #[.int .i64 k, .int .i64 m, .slice A L.length c] w fun e w' => RDataAns w.heap.size k m L e w' ∧ Below w.heap.size w w'

def MdObjectAll : Prop := ∀ (k m : Int) (A : Option Addr) (c : Nat) (L : List (Int × ByteArray)) (w : World), ShardsAt w A L → L.length ≤ c → L.length ≤ 4000000000000000000 → (∀ i, i < L.length → (sS L i).size ≤ 9223372036854775807) →
  Calls Try.prog 17 #[.int .i64 k, .int .i64 m, .slice A L.length c] w fun e w' => e = .returned (objAns k m L) ∧ Below w.heap.size w w'

def MdOneAll : Prop := ∀ (k m i : Int) (A : Option Addr) (c : Nat) (L : List (Int × ByteArray)) (w : World), ShardsAt w A L → L.length ≤ c → L.length ≤ 4000000000000000000 → (∀ i, i < L.length → (sS L i).size ≤ 9223372036854775807) →
  Calls Try.prog 20 #[.int .i64 k, .int .i64 m, .slice A L.length c, .int .i64 i] w fun e w' => e = .returned (oneAns k m L i) ∧ Below w.heap.size w w'

def MdAgreeAll : Prop := ∀ (k m : Int) (A : Option Addr) (c : Nat) (L : List (Int × ByteArray)) (w : World), ShardsAt w A L → L.length ≤ c → L.length ≤ 4000000000000000000 → (∀ i, i < L.length → (sS L i).size ≤ 9223372036854775807) →
  Calls Try.prog 22 #[.int .i64 k, .int .i64 m, .slice A L.length c] w fun e w' => e = .returned (agrAns k m L) ∧ Below w.heap.size w w'

theorem lent_cap {w : World} {H g cap : Nat} {L : List (Int × ByteArray)} (h : w.ownsRow H 50 2 (.slice (some ⟨g, 0, none⟩) (L.length + 1) cap) (L.length + 1) (shV L ++ markV)) : L.length ≤ cap := by
  rcases h.2 with ⟨h', _⟩ | ⟨g', cap', cur, h', _, _, hc, _⟩
  · simp at h'
  · simp only [Value.slice.injEq] at h'
    obtain ⟨-, -, rfl⟩ := h'
    omega

theorem int_same (x : Int) : (x == x) = true := by simp

theorem bool_same (x : Bool) : (x == x) = true := by simp

set_option maxRecDepth 20000 in
set_option maxHeartbeats 4000000 in
theorem checks_walk (hW : MdWorks) (hC : MdCheckAll) (k m : Int) (v : Value) (L : List (Int × ByteArray)) (w : World) (hv : ShardsOf w v L) :
    Calls Try.prog 3 #[.int .i64 k, .int .i64 m, v] w fun e w' => e = .returned (.bool true) ∧ Below w.heap.size w w' := by
  have HV := Lib.hid hv
  have HW := Lib.hid hW
  obtain ⟨A, c, hvA, hst, _, hn24, hmax⟩ := hv
  have HR := Lib.hid (fun w h => rmcheck_any k m A c L w h (by omega) (fun i hi => by have := hmax i hi; omega))
  have HC := Lib.hid (fun A c w h => hC k m A c L w h (by omega) (fun i hi => by have := hmax i hi; omega))
  clear hW hC hmax
  unfold ckAns at HR HC
  generalize (ckV k m L).1 = at_ at HR HC
  generalize (ckV k m L).2 = er at HR HC
  have q1 := int_same at_
  have q2 := int_same er
  subst hvA
  by_cases h3 : 300 < L.length
  · have h3' : (300 : Int) < (L.length : Int) := by omega
    clear h3
    go_enter Try.func3, Try.ntmps3
    go_wp2_with fail
    refine (HW.out _).mono ?_
    rintro e w1 ⟨rfl, hb⟩
    have B1 := Lib.hid hb
    clear hb
    go_wp2_with fail
    go_ret
    exact ⟨rfl, B1.out⟩
  · have h3' : (L.length : Int) ≤ 300 := by omega
    clear h3 hst
    go_enter Try.func3, Try.ntmps3
    go_wp2_with fail
    refine (mdlend_any _ L _ HV.out).mono ?_
    rintro e w1 ⟨g, cap, rfl, hown, hb⟩
    have O1 := Lib.hid hown
    have B1 := Lib.hid hb
    have V1 := Lib.hid (HV.out.below hb)
    clear hown hb HV
    go_wp2_with fail
    refine (HC.out (some ⟨g, 0, none⟩) cap _ (lent_shards O1.out)).mono ?_
    rintro e w2 ⟨rfl, hb⟩
    have O2 := Lib.hid (st_keep O1.out hb)
    have V2 := Lib.hid (V1.out.below hb)
    have B2 := Lib.hid (B1.out.trans (hb.mono B1.out.size))
    clear hb O1 V1 B1
    go_wp2_with fail
    obtain ⟨A0, c0, hA0, hst0, _⟩ := V2.out
    simp only [Value.slice.injEq] at hA0
    obtain ⟨rfl, -, rfl⟩ := hA0
    refine (HR.out _ hst0).mono ?_
    rintro e w3 ⟨rfl, d, rfl⟩
    have O3 := Lib.hid (st_keep O2.out (below_drewN (Below.refl w2.heap.size w2) d))
    have V3 := Lib.hid (V2.out.below (below_drewN (Below.refl w2.heap.size w2) d))
    clear hst0
    go_wp2_with fail
    refine (mdkept_any _ g cap _ L _ V3.out O3.out).mono ?_
    rintro e w4 ⟨rfl, d2, rfl⟩
    go_wp2_with fail
    refine (HW.out _).mono ?_
    rintro e w5 ⟨rfl, hb⟩
    have B5 := Lib.hid ((below_drewN B2.out (d + d2)).trans (hb.mono (by have := B2.out.size; simpa using this)))
    clear hb
    go_wp2_with fail
    go_ret
    exact ⟨rfl, B5.out⟩

end Go.Proofs.Ytemcjnbgcecinaa

/- What is too much to be played: some answer; that Data, Object, One and Agree tell one thing; no condition but the range. -/
namespace Go.Proofs.Ytemcjnbgcecinaa
open Go.RowKit

set_option maxRecDepth 20000 in
set_option maxHeartbeats 8000000 in
theorem mdlarge_any (k m : Int) (A : Option Addr) (c : Nat) (L : List (Int × ByteArray)) (w : World) (h : ShardsAt w A L) (hn : L.length ≤ 4000000000000000000) (hmax : ∀ i, i < L.length → (sS L i).size ≤ 9223372036854775807) :
    Calls Try.prog 14 #[.int .i64 k, .int .i64 m, .slice A L.length c] w fun e w' => ∃ b, e = .returned (.bool b) ∧ w' = w := by
  have hP : codeB k m = false ∨ (codeB k m = true ∧ 10 < k ∧ k ≤ (L.length : Int)) ∨ (codeB k m = true ∧ 10 < k ∧ (L.length : Int) < k) ∨ (codeB k m = true ∧ k ≤ 10 ∧ 10 < m ∧ k ≤ (L.length : Int)) ∨ (codeB k m = true ∧ k ≤ 10 ∧ 10 < m ∧ (L.length : Int) < k) ∨ (codeB k m = true ∧ k ≤ 10 ∧ m ≤ 10) := by
    cases codeB k m
    · exact .inl rfl
    · right
      by_cases r1 : 10 < k
      · by_cases r3 : k ≤ (L.length : Int)
        · exact .inl ⟨rfl, r1, r3⟩
        · exact .inr (.inl ⟨rfl, r1, by omega⟩)
      · by_cases r2 : 10 < m
        · by_cases r3 : k ≤ (L.length : Int)
          · exact .inr (.inr (.inl ⟨rfl, by omega, r2, r3⟩))
          · exact .inr (.inr (.inr (.inl ⟨rfl, by omega, r2, by omega⟩)))
        · exact .inr (.inr (.inr (.inr ⟨rfl, by omega, by omega⟩)))
  by_cases hz : L.length = 0
  · have p0 : (L.length : Int) ≤ 0 := by omega
    clear hz h hmax
    rcases hP with hc | ⟨hc, r1, r3⟩ | ⟨hc, r1, r3⟩ | ⟨hc, r1, r2, r3⟩ | ⟨hc, r1, r2, r3⟩ | ⟨hc, r1, r2⟩
    all_goals
      have HC := Lib.hid hc
      clear hc
      go_enter Try.func14, Try.ntmps14
      go_wp2_with fail
      refine (rcode_any _ _ _).mono ?_
      rintro e w1 ⟨rfl, rfl⟩
      rw [HC.out]
      go_wp2_with fail
      go_ret
      exact ⟨_, rfl, rfl⟩
  · obtain ⟨ad, rfl, hab, hcl⟩ := h (by omega)
    have y0 : w.cell? ⟨ad.block, ad.off + 1, none⟩ = some (.string (sS L 0)) := by have := (hcl 0 (by omega)).2; rw [add_first]; rwa [Nat.zero_mul, Nat.zero_add] at this
    have m0 := hmax 0 (by omega)
    have p0 : (0 : Int) < (L.length : Int) := by omega
    have hQ : ((sS L 0).size : Int) ≤ 200 ∨ (200 < ((sS L 0).size : Int) ∧ ((sS L 0).size : Int) ≤ 2052) ∨ (200 < ((sS L 0).size : Int) ∧ 2052 < ((sS L 0).size : Int)) := by omega
    clear hcl hz hmax
    rcases hP with hc | ⟨hc, r1, r3⟩ | ⟨hc, r1, r3⟩ | ⟨hc, r1, r2, r3⟩ | ⟨hc, r1, r2, r3⟩ | ⟨hc, r1, r2⟩ <;> rcases hQ with s1 | ⟨s1, s2⟩ | ⟨s1, s2⟩
    all_goals
      have HC := Lib.hid hc
      clear hc
      go_enter Try.func14, Try.ntmps14
      go_wp2_with fail
      refine (rcode_any _ _ _).mono ?_
      rintro e w1 ⟨rfl, rfl⟩
      rw [HC.out]
      go_wp2_with fail
      go_ret
      first | exact ⟨_, rfl, rfl⟩ | exact ⟨.inl rfl, rfl⟩ | exact ⟨.inr rfl, rfl⟩ | (refine ⟨.inl ?_, rfl⟩; have r4 : ¬ k ≤ (L.length : Int) := (by omega); simp [r4])

/-- Data tells one list, and one error -/
theorem data_both (k m : Int) (L : List (Int × ByteArray)) : ∃ (l : List ByteArray) (q : Int), l.length ≤ 255 ∧
    (∀ H e w', RDataAns H k m L e w' → ∃ A c, e = .returned (.tuple #[.slice A l.length c, .int .i64 q]) ∧ StrsAt w' A l) := by
  by_cases hz : (ckV k m L).2 = 0
  · obtain ⟨a, b, rfl, rfl, hck, _⟩ := ck_form hz
    refine ⟨dataL a L, 0, by rw [dataL_len]; have := hck.km; omega, fun H e w' h => ?_⟩
    unfold RDataAns at h
    rw [if_pos hz, Int.toNat_natCast] at h
    obtain ⟨v, e1, e2⟩ := h
    obtain ⟨g, cap, rfl, _⟩ := World.ownsRow.form e2 (by have := hck.k1; omega)
    exact ⟨some ⟨g, 0, none⟩, cap, by rw [dataL_len]; exact e1, StrsAt.own e2 (dataL_len a L).symm⟩
  · refine ⟨[], (ckV k m L).2, by simp, fun H e w' h => ?_⟩
    unfold RDataAns at h
    rw [if_neg hz] at h
    exact ⟨none, 0, h, fun h => absurd h (by simp)⟩

theorem objAns_form (k m : Int) (L : List (Int × ByteArray)) : ∃ s q, objAns k m L = .tuple #[.string s, .int .i64 q] := by
  unfold objAns
  split
  · exact joinV_form _
  · exact ⟨_, _, rfl⟩

theorem oneAns_form (k m : Int) (L : List (Int × ByteArray)) (i : Int) : ∃ s q, oneAns k m L i = .tuple #[.string s, .int .i64 q] := by
  unfold oneAns
  split
  · split
    · exact ⟨_, _, rfl⟩
    · exact ⟨_, _, rfl⟩
  · exact ⟨_, _, rfl⟩

theorem agrAns_form (k m : Int) (L : List (Int × ByteArray)) : ∃ b q, agrAns k m L = .tuple #[.bool b, .int .i64 q] := by
  unfold agrAns
  split
  · exact ⟨_, _, rfl⟩
  · exact ⟨_, _, rfl⟩

end Go.Proofs.Ytemcjnbgcecinaa

/- The walks of the laws that what is made of any shards, and each shard that is made, is as the document has it, over contracts of the landed package; no condition but the form's reach. -/
namespace Go.Proofs.Ytemcjnbgcecinaa
open Go.RowKit

/-- two ints in block B -/
def PairAt (w : World) (B : Nat) (x y : Int) : Prop := w.cell? ⟨B, 0, none⟩ = some (.int .i64 x) ∧ w.cell? ⟨B, 1, none⟩ = some (.int .i64 y) ∧ B < w.heap.size

theorem PairAt.below {w w' : World} {B : Nat} {x y : Int} (h : PairAt w B x y) (hb : Below w.heap.size w w') : PairAt w' B x y :=
  ⟨(hb.cell (p := ⟨B, 0, none⟩) h.2.2).trans h.1, (hb.cell (p := ⟨B, 1, none⟩) h.2.2).trans h.2.1, Nat.lt_of_lt_of_le h.2.2 hb.size⟩

set_option maxRecDepth 20000 in
set_option maxHeartbeats 4000000 in
theorem makes_walk (hW : MdWorks) (hD : MdDataAll) (hO : MdObjectAll) (k m : Int) (v : Value) (L : List (Int × ByteArray)) (w : World) (hv : ShardsOf w v L) :
    Calls Try.prog 4 #[.agg #[.int .i64 k, .int .i64 m], v] w fun e w' => e = .returned (.bool true) ∧ Below w.heap.size w w' := by
  have HV := Lib.hid hv
  have HW := Lib.hid hW
  obtain ⟨A, c, hvA, hst, _, hn24, hmax⟩ := hv
  have hn : L.length ≤ 4000000000000000000 := by omega
  have hm : ∀ i, i < L.length → (sS L i).size ≤ 9223372036854775807 := fun i hi => by have := hmax i hi; omega
  obtain ⟨l, q, hl, hdb⟩ := data_both k m L
  obtain ⟨os, oq, hof⟩ := objAns_form k m L
  have HDB := Lib.hid hdb
  have HLg := Lib.hid (fun w h => mdlarge_any k m A c L w h hn hm)
  have HRD := Lib.hid (fun w h => rdata_any k m A c L w h hn hm)
  have HRO := Lib.hid (fun w h => robject_any k m A c L w h hn hm)
  have HLD := Lib.hid (fun A c w h hc => hD k m A c L w h hc hn hm)
  have HLO := Lib.hid (fun A c w h hc => hO k m A c L w h hc hn hm)
  rw [hof] at HRO HLO
  have q1 := int_same q
  have q2 := int_same oq
  have q3 := text_eq os
  have hl2 : l.length ≤ 9223372036854775807 := by omega
  subst hvA
  clear hW hD hO hmax hm hst hdb hof hl
  go_enter Try.func4, Try.ntmps4
  go_wp2_with fail
  obtain ⟨s0, bZ⟩ := blk1 w (.cells #[.int .i64 k, .int .i64 m] 31)
  have BW : Hid (Below w.heap.size w (w.alloc (.cells #[.int .i64 k, .int .i64 m] 31))) := (Below.refl _ w).alloc (Nat.le_refl _) _
  have P0 : Hid (PairAt (w.alloc (.cells #[.int .i64 k, .int .i64 m] 31)) w.heap.size k m) := ⟨blk_cell (j := 0) bZ rfl, blk_cell (j := 1) bZ rfl, by omega⟩
  have V0 := Lib.hid (HV.out.below ((Below.refl _ w).alloc (Nat.le_refl _) (.cells #[.int .i64 k, .int .i64 m] 31)))
  generalize (w.alloc (.cells #[.int .i64 k, .int .i64 m] 31)) = w0 at s0 bZ BW P0 V0 ⊢
  generalize hB : w.heap.size = B at P0 ⊢
  have HB := Lib.hid hB
  have BW' : Hid (Below B w w0) := by show Below B w w0; rw [← hB]; exact BW.out
  clear hB s0 bZ BW HV
  obtain ⟨A0, c0, hA0, hst0, _⟩ := V0.out
  simp only [Value.slice.injEq] at hA0
  obtain ⟨rfl, -, rfl⟩ := hA0
  refine (HLg.out _ hst0).mono ?_
  rintro e w1 ⟨bl, rfl, rfl⟩
  clear hst0
  cases bl
  · go_wp2_with fail
    refine (mdlend_any _ L _ V0.out).mono ?_
    rintro e w2 ⟨g, cap, rfl, hown, hb⟩
    have O2 := Lib.hid hown
    have B2 := Lib.hid (BW'.out.trans (hb.mono (by have := P0.out.2.2; omega)))
    have V2 := Lib.hid (V0.out.below hb)
    have P2 := Lib.hid (P0.out.below hb)
    clear hown hb V0 P0
    have y2 := P2.out
    obtain ⟨x1, x2, x3⟩ := y2
    go_wp2_with fail
    refine (HLD.out (some ⟨g, 0, none⟩) cap _ (lent_shards O2.out) (lent_cap O2.out)).mono ?_
    rintro e w3 ⟨hans, hb⟩
    obtain ⟨A3, c3, rfl, hst⟩ := HDB.out _ _ _ hans
    have S3 := Lib.hid hst
    have O3 := Lib.hid (st_keep O2.out hb)
    have V3 := Lib.hid (V2.out.below hb)
    have P3 := Lib.hid (P2.out.below hb)
    have B3 := Lib.hid (B2.out.trans (hb.mono (by omega)))
    clear hans hb hst O2 V2 P2 B2 x1 x2 x3
    obtain ⟨x1, x2, x3⟩ := P3.out
    go_wp2_with fail
    obtain ⟨A4, c4, hA4, hst4, _⟩ := V3.out
    simp only [Value.slice.injEq] at hA4
    obtain ⟨rfl, -, rfl⟩ := hA4
    refine (HRD.out _ hst4).mono ?_
    rintro e w4 ⟨hans, hb⟩
    obtain ⟨A5, c5, rfl, hst⟩ := HDB.out _ _ _ hans
    have R4 := Lib.hid hst
    have S4 := Lib.hid (S3.out.below hb)
    have O4 := Lib.hid (st_keep O3.out hb)
    have V4 := Lib.hid (V3.out.below hb)
    have P4 := Lib.hid (P3.out.below hb)
    have B4 := Lib.hid (B3.out.trans (hb.mono (by omega)))
    clear hans hb hst hst4 S3 O3 V3 P3 B3 x1 x2 x3
    obtain ⟨x1, x2, x3⟩ := P4.out
    go_wp2_with fail
    refine (HLO.out (some ⟨g, 0, none⟩) cap _ (lent_shards O4.out) (lent_cap O4.out)).mono ?_
    rintro e w5 ⟨rfl, hb⟩
    have R5 := Lib.hid (R4.out.below hb)
    have S5 := Lib.hid (S4.out.below hb)
    have O5 := Lib.hid (st_keep O4.out hb)
    have V5 := Lib.hid (V4.out.below hb)
    have P5 := Lib.hid (P4.out.below hb)
    have B5 := Lib.hid (B4.out.trans (hb.mono (by omega)))
    clear hb R4 S4 O4 V4 P4 B4 x1 x2 x3
    obtain ⟨x1, x2, x3⟩ := P5.out
    go_wp2_with fail
    obtain ⟨A6, c6, hA6, hst6, _⟩ := V5.out
    simp only [Value.slice.injEq] at hA6
    obtain ⟨rfl, -, rfl⟩ := hA6
    refine (HRO.out _ hst6).mono ?_
    rintro e w6 ⟨rfl, hb⟩
    have R6 := Lib.hid (R5.out.below hb)
    have S6 := Lib.hid (S5.out.below hb)
    have O6 := Lib.hid (st_keep O5.out hb)
    have V6 := Lib.hid (V5.out.below hb)
    have B6 := Lib.hid (B5.out.trans (hb.mono (by omega)))
    have x6 : B < w6.heap.size := Nat.lt_of_lt_of_le x3 hb.size
    clear hb hst6 R5 S5 O5 V5 P5 B5 x1 x2 x3
    have hsm := same_any A3 A5 c3 c5 l l w6 S6.out R6.out hl2
    rw [show decide (l = l) = true by simp] at hsm
    have HSM := Lib.hid hsm
    clear hsm
    go_wp2_with fail
    refine HSM.out.mono ?_
    rintro e w7 ⟨rfl, d, rfl⟩
    have V7 := Lib.hid (V6.out.below (below_drewN (Below.refl w6.heap.size w6) d))
    have O7 := Lib.hid (st_keep O6.out (below_drewN (Below.refl w6.heap.size w6) d))
    go_wp2_with fail
    refine (mdkept_any _ g cap _ L _ V7.out O7.out).mono ?_
    rintro e w8 ⟨rfl, d2, rfl⟩
    go_wp2_with fail
    refine (HW.out _).mono ?_
    rintro e w9 ⟨rfl, hb⟩
    have B9 := Lib.hid ((below_drewN B6.out (d + d2)).trans (hb.mono (by simp; omega)))
    clear hb
    go_wp2_with fail
    go_ret
    exact ⟨rfl, by rw [HB.out]; exact B9.out⟩
  · go_wp2_with fail
    refine (HW.out _).mono ?_
    rintro e w9 ⟨rfl, hb⟩
    have B9 := Lib.hid (BW'.out.trans (hb.mono (by have := P0.out.2.2; omega)))
    clear hb
    go_wp2_with fail
    go_ret
    exact ⟨rfl, by rw [HB.out]; exact B9.out⟩


set_option maxRecDepth 20000 in
set_option maxHeartbeats 4000000 in
theorem ones_walk (hW : MdWorks) (hD : MdOneAll) (hO : MdAgreeAll) (k m : Int) (v : Value) (L : List (Int × ByteArray)) (i : Int) (w : World) (hv : ShardsOf w v L) :
    Calls Try.prog 5 #[.agg #[.int .i64 k, .int .i64 m], v, .int .i64 i] w fun e w' => e = .returned (.bool true) ∧ Below w.heap.size w w' := by
  have HV := Lib.hid hv
  have HW := Lib.hid hW
  obtain ⟨A, c, hvA, hst, _, hn24, hmax⟩ := hv
  have hn : L.length ≤ 4000000000000000000 := by omega
  have hm : ∀ i, i < L.length → (sS L i).size ≤ 9223372036854775807 := fun i hi => by have := hmax i hi; omega
  obtain ⟨l, q, hdb⟩ := oneAns_form k m L i
  obtain ⟨os, oq, hof⟩ := agrAns_form k m L
  have HLg := Lib.hid (fun w h => mdlarge_any k m A c L w h hn hm)
  have HRD := Lib.hid (fun w h => rone_any' k m i A c L w h hn hm)
  have HRO := Lib.hid (fun w h => ragree_any k m A c L w h hn hm)
  have HLD := Lib.hid (fun A c w h hc => hD k m i A c L w h hc hn hm)
  have HLO := Lib.hid (fun A c w h hc => hO k m A c L w h hc hn hm)
  rw [hof] at HRO HLO
  rw [hdb] at HRD HLD
  have q1 := int_same q
  have q2 := int_same oq
  have q3 := text_eq l
  have q4 := bool_same os
  subst hvA
  clear hW hD hO hmax hm hst hdb hof
  go_enter Try.func5, Try.ntmps5
  go_wp2_with fail
  obtain ⟨s0, bZ⟩ := blk1 w (.cells #[.int .i64 k, .int .i64 m] 31)
  have BW : Hid (Below w.heap.size w (w.alloc (.cells #[.int .i64 k, .int .i64 m] 31))) := (Below.refl _ w).alloc (Nat.le_refl _) _
  have P0 : Hid (PairAt (w.alloc (.cells #[.int .i64 k, .int .i64 m] 31)) w.heap.size k m) := ⟨blk_cell (j := 0) bZ rfl, blk_cell (j := 1) bZ rfl, by omega⟩
  have V0 := Lib.hid (HV.out.below ((Below.refl _ w).alloc (Nat.le_refl _) (.cells #[.int .i64 k, .int .i64 m] 31)))
  generalize (w.alloc (.cells #[.int .i64 k, .int .i64 m] 31)) = w0 at s0 bZ BW P0 V0 ⊢
  generalize hB : w.heap.size = B at P0 ⊢
  have HB := Lib.hid hB
  have BW' : Hid (Below B w w0) := by show Below B w w0; rw [← hB]; exact BW.out
  clear hB s0 bZ BW HV
  obtain ⟨A0, c0, hA0, hst0, _⟩ := V0.out
  simp only [Value.slice.injEq] at hA0
  obtain ⟨rfl, -, rfl⟩ := hA0
  refine (HLg.out _ hst0).mono ?_
  rintro e w1 ⟨bl, rfl, rfl⟩
  clear hst0
  cases bl
  · go_wp2_with fail
    refine (mdlend_any _ L _ V0.out).mono ?_
    rintro e w2 ⟨g, cap, rfl, hown, hb⟩
    have O2 := Lib.hid hown
    have B2 := Lib.hid (BW'.out.trans (hb.mono (by have := P0.out.2.2; omega)))
    have V2 := Lib.hid (V0.out.below hb)
    have P2 := Lib.hid (P0.out.below hb)
    clear hown hb V0 P0
    have y2 := P2.out
    obtain ⟨x1, x2, x3⟩ := y2
    go_wp2_with fail
    refine (HLD.out (some ⟨g, 0, none⟩) cap _ (lent_shards O2.out) (lent_cap O2.out)).mono ?_
    rintro e w3 ⟨rfl, hb⟩
    have O3 := Lib.hid (st_keep O2.out hb)
    have V3 := Lib.hid (V2.out.below hb)
    have P3 := Lib.hid (P2.out.below hb)
    have B3 := Lib.hid (B2.out.trans (hb.mono (by omega)))
    clear hb O2 V2 P2 B2 x1 x2 x3
    obtain ⟨x1, x2, x3⟩ := P3.out
    go_wp2_with fail
    obtain ⟨A4, c4, hA4, hst4, _⟩ := V3.out
    simp only [Value.slice.injEq] at hA4
    obtain ⟨rfl, -, rfl⟩ := hA4
    refine (HRD.out _ hst4).mono ?_
    rintro e w4 ⟨rfl, hb⟩
    have O4 := Lib.hid (st_keep O3.out hb)
    have V4 := Lib.hid (V3.out.below hb)
    have P4 := Lib.hid (P3.out.below hb)
    have B4 := Lib.hid (B3.out.trans (hb.mono (by omega)))
    clear hb hst4 O3 V3 P3 B3 x1 x2 x3
    obtain ⟨x1, x2, x3⟩ := P4.out
    go_wp2_with fail
    refine (HLO.out (some ⟨g, 0, none⟩) cap _ (lent_shards O4.out) (lent_cap O4.out)).mono ?_
    rintro e w5 ⟨rfl, hb⟩
    have O5 := Lib.hid (st_keep O4.out hb)
    have V5 := Lib.hid (V4.out.below hb)
    have P5 := Lib.hid (P4.out.below hb)
    have B5 := Lib.hid (B4.out.trans (hb.mono (by omega)))
    clear hb O4 V4 P4 B4 x1 x2 x3
    obtain ⟨x1, x2, x3⟩ := P5.out
    go_wp2_with fail
    obtain ⟨A6, c6, hA6, hst6, _⟩ := V5.out
    simp only [Value.slice.injEq] at hA6
    obtain ⟨rfl, -, rfl⟩ := hA6
    refine (HRO.out _ hst6).mono ?_
    rintro e w6 ⟨rfl, hb⟩
    have O6 := Lib.hid (st_keep O5.out hb)
    have V6 := Lib.hid (V5.out.below hb)
    have B6 := Lib.hid (B5.out.trans (hb.mono (by omega)))
    have x6 : B < w6.heap.size := Nat.lt_of_lt_of_le x3 hb.size
    clear hb hst6 O5 V5 P5 B5 x1 x2 x3
    go_wp2_with fail
    refine (mdkept_any _ g cap _ L _ V6.out O6.out).mono ?_
    rintro e w8 ⟨rfl, d2, rfl⟩
    go_wp2_with fail
    refine (HW.out _).mono ?_
    rintro e w9 ⟨rfl, hb⟩
    have B9 := Lib.hid ((below_drewN B6.out d2).trans (hb.mono (by simp; omega)))
    clear hb
    go_wp2_with fail
    go_ret
    exact ⟨rfl, by rw [HB.out]; exact B9.out⟩
  · go_wp2_with fail
    refine (HW.out _).mono ?_
    rintro e w9 ⟨rfl, hb⟩
    have B9 := Lib.hid (BW'.out.trans (hb.mono (by have := P0.out.2.2; omega)))
    clear hb
    go_wp2_with fail
    go_ret
    exact ⟨rfl, by rw [HB.out]; exact B9.out⟩

end Go.Proofs.Ytemcjnbgcecinaa

/- Maps of whole numbers by whole numbers that the call makes: what stands at which key; no condition but the range. -/
namespace Go.Proofs.Ytemcjnbgcecinaa
open Go.RowKit

theorem Try.keyedInt : Go.Maps.Keyed Try.prog 3 := Go.Maps.int_keyed Try.underlying3

theorem Try.zeroInt (w : World) : (zeroValue 3).run Try.prog w = .ok (.int .i64 0) w := by kernel_rfl

def setK (f : Int → Option Int) (x y z : Int) : Option Int := if z = x then some y else f z

/-- block b is a map of at most n entries, in which f x stands at each x -/
def MapAt (w : World) (b n : Nat) (f : Int → Option Int) : Prop :=
  ∃ D : DataW Unit, w.ownsMap Try.prog 3 (plainElem Try.prog 3) b n D ∧ Maps.IsMap D ∧
    ∀ x : Int, Maps.has D (.int .i64 x) = (f x).isSome ∧ D.atKey (.int .i64 x) (.lit (.int .i64 0)) = .lit (.int .i64 ((f x).getD 0))

section
variable {w w' : World} {b n : Nat} {f : Int → Option Int} {x y : Int}

theorem MapAt.lt (h : MapAt w b n f) : b < w.heap.size := by
  obtain ⟨D, h1, _⟩ := h
  exact h1.lt

theorem MapAt.below (h : MapAt w b n f) (hb : Below w.heap.size w w') : MapAt w' b n f := by
  have hl := h.lt
  obtain ⟨D, ⟨es, clock, h1, h2⟩, h3⟩ := h
  exact ⟨D, ⟨es, clock, (hb.block b hl).trans h1, h2⟩, h3⟩

theorem MapAt.mono (h : MapAt w b n f) {m : Nat} (hm : n ≤ m) : MapAt w b m f := by
  obtain ⟨D, h1, h2⟩ := h
  exact ⟨D, h1.mono hm, h2⟩

theorem MapAt.congr (h : MapAt w b n f) {g : Int → Option Int} (hg : ∀ x, f x = g x) : MapAt w b n g := by
  obtain rfl : f = g := funext hg
  exact h

theorem mapAt_made (w : World) : MapAt (w.alloc (.map #[] 0)) w.heap.size 0 (fun _ => none) :=
  ⟨.map [], World.ownsMap_made _ _ _ _, Maps.isMap_empty, fun _ => ⟨rfl, rfl⟩⟩

set_option maxRecDepth 20000 in
theorem MapAt.look (h : MapAt w b n f) (h1 : -9223372036854775808 ≤ x) (h2 : x ≤ 9223372036854775807) :
    (Instr.lookup 53 (.map (some b)) (.int .i64 x) true).run Try.prog w = .ok (.tuple #[.int .i64 ((f x).getD 0), .bool (f x).isSome]) w := by
  obtain ⟨D, hD, _, hv⟩ := h
  obtain ⟨v, ps, hrun, hR⟩ := hD.look_ok (t := 53) Try.keyedInt Try.underlying53 (Try.zeroInt w) (plainElem_int Try.underlying3 (by decide))
    (Go.Maps.keyOf_int_mk Try.underlying3 (WalkArith.wf_i64 ⟨h1, h2⟩))
  obtain ⟨a, rfl, hz, _⟩ := plainElem_int_inv Try.underlying3 hR
  have e := congrArg Prod.fst hz
  simp only [(hv x).2] at e
  have e2 : (f x).getD 0 = a := by injection e with e; injection e with _ e
  rw [hrun, (hv x).1, e2]

set_option maxRecDepth 20000 in
theorem MapAt.store (h : MapAt w b n f) (hn : n < maxLen) (h1 : -9223372036854775808 ≤ x) (h2 : x ≤ 9223372036854775807) (h3 : -9223372036854775808 ≤ y) (h4 : y ≤ 9223372036854775807) :
    ∃ w', (Instr.mapUpdate 53 (.map (some b)) (.int .i64 x) (.int .i64 y)).run Try.prog w = .ok () w' ∧ MapAt w' b (n + 1) (setK f x y) ∧ w.grownBy w' (some b) ∧ w'.heap.size = w.heap.size := by
  obtain ⟨D, hD, hm, hv⟩ := h
  obtain ⟨w', hrun, ho, ht⟩ := hD.store (t := 53) Try.keyedInt Try.underlying53 hn (Go.Maps.keyOf_int_mk Try.underlying3 (WalkArith.wf_i64 ⟨h1, h2⟩)) (plainElem_int Try.underlying3 (WalkArith.wf_i64 ⟨h3, h4⟩))
  have hg := ht.grown
  have hsz : w'.heap.size = w.heap.size := by
    obtain ⟨es, clock, es', clock', _, rfl⟩ := ht
    simp [ChangeMaps.setBlock]
  refine ⟨w', hrun, ⟨_, ho, hm.put _ _, fun z => ?_⟩, hg, hsz⟩
  unfold setK
  by_cases hz : z = x
  · subst hz
    rw [if_pos rfl]
    exact ⟨Maps.has_put_same hm (by simp [WideAt.IsKeyLit]) _, Maps.atKey_put_same hm (by simp [WideAt.IsKeyLit]) _ _⟩
  · rw [if_neg hz]
    have hne : Lit.int .i64 z ≠ Lit.int .i64 x := fun e => hz (by injection e)
    exact ⟨(Maps.has_put_other hne _).trans (hv z).1, (Maps.atKey_put_other hne _ _).trans (hv z).2⟩

end

/-- 'm[k] = v' at the operation, for the walk -/
theorem wpList_mapSet (w : World) {ops : Array Oper} {rest : List Oper} {o : Oper} {a : Act} {Q : Exit → Act → World → Prop}
    (hg : o.guard = none) (m x v : Operand) (hop : o.op = Op.mapUpdate 53 m x v) (b n : Nat) (f : Int → Option Int) (hm : a.eval m = .map (some b)) (hM : MapAt w b n f) (hn : n < maxLen)
    (key val : Int) (hx : a.eval x = .int .i64 key) (hv : a.eval v = .int .i64 val) (h1 : -9223372036854775808 ≤ key) (h2 : key ≤ 9223372036854775807) (h3 : -9223372036854775808 ≤ val) (h4 : val ≤ 9223372036854775807)
    (hK : ∀ w', MapAt w' b (n + 1) (setK f key val) → w.grownBy w' (some b) → w'.heap.size = w.heap.size → wpList Try.prog ops Q rest (a.put o.dst undef) w') :
    wpList Try.prog ops Q (o :: rest) a w := by
  refine wpList_plain hg fun K' hK' => ?_
  obtain ⟨w', hrun, r1, r2, r3⟩ := hM.store hn h1 h2 h3 h4
  unfold Oper.wp
  simp [execOp, hop, hm, hx, hv, hrun, Result.andThen]
  exact hK' _ _ (hK w' r1 r2 r3)

end Go.Proofs.Ytemcjnbgcecinaa

/- A region that draws its order: a head that only reads and calls what only reads (and draws), and a tail in one forced order behind it: one walk in the order of the text serves every order. -/
namespace Go.Proofs.Ytemcjnbgcecinaa

section
variable {P : Program} {ops : Array Oper} {md : Region.Mode} {C : World → Prop}

/-- whatever order the head takes; when it has come up, L -/
def HeadQ (P : Program) (md : Region.Mode) (ops : Array Oper) (C : World → Prop) (n : Nat) (L : Array Bool → Act → Prop) : Nat → Array Bool → Act → Prop
  | 0, ls, a => L ls a
  | k + 1, ls, a => Region.ready md ops ls ≠ [] ∧ ∀ i ∈ Region.ready md ops ls, i < n ∧ qOp P ops C i (HeadQ P md ops C n L k (ls.setIfInBounds i true)) a

theorem HeadQ.any {n m : Nat} {L : Array Bool → Act → Prop} {Q : Exit → Act → World → Prop} (hL : ∀ ls a w, C w → L ls a → wpAny P md ops Q m ls a w) :
    ∀ (k : Nat) (ls : Array Bool) (a : Act) (w : World), C w → HeadQ P md ops C n L k ls a → wpAny P md ops Q (k + m) ls a w := by
  intro k
  induction k with
  | zero => intro ls a w hw h; rw [Nat.zero_add]; exact hL _ _ _ hw h
  | succ k ih =>
    intro ls a w hw h
    rw [Nat.succ_add]
    exact ⟨fun z => absurd z h.1, fun i hi => wpOp_of_qOp hw (fun a' w' hw' h' => ih _ a' w' hw' h') (h.2 i hi).2⟩

/-- one of the head's operations may be taken first -/
theorem HeadQ.take {n i : Nat} {o : Oper} {v : Value} {L : Array Bool → Act → Prop} (ho : ops[i]? = some o) (hsel : ∀ (j : Nat) (p : Oper) cs b, ops[j]? = some p → p.op ≠ .select cs b)
    (hs : Region.sinkB md ops n = true) (hc : Region.chainB md ops n = true) (hn : n < ops.size) (hin : i < n) (hL : ∀ ls a, L ls a → ∀ j ∈ Region.ready md ops ls, n ≤ j) :
    ∀ (k : Nat) (ls : Array Bool) (a : Act), HeadInv md ops n ls →
      (∀ j p, ops[j]? = some p → j ≠ i → ls.getD j true = false → (∀ e ∈ p.after, Region.binds md e = true → e.on ≠ i) → o.apart ops p = true) →
      i ∈ Region.ready md ops ls → YieldsIn P ops C o v a → HeadQ P md ops C n L k (ls.setIfInBounds i true) (a.put o.dst v) → HeadQ P md ops C n L (k + 1) ls a := by
  intro k
  induction k with
  | zero =>
    intro ls a inv _ hr hy H
    have hun := (mem_ready.1 hr).1
    refine ⟨List.ne_nil_of_mem hr, fun j hj => ?_⟩
    have hjn : j < n := Nat.lt_of_not_le fun z => absurd hj (tail_waits hs hc hn inv _ i rfl hin hun j z)
    by_cases e : j = i
    · subst e; exact ⟨hjn, hy.qOp ho H⟩
    · exact absurd (hL _ _ H j (ready_mono hj e)) (by omega)
  | succ k ih =>
    intro ls a inv hfree hr hy H
    have hun := (mem_ready.1 hr).1
    refine ⟨List.ne_nil_of_mem hr, fun j hj => ?_⟩
    have hjn : j < n := Nat.lt_of_not_le fun z => absurd hj (tail_waits hs hc hn inv _ i rfl hin hun j z)
    by_cases e : j = i
    · subst e; exact ⟨hjn, hy.qOp ho H⟩
    · refine ⟨hjn, ?_⟩
      obtain ⟨hjun, p, hp, hall⟩ := mem_ready.1 hj
      have hno : ∀ d ∈ p.after, Region.binds md d = true → d.on ≠ i := fun d hd hb z => by
        have h1 := hall d hd hb
        rw [z, getD_both hun] at h1
        cases h1
      refine qOp_mono (fun a' h => ih (ls.setIfInBounds j true) a' (inv.set hj hjn) (fun x q hq hxi hx hxn => hfree x q hq hxi ?_ hxn) (ready_mono hr (Ne.symm e)) h.1 ?_)
        (qOp_put hp (hfree j p hp e hjun hno) (fun cs b => hsel i o cs b ho) (fun cs b => hsel j p cs b hp) hy (H.2 j (ready_mono hj e)).2)
      · by_cases z : j = x
        · subst z; exact hjun
        · rw [getD_set_ne true z] at hx; exact hx
      · rw [Array.setIfInBounds_comm _ _ e]
        exact h.2

theorem HeadQ.lex {n m : Nat} {T : Act → Prop} (hsel : Region.noSelect ops = true) (hs : Region.sinkB md ops n = true) (hc : Region.chainB md ops n = true) (hn : n < ops.size) :
    ∀ (l : List Oper) (k : Nat) (ls : Array Bool) (a : Act), (∀ j, j < l.length → l[j]? = ops[k + j]?) → k + l.length = n → HeadInv md ops n ls → Region.lexHead md ops m l.length k ls = true → wpQuiet P ops C T l a →
      HeadQ P md ops C n (fun ls' a' => Region.seqB md ops m n ls' = true ∧ T a') l.length ls a := by
  intro l
  induction l with
  | nil =>
    intro k ls a _ hk _ hB h
    have e : k = n := by simpa using hk
    subst e
    exact ⟨by simpa [Region.lexHead] using hB, h⟩
  | cons o l ih =>
    intro k ls a hl hk inv hB h
    have h0 : ops[k]? = some o := by simpa using (hl 0 (by simp)).symm
    simp only [List.length_cons, Region.lexHead, Bool.and_eq_true] at hB
    obtain ⟨⟨hr, hf⟩, hB'⟩ := hB
    simp only [List.length_cons] at hk
    have hkn : k < n := by omega
    have hr' : k ∈ Region.ready md ops ls := by simpa using hr
    have hq : qOp P ops C k (wpQuiet P ops C T l) a := by unfold qOp; simp only [h0]; exact h
    obtain ⟨v, hy, hK⟩ := yieldsIn_of_qOp h0 hq
    exact HeadQ.take h0 (Region.noSelect_spec hsel) hs hc hn hkn (fun _ _ z => seqB_ready z.1) l.length ls a inv (Region.free_spec h0 hf) hr' hy
      (ih (k + 1) _ _ (fun j hj => by have := hl (j + 1) (by simp; omega); simpa [Nat.add_assoc, Nat.add_comm 1 j] using this) (by omega) (inv.set hr' hkn) hB' hK)

theorem wp_region_quiet_tail {id : Nat} {Q : Exit → Act → World → Prop} {a : Act} {w : World} {l : List Oper} (n : Nat) (hm : P.follows .mixedOrders = true) (hB : Region.lexTailB .any l.toArray n = true)
    (h : wpQuiet P l.toArray (fun w' => ∃ d, w' = w.drewN d) (fun a' => ∀ d, wpList P l.toArray Q (l.drop n) a' (w.drewN d)) (l.take n) a) : (Code.region id l.toArray true).wp P Q a w := by
  simp only [Region.lexTailB, Bool.and_eq_true, decide_eq_true_eq] at hB
  obtain ⟨⟨⟨⟨hsel, hn⟩, hs⟩, hc⟩, hlex⟩ := hB
  have hn' : n < l.length := by simpa using hn
  have ht : (l.take n).length = n := by simp; omega
  have hd : (l.drop n).length = l.toArray.size - n := by simp
  have inv : HeadInv .any l.toArray n (Array.replicate l.toArray.size false) :=
    ⟨by simp, fun _ _ _ z => (by rw [getD_replicate_false] at z; cases z), fun t _ z => getD_in (by simpa using z) (getD_replicate_false _ _)⟩
  have H := HeadQ.lex (md := .any) (m := l.toArray.size - n) hsel hs hc hn (l.take n) 0 _ a (fun j hj => by
    have hj' : j < n := by rw [ht] at hj; exact hj
    simp [hj']) (by simpa using ht) inv (by rw [ht]; exact hlex) h
  refine wp_region_any hm ?_
  have := HeadQ.any (Q := Q) (m := l.toArray.size - n) (fun ls a' w' hw' z => by
    obtain ⟨d, rfl⟩ := hw'
    have := wpAny_of_seq (md := .any) (Q' := Q) (l.drop n) n ls a' (w.drewN d) (fun j => by simp [List.getElem?_drop]) (by rw [hd]; exact z.1) (z.2 d)
    rwa [hd] at this) _ _ _ w.drew ⟨1, rfl⟩ H
  rw [ht, show n + (l.toArray.size - n) = l.toArray.size by omega] at this
  exact this
end

end Go.Proofs.Ytemcjnbgcecinaa
