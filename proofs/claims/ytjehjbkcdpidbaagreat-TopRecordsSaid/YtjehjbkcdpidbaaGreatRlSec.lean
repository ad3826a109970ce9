/- The landed log's head as a sector; contract, over what is asked of strings.Repeat; no condition but the range. -/
import Derived.Test.YtjehjbkcdpidbaaGreatRlHead
namespace Go.Proofs.YtjehjbkcdpidbaaGreat
namespace Rd
open Go.RowKit Sc Bk

attribute [local go_sem ↓] Go.wp_at_zero Go.wp_at_succ
attribute [local go_sem] floatUpon pick

/-- what is asked of strings.Repeat -/
def RepTxt : Prop := ∀ (s : ByteArray) (c : Nat) (w : World), c ≤ 1000 → s.size ≤ 1000 → Calls Tryz.prog 132 #[.string s, .int .i64 (c : Int)] w fun e w' => e = .returned (.string ⟨(List.replicate c s.data.toList).flatten.toArray⟩) ∧ Below w.heap.size w w'

/-- a head as a value -/
def hdV (c a n : Nat) : Value := .agg #[.int .i64 (c : Int), .int .i64 (a : Int), .int .i64 (n : Int)]

set_option maxRecDepth 20000 in
set_option maxHeartbeats 2000000 in
theorem sec_any (HRt : RepTxt) (c a l : Nat) (w : World) (hc : c ≤ 9223372036854775807) (ha : a ≤ 1) (hl : l ≤ 9223372036854775807) :
    Calls Tryz.prog 114 #[hdV c a l] w fun e w' => e = .returned (.string (headB c a l)) ∧ Below w.heap.size w w' := by
  have HE1 := Lib.hid (fun W => high_any c W hc)
  have HE2 := Lib.hid (fun W => high_any l W hl)
  obtain ⟨b, hb⟩ : ∃ b, b = UInt8.ofNat (a % 256) := ⟨_, rfl⟩
  have hbt : b.toNat = a := by rw [hb, UInt8.toNat_ofNat_of_lt' (by show a % 256 < 256; omega)]; omega
  have hcv : IntKind.u8.wrap (a : Int) = (b.toNat : Int) := by
    rw [hbt]; simp [IntKind.wrap, IntKind.bits, IntKind.signed]; omega
  have l1 := be8_len c
  have l2 := be8_len l
  have a1 := list_sum [82, 69, 68, 79] (be8 c) (by rw [l1]; decide)
  have a2 := list_sum ([82, 69, 68, 79] ++ be8 c) [b] (by rw [List.length_append, l1]; show 4 + 8 + 1 ≤ 1000; decide)
  have a3 := list_sum (([82, 69, 68, 79] ++ be8 c) ++ [b]) (be8 l) (by rw [List.length_append, List.length_append, l1, l2]; show 4 + 8 + 1 + 8 ≤ 1000; decide)
  have hP : (([82, 69, 68, 79] ++ be8 c) ++ [b]) ++ be8 l = headP c a l := by rw [hb]; rfl
  rw [hP] at a3
  have l3 := headP_len c a l
  have hRt := HRt ⟨(headP c a l).toArray⟩ 3
  have eR : (List.replicate 3 (⟨(headP c a l).toArray⟩ : ByteArray).data.toList).flatten = (headP c a l ++ headP c a l) ++ headP c a l := by
    show (List.replicate 3 (headP c a l)).flatten = _
    simp [List.replicate, List.append_assoc]
  rw [eR] at hRt
  have HRp := Lib.hid (fun W => hRt W (by omega) (by rw [text_size, l3]; omega))
  have a6 := list_sum ((headP c a l ++ headP c a l) ++ headP c a l) [0] (by rw [List.length_append, List.length_append, l3]; decide)
  rw [show ((headP c a l ++ headP c a l) ++ headP c a l) ++ [0] = headL c a l from rfl] at a6
  have HHB := Lib.hid (show headB c a l = ⟨(headL c a l).toArray⟩ from rfl)
  generalize headB c a l = HB at HHB ⊢
  have HBk := Lib.hid (fun (W : World) (p : Nat) (h : W.heap[p]? = some (.cells #[.int .u8 (b.toNat : Int)] 5 (0, 0))) => back_one h)
  clear l1 l2 l3 hb hbt hP hRt eR HRt
  have hR : (⟨([82, 69, 68, 79] : List UInt8).toArray⟩ : ByteArray) = ⟨#[82, 69, 68, 79]⟩ := rfl
  have hZ : (⟨([0] : List UInt8).toArray⟩ : ByteArray) = ⟨#[0]⟩ := rfl
  rw [hR] at a1
  rw [hZ] at a6
  clear hR hZ
  generalize (⟨(headL c a l).toArray⟩ : ByteArray) = X6 at HHB a6
  generalize (⟨((headP c a l ++ headP c a l) ++ headP c a l).toArray⟩ : ByteArray) = X5 at HRp a6
  generalize (⟨(headP c a l).toArray⟩ : ByteArray) = X3 at a3 HRp
  generalize (⟨(([82, 69, 68, 79] ++ be8 c) ++ [b]).toArray⟩ : ByteArray) = X2 at a2 a3
  generalize (⟨([82, 69, 68, 79] ++ be8 c).toArray⟩ : ByteArray) = X1 at a1 a2
  generalize (⟨(be8 c).toArray⟩ : ByteArray) = E1 at HE1 a1
  generalize (⟨(be8 l).toArray⟩ : ByteArray) = E2 at HE2 a3
  generalize (⟨[b].toArray⟩ : ByteArray) = B1 at a2 HBk
  generalize b.toNat = bt at hcv HBk
  have hal : Below w.heap.size w (w.alloc (.cells #[.int .i64 (c : Int), .int .i64 (a : Int), .int .i64 (l : Int)] 81)) := (Below.refl _ w).alloc (Nat.le_refl _) _
  have hcb : Cel (w.alloc (.cells #[.int .i64 (c : Int), .int .i64 (a : Int), .int .i64 (l : Int)] 81)) w.heap.size 81 [.int .i64 (c : Int), .int .i64 (a : Int), .int .i64 (l : Int)] := (blk1 w _).2
  unfold hdV
  go_enter Tryz.func114, Tryz.ntmps114
  go_upto_region 1 with fail
  generalize w.alloc (.cells #[.int .i64 (c : Int), .int .i64 (a : Int), .int .i64 (l : Int)] 81) = W1 at *
  have HB1 := Lib.hid hal
  have HC1 := Lib.hid hcb
  have hlt := hcb.lt
  clear hal hcb
  generalize hk : w.heap.size = k at HC1 hlt ⊢
  refine wp_region_said 15 [4, 5, 6, 7, 8, 9, 10, 11, 12, 13, 14, 15, 16, 17, 3]
    [.is (.pointer (some ⟨k, 0, none⟩)), .is (.int .i64 (c : Int)), .is (.string E1), .is (.string X1), .is (.pointer (some ⟨k, 1, none⟩)), .is (.int .i64 (a : Int)), .is (.int .u8 (bt : Int)), .arr 5 #[.int .u8 (bt : Int)] 1 1, .is (.string B1), .is (.string X2), .is (.pointer (some ⟨k, 2, none⟩)), .is (.int .i64 (l : Int)), .is (.string E2), .is (.string X3), .is (.string X3)]
    (fun W => Cel W k 81 [.int .i64 (c : Int), .int .i64 (a : Int), .int .i64 (l : Int)]) (by kernel_rfl) (by kernel_rfl) (by kernel_rfl) (by kernel_rfl) (by kernel_rfl) (fun _ _ h hb => h.below hb) HC1.out ?steps ?last
  case steps =>
    simp only [List.take_succ_cons, List.take_zero]
    refine ⟨?_, ?_, ?_, ?_, ?_, ?_, ?_, ?_, ?_, ?_, ?_, ?_, ?_, ?_, ?_, trivial⟩
    all_goals
      intro vs W ρ hρ hc hf hg hI hH hd R' hR
      have z0 := hI.cell (i := 0) rfl
      have z1 := hI.cell (i := 1) rfl
      have z2 := hI.cell (i := 2) rfl
      have HR := Lib.hid hR
      simp [depsOf, Region.binds, sayAt, Say.holds] at hd
      clear hR hI
    case refine_8 =>
      go_simp
      exact HR.out _ _ ⟨W.heap.size, hH, by simp, rfl, heap_alloc_new W _⟩ ((Below.refl _ _).alloc (Nat.le_refl _) _) (fun h => by cases h)
    case refine_9 =>
      obtain ⟨p, hp1, hp2, hp3, hp4⟩ := hd
      have hbk := HBk.out _ p hp4
      go_simp
      exact HR.out _ _ (by simp [sayAt, Say.holds]) (Below.refl _ _) (by simp [sayAt, Say.isBlk])
    case refine_3 =>
      go_simp
      refine (HE1.out _).mono ?_
      rintro e w' ⟨rfl, hb⟩
      exact ⟨_, rfl, HR.out _ _ (by simp [sayAt, Say.holds]) hb (by simp [sayAt, Say.isBlk])⟩
    case refine_13 =>
      go_simp
      refine (HE2.out _).mono ?_
      rintro e w' ⟨rfl, hb⟩
      exact ⟨_, rfl, HR.out _ _ (by simp [sayAt, Say.holds]) hb (by simp [sayAt, Say.isBlk])⟩
    all_goals
      go_simp
      first
        | exact HR.out _ _ (by simp [sayAt, Say.holds]) (Below.refl _ _) (by simp [sayAt, Say.isBlk])
        | trace_state
  case last =>
    intro vs W hI hb hg hd
    have g := hg 14 (by omega)
    simp only [sayAt, Say.holds, List.getD_cons_succ, List.getD_cons_zero] at g
    simp only [List.take_succ_cons, List.take_zero, List.drop_succ_cons, List.drop_zero, putAll, Act.put, List.setIfInBounds_toArray, List.set_cons_succ, List.set_cons_zero, Nat.zero_add, Nat.reduceAdd]
    rw [g]
    have HB2 := Lib.hid (HB1.out.trans (hb.mono (by omega)))
    clear g hg hd hb hI
    go_wp2_with fail
    refine (HRp.out _).mono ?_
    rintro e w5 ⟨rfl, hb5⟩
    have HB5 := Lib.hid (HB2.out.trans (hb5.mono HB2.out.size))
    clear hb5
    go_wp2_with fail
    go_ret
    exact ⟨by rw [HHB.out]; rfl, HB5.out⟩

end Rd
end Go.Proofs.YtjehjbkcdpidbaaGreat
