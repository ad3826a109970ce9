/- What all laws of layer 3 use: texts compared, and the chapter's example of the landed code; no condition but the range. -/
import Derived.Test.YtmnciipfepeccaaStEnc
import Derived.BigQuiet
import Derived.Deep.QuietTactic
namespace Go.Proofs.Ytmnciipfepeccaa
open Go.RowKit

theorem text_ne {s t : ByteArray} (h : s ≠ t) : (s.toList == t.toList) = false := by
  rw [beq_eq_false_iff_ne]
  intro e
  rw [ByteArray.toList_eq, ByteArray.toList_eq] at e
  apply h
  obtain ⟨a⟩ := s
  obtain ⟨b⟩ := t
  congr 1
  exact Array.toList_inj.1 e

theorem text_eq (s : ByteArray) : (s.toList == s.toList) = true := by simp

set_option maxRecDepth 20000 in
set_option maxHeartbeats 2000000 in
theorem same_any (A B : Option Addr) (c d : Nat) (a b : List ByteArray) (w : World) (ha : StrsAt w A a) (hb : StrsAt w B b) (hn : a.length ≤ 9223372036854775807) :
    Calls Try.prog 23 #[.slice A a.length c, .slice B b.length d] w fun e w' => e = .returned (.bool (decide (a = b))) ∧ ∃ n, w' = w.drewN n := by
  by_cases hl : a.length = b.length
  · have q1 : ((a.length : Int) != (b.length : Int)) = false := by simp [hl]
    have HA := Lib.hid ha
    have HB := Lib.hid hb
    have HL := Lib.hid hl
    clear ha hb hl
    go_enter Try.func23, Try.ntmps23
    go_wp2_with fail
    go_loopw [5] (fun i wr => ∃ j n : Nat, j ≤ a.length ∧ i = .int .i64 (j : Int) ∧ Hid (∀ x (h : x < a.length) (h2 : x < b.length), x < j → a[x] = b[x]) ∧ wr = w.drewN n) (fun i _ => a.length - (intOf i).toNat)
    case atStart => exact ⟨0, 0, by omega, rfl, fun x _ _ h => absurd h (by omega), rfl⟩
    case round =>
      obtain ⟨j, n, hj, rfl, heq, rfl⟩ := hrel
      by_cases hlt : j < a.length
      · have hltb : j < b.length := by rw [← HL.out]; exact hlt
        obtain ⟨ad, rfl, _, hca⟩ := HA.out (by omega)
        obtain ⟨bd, rfl, _, hcb⟩ := HB.out (by omega)
        have c1 := hca j hlt
        have c2 := hcb j hltb
        have p1 : (j : Int) < (a.length : Int) := by omega
        have p2 : (j : Int) < (b.length : Int) := by omega
        clear hca hcb
        generalize hW : w.drewN n = W
        have HW := Lib.hid hW
        have c1' : W.cell? (ad.add j) = some (.string a[j]) := by rw [← hW]; exact c1
        have c2' : W.cell? (bd.add j) = some (.string b[j]) := by rw [← hW]; exact c2
        clear hW c1 c2
        by_cases hx : a[j] = b[j]
        · have q2 : (a[j].toList == b[j].toList) = true := by rw [hx]; simp
          have HX := Lib.hid hx
          clear hx
          go_wp2_with fail
          go_quiet (fail)
          go_wp2
          go_roundw
          case rel => exact ⟨j + 1, _, by omega, by go_num, (fun x h h2 hxj => by
            by_cases e : x = j
            · subst e; exact HX.out
            · exact heq.out x h h2 (by omega)), by rw [← HW.out, World.drewN_drewN]⟩
          case measure => simp [intOf]; omega
        · have q2 : (a[j].toList == b[j].toList) = false := text_ne hx
          have E := Lib.hid (show decide (a = b) = false by rw [decide_eq_false_iff_not]; intro e; exact hx (by simp only [e]))
          clear hx
          go_wp2_with fail
          go_quiet (fail)
          go_wp2
          go_ret
          exact ⟨by rw [E.out]; rfl, _, by rw [← HW.out, World.drewN_drewN]⟩
      · have E := Lib.hid (show decide (a = b) = true by
          rw [decide_eq_true_eq]
          exact List.ext_getElem HL.out fun x h h2 => heq.out x h h2 (by omega))
        go_wp2_with fail
        go_ret
        exact ⟨by rw [E.out]; rfl, _, rfl⟩
  · have q1 : ((a.length : Int) != (b.length : Int)) = true := by simp; omega
    have E := Lib.hid (show decide (a = b) = false by rw [decide_eq_false_iff_not]; intro e; exact hl (by rw [e]))
    clear hl ha hb
    go_enter Try.func23, Try.ntmps23
    go_wp2_with fail
    go_ret
    exact ⟨by rw [E.out]; rfl, 0, rfl⟩

theorem abc_shards : St.shards 2 ⟨#[97, 98, 99]⟩ = [⟨#[0, 0, 0, 3]⟩, ⟨#[97, 98, 99, 0]⟩] := by decide +kernel

theorem abc_all : (allS 2 1 ⟨#[97, 98, 99]⟩).map (·.size) = [4, 4, 4] := by decide +kernel

theorem abc_join : joinV [⟨#[0, 0, 0, 3]⟩, ⟨#[97, 98, 99, 0]⟩] = .tuple #[.string ⟨#[97, 98, 99]⟩, .int .i64 0] := by
  have : St.joinAns [⟨#[0, 0, 0, 3]⟩, ⟨#[97, 98, 99, 0]⟩] = (⟨#[97, 98, 99]⟩, 0) := by decide +kernel
  unfold joinV
  rw [this]; rfl

set_option maxRecDepth 20000 in
set_option maxHeartbeats 2000000 in
theorem stworks (w : World) : Calls Try.prog 24 #[] w fun e w' => e = .returned (.bool true) ∧ Below w.heap.size w w' := by
  have E1 : Hid (∀ H e w', SplitAns H 2 ⟨#[97, 98, 99]⟩ e w' → ∃ g, e = .returned (.tuple #[.slice (some ⟨g, 0, none⟩) 2 2, .int .i64 0]) ∧ StrBlk w' g [⟨#[0, 0, 0, 3]⟩, ⟨#[97, 98, 99, 0]⟩]) := fun H e w' h => by
    unfold SplitAns at h
    rw [if_pos (by decide), if_pos (by decide)] at h
    obtain ⟨g, h1, _, h3⟩ := h
    rw [show ((2 : Int).toNat) = 2 from rfl, abc_shards] at h3
    exact ⟨g, h1, h3⟩
  have E2 : Hid (∀ H e w', EncodeAns H 2 1 ⟨#[97, 98, 99]⟩ e w' → ∃ g cap s, e = .returned (.tuple #[.slice (some ⟨g, 0, none⟩) 3 cap, .int .i64 0]) ∧ s.size = 4 ∧ w'.cell? ⟨g, 2, none⟩ = some (.string s) ∧ g < w'.heap.size) := fun H e w' h => by
    unfold EncodeAns at h
    rw [if_pos (by decide), if_pos (by decide)] at h
    obtain ⟨v, h1, h2⟩ := h
    have h2' : w'.ownsRow H 9 1 v 3 (strV (allS 2 1 ⟨#[97, 98, 99]⟩)) := h2
    obtain ⟨g, cap, rfl, _, hlt⟩ := World.ownsRow.form h2' (by omega)
    have hl := allS_len 2 1 ⟨#[97, 98, 99]⟩
    refine ⟨g, cap, (allS 2 1 ⟨#[97, 98, 99]⟩)[2]'(by omega), h1, ?_, ?_, hlt⟩
    · have := congrArg (fun l => l[2]?) abc_all
      simp only [List.getElem?_map, List.getElem?_eq_getElem (show 2 < (allS 2 1 ⟨#[97, 98, 99]⟩).length by omega)] at this
      simpa using this
    · rw [World.ownsRow.cellAt h2' 2 (by omega), strV_at (by omega)]
  go_enter Try.func24, Try.ntmps24
  go_wp2_with fail
  refine (split_any 2 ⟨#[97, 98, 99]⟩ _ (by decide)).mono ?_
  rintro e w1 ⟨hans, hb⟩
  obtain ⟨g1, rfl, hs1⟩ := E1.out _ _ _ hans
  have S1 := Lib.hid hs1
  have B1 := Lib.hid hb
  clear hans hb hs1
  go_wp2_with fail
  refine (encode_any 2 1 ⟨#[97, 98, 99]⟩ _ (by decide)).mono ?_
  rintro e w2 ⟨hans, hb⟩
  obtain ⟨g2, cap, s, rfl, hsz, hcell, hlt⟩ := E2.out _ _ _ hans
  have C2 := Lib.hid hcell
  have HSZ := Lib.hid hsz
  have S2 := Lib.hid (S1.out.below hb)
  have B2 := Lib.hid (B1.out.trans (hb.mono B1.out.size))
  clear hans hb hcell hsz S1 B1
  go_wp2_with fail
  have hj := join_any (some ⟨w2.heap.size, 0, none⟩) 2 [⟨#[0, 0, 0, 3]⟩, ⟨#[97, 98, 99, 0]⟩] (w2.alloc (.cells #[.string ⟨#[0, 0, 0, 3]⟩, .string ⟨#[97, 98, 99, 0]⟩] 9)) (StrsAt.blk (heap_alloc_new w2 _)) (by decide) (by decide)
  rw [abc_join] at hj
  have HJ := Lib.hid hj
  clear hj
  refine HJ.out.mono ?_
  rintro e w3 ⟨rfl, hb⟩
  have hb' : Below w2.heap.size w2 w3 := below_new hb
  have c3 := (hb'.cell (p := ⟨g2, 2, none⟩) hlt).trans C2.out
  have S3 := Lib.hid (S2.out.below hb')
  have B3 := Lib.hid (B2.out.trans (hb'.mono B2.out.size))
  have q4 : ((s.size : Int) == 4) = true := by rw [HSZ.out]; rfl
  have hlt3 : g2 < w3.heap.size := Nat.lt_of_lt_of_le hlt hb'.size
  clear hb hb' S2 B2 C2 HJ
  go_wp2_with fail
  have hsm := same_any (some ⟨g1, 0, none⟩) (some ⟨w3.heap.size, 0, none⟩) 2 2 [⟨#[0, 0, 0, 3]⟩, ⟨#[97, 98, 99, 0]⟩] [⟨#[0, 0, 0, 3]⟩, ⟨#[97, 98, 99, 0]⟩] (w3.alloc (.cells #[.string ⟨#[0, 0, 0, 3]⟩, .string ⟨#[97, 98, 99, 0]⟩] 9)) ((StrsAt.blk S3.out).alloc _) (StrsAt.blk (heap_alloc_new w3 _)) (by decide)
  rw [show decide (([⟨#[0, 0, 0, 3]⟩, ⟨#[97, 98, 99, 0]⟩] : List ByteArray) = [⟨#[0, 0, 0, 3]⟩, ⟨#[97, 98, 99, 0]⟩]) = true by decide] at hsm
  have HSM := Lib.hid hsm
  clear hsm
  refine HSM.out.mono ?_
  rintro e w4 ⟨rfl, n, rfl⟩
  go_wp2_with fail
  go_ret
  exact ⟨rfl, below_drewN (B3.out.alloc B3.out.size _) n⟩

end Go.Proofs.Ytmnciipfepeccaa
