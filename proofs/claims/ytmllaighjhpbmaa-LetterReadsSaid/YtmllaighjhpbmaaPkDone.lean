/- What the landed package's Decode answers: contract; no condition but the range. -/
import Derived.Test.YtmllaighjhpbmaaPkDone5
namespace Go.Proofs.Ytmllaighjhpbmaa
namespace Pk
open Go.RowKit Bk

attribute [local go_sem ↓] Go.wp_at_zero Go.wp_at_succ
attribute [local go_sem] floatUpon pick

set_option maxRecDepth 20000 in
set_option maxHeartbeats 2000000 in
theorem decodeAll : DecodeAll := by
  intro s w hs
  have hB : (s.size : Int) ≤ 1000000000000000 := by omega
  have HMk : Hid (∀ (A B : Option Addr) (c d : Nat) (x y : Nat) (ns : List Int) (ts : List ByteArray) (w' : World), decR s = (ns, ts, x, y) → IntsAt w' A ns → StrsAt w' B ts → Below w.heap.size w w' → ns.length ≤ c → ts.length ≤ d → c ≤ maxLen → d ≤ maxLen → DecAns2 s w (.returned (.tuple #[packV A B c d ns ts, .int .i64 (x : Int), .int .i64 (y : Int)])) w') := Lib.hid (fun A B c d x y ns ts w' h1 h2 h3 h4 h5 h6 h7 h8 => by
    refine ⟨A, B, c, d, ?_, ?_, ?_, h4, ?_, ?_, h7, h8⟩ <;> rw [h1]
    · exact h2
    · exact h3
    · exact h5
    · exact h6)
  unfold packV at HMk
  have HI := Lib.hid (fun W => readInts_any s 0 W (by omega) hs)
  have HT := Lib.hid (fun a (ha : a ≤ s.size) W => readTexts_any s a W ha hs)
  unfold IntsAns at HI
  unfold TxtsAns at HT
  clear hs
  go_enter Try.func36, Try.ntmps36
  go_upto_region 1 with fail
  have hR0 : Cel (w.alloc (.cells #[.slice none 0 0, .slice none 0 0] 48)) w.heap.size 48 [.slice none 0 0, .slice none 0 0] := (blk1 w _).2
  have hBW : Below w.heap.size w (w.alloc (.cells #[.slice none 0 0, .slice none 0 0] 48)) := (Below.refl _ w).alloc (Nat.le_refl _) _
  generalize w.alloc (.cells #[.slice none 0 0, .slice none 0 0] 48) = W1 at hR0 hBW ⊢
  have HR0 := Lib.hid hR0
  have HBW := Lib.hid hBW
  clear hR0 hBW
  go_wp2_with fail
  refine (HI.out _).mono ?_
  rintro e w2 ⟨v1, ns, p, c, rfl, hown1, hsd, hb⟩
  rw [List.drop_zero] at hsd
  have HR2 := Lib.hid (HR0.out.below hb)
  have HB2 := Lib.hid (HBW.out.trans (hb.mono HBW.out.size))
  have hlt1 : w.heap.size < W1.heap.size := HR0.out.lt
  have HS12 := Lib.hid hb.size
  clear HI hb
  rcases hsd with ⟨rfl, hp, hok⟩ | ⟨hc, hc5, hp, rfl, er, herr, hpe, hce⟩
  · have HO1 := Lib.hid hown1
    have HOk := Lib.hid hok
    have HTp := Lib.hid (HT.out p hp)
    clear hown1 hok HT hp HR0 HBW
    go_wp2_with fail
    refine (HTp.out _).mono ?_
    rintro e w3 ⟨v2, ts, q, c, rfl, hown2, hsd, hb⟩
    have HR3 := Lib.hid (HR2.out.below hb)
    have HO3 := Lib.hid (st_keep HO1.out hb)
    have HB3 := Lib.hid (HB2.out.trans (hb.mono HB2.out.size))
    have hw12 : W1.heap.size ≤ w2.heap.size := HS12.out
    have HO2 := Lib.hid (owns_lower hown2 hw12)
    clear hown2 hb HO1 HR2 HB2 HTp hw12 HS12
    rcases hsd with ⟨rfl, hq, hok2⟩ | ⟨hc, hc5, hq, rfl, er, herr, hpe, hce⟩
    · by_cases hlt : q < s.size
      · have HD := Lib.hid (show decR s = ([], [], q, 3) by
          unfold decR
          rw [decL_lists, HOk.out]; simp only; rw [hok2]; simp only
          rw [if_neg (fun e => by have := List.drop_eq_nil_iff.1 e; rw [list_size] at this; omega)]
          simp only [Er.place, Er.code, List.length_drop, list_size]
          rw [show s.size - (s.size - q) = q by omega])
        have pq : (q : Int) < (s.size : Int) := by omega
        have q0 := HR3.out.cell (i := 0) rfl
        have q1 := HR3.out.cell (i := 1) rfl
        have q2 := HR3.out.free (i := 0)
        have q3 := HR3.out.free (i := 1)
        clear hok2 hlt
        go_wp2_with fail
        have HF := Lib.hid ((HR3.out.set (i := 0) (v := .slice none 0 0)).set (i := 1) (v := .slice none 0 0))
        have z0 := HF.out.cell (i := 0) rfl
        have z1 := HF.out.cell (i := 1) rfl
        exact bodyPost_ret (v := .tuple #[.agg #[.slice none 0 0, .slice none 0 0], .int .i64 (q : Int), .int .i64 (3 : Int)]) (by simp [results, Try.results36, go_sem, z0, z1]) rfl
          (HMk.out none none 0 0 q 3 [] [] _ HD.out noInts noStrs ((HB3.out.setCell (Nat.le_refl _) _).setCell (Nat.le_refl _) _) (Nat.zero_le _) (Nat.zero_le _) (Nat.zero_le _) (Nat.zero_le _))
      · have HD := Lib.hid (show decR s = (ns, ts, 0, 0) by
          unfold decR
          rw [decL_lists, HOk.out]; simp only; rw [hok2]; simp only
          rw [if_pos (List.drop_eq_nil_of_le (by rw [list_size]; omega))])
        have pq : (s.size : Int) ≤ (q : Int) := by omega
        have q0 := HR3.out.cell (i := 0) rfl
        have q1 := HR3.out.cell (i := 1) rfl
        have q2 := HR3.out.free (i := 0)
        have q3 := HR3.out.free (i := 1)
        obtain ⟨A1, cA, rfl, l1, l2⟩ := own_form HO3.out
        obtain ⟨B1, cB, rfl, l3, l4⟩ := own_form HO2.out
        have HL := Lib.hid (And.intro l1 (And.intro l2 (And.intro l3 l4)))
        clear hok2 hlt l1 l2 l3 l4
        go_wp2_with fail
        have HF := Lib.hid ((HR3.out.set (i := 0) (v := .slice A1 ns.length cA)).set (i := 1) (v := .slice B1 ts.length cB))
        have z0 := HF.out.cell (i := 0) rfl
        have z1 := HF.out.cell (i := 1) rfl
        have rr0 := ownsRow_setCell_below (ownsRow_setCell_below HO3.out (a := ⟨w.heap.size, 0, none⟩) hlt1 (.slice A1 ns.length cA)) (a := ⟨w.heap.size, 1, none⟩) hlt1 (.slice B1 ts.length cB)
        have rr1 := ownsRow_setCell_below (ownsRow_setCell_below HO2.out (a := ⟨w.heap.size, 0, none⟩) hlt1 (.slice A1 ns.length cA)) (a := ⟨w.heap.size, 1, none⟩) hlt1 (.slice B1 ts.length cB)
        exact bodyPost_ret (v := .tuple #[.agg #[.slice A1 ns.length cA, .slice B1 ts.length cB], .int .i64 ((0 : Nat) : Int), .int .i64 ((0 : Nat) : Int)]) (by simp [results, Try.results36, go_sem, z0, z1]) rfl
          (HMk.out A1 B1 cA cB 0 0 ns ts _ HD.out (ints_own_at rr0 rfl) (strs_own_at rr1 rfl) ((HB3.out.setCell (Nat.le_refl _) _).setCell (Nat.le_refl _) _) HL.out.1 HL.out.2.2.1 HL.out.2.1 HL.out.2.2.2)
    · have HD := Lib.hid (show decR s = ([], [], q, c) by
        unfold decR
        rw [decL_lists, HOk.out]; simp only; rw [herr, hpe, hce])
      have pne : ((c : Int) != 0) = true := by simp; omega
      have q0 := HR3.out.cell (i := 0) rfl
      have q1 := HR3.out.cell (i := 1) rfl
      have q2 := HR3.out.free (i := 0)
      have q3 := HR3.out.free (i := 1)
      clear herr hpe hce hc
      go_wp2_with fail
      have HF := Lib.hid ((HR3.out.set (i := 0) (v := .slice none 0 0)).set (i := 1) (v := .slice none 0 0))
      have z0 := HF.out.cell (i := 0) rfl
      have z1 := HF.out.cell (i := 1) rfl
      exact bodyPost_ret (v := .tuple #[.agg #[.slice none 0 0, .slice none 0 0], .int .i64 (q : Int), .int .i64 (c : Int)]) (by simp [results, Try.results36, go_sem, z0, z1]) rfl
        (HMk.out none none 0 0 q c [] [] _ HD.out noInts noStrs ((HB3.out.setCell (Nat.le_refl _) _).setCell (Nat.le_refl _) _) (Nat.zero_le _) (Nat.zero_le _) (Nat.zero_le _) (Nat.zero_le _))
  · have HD := Lib.hid (show decR s = ([], [], p, c) by
      unfold decR; rw [decL_lists, herr, hpe, hce])
    have pne : ((c : Int) != 0) = true := by simp; omega
    have q0 := HR2.out.cell (i := 0) rfl
    have q1 := HR2.out.cell (i := 1) rfl
    have q2 := HR2.out.free (i := 0)
    have q3 := HR2.out.free (i := 1)
    clear herr hpe hce hc hown1 HT HR0 HBW
    go_wp2_with fail
    have HF := Lib.hid ((HR2.out.set (i := 0) (v := .slice none 0 0)).set (i := 1) (v := .slice none 0 0))
    have z0 := HF.out.cell (i := 0) rfl
    have z1 := HF.out.cell (i := 1) rfl
    exact bodyPost_ret (v := .tuple #[.agg #[.slice none 0 0, .slice none 0 0], .int .i64 (p : Int), .int .i64 (c : Int)]) (by simp [results, Try.results36, go_sem, z0, z1]) rfl
      (HMk.out none none 0 0 p c [] [] _ HD.out noInts noStrs ((HB2.out.setCell (Nat.le_refl _) _).setCell (Nat.le_refl _) _) (Nat.zero_le _) (Nat.zero_le _) (Nat.zero_le _) (Nat.zero_le _))

end Pk
end Go.Proofs.Ytmllaighjhpbmaa
