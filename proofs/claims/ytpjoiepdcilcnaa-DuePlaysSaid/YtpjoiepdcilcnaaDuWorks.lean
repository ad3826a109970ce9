/- The chapter's example holds; no condition. -/
import Derived.Test.YtpjoiepdcilcnaaDuLaw
namespace Go.Proofs.Ytpjoiepdcilcnaa
namespace Du
open Go.RowKit Bk

/-- the queue behind the first puts -/
def eP : Nat → Ds
  | 0 => newD
  | 1 => e1
  | 2 => e2
  | _ => e3
/-- and behind the takes -/
def eT : Nat → Ds
  | 0 => e4
  | 1 => e5
  | 2 => e6
  | _ => e7

def triC : List Value := [.int .i64 5, .int .i64 1, .int .i64 7, .int .i64 3, .int .i64 1, .int .i64 8, .int .i64 4, .int .i64 9, .int .i64 9]

set_option maxRecDepth 20000 in
set_option maxHeartbeats 8000000 in
theorem works_any (w : World) : Calls Try.prog 8 #[] w fun e w' => e = .returned (.bool true) ∧ Below w.heap.size w w' := by
  go_enter Try.func8, Try.ntmps8
  go_wp2_with fail
  refine (snew (Below.refl w.heap.size w)).mono ?_
  rintro e w1 ⟨b, rfl, h1⟩
  have H1 := Lib.hid h1
  clear h1
  go_upto_region 5 with fail
  have hk : Cel (w1.alloc (.cells #[.int .i64 5, .int .i64 1, .int .i64 7, .int .i64 3, .int .i64 1, .int .i64 8, .int .i64 4, .int .i64 9, .int .i64 9] 57)) w1.heap.size 57 triC := (blk1 w1 _).2
  have h2 := H1.out.beside (o := .cells #[.int .i64 5, .int .i64 1, .int .i64 7, .int .i64 3, .int .i64 1, .int .i64 8, .int .i64 4, .int .i64 9, .int .i64 9] 57) rfl
  generalize w1.alloc (.cells #[.int .i64 5, .int .i64 1, .int .i64 7, .int .i64 3, .int .i64 1, .int .i64 8, .int .i64 4, .int .i64 9, .int .i64 9] 57) = w2 at hk h2 ⊢
  generalize w1.heap.size = p at hk h2 ⊢
  have H2 := Lib.hid (And.intro h2 hk)
  clear h2 hk H1
  go_loopw [20] (fun i wr => ∃ j : Nat, j ≤ 3 ∧ i = .int .i64 (j : Int) ∧ Hid (QS w wr (fun k => False ∨ k = p) b (eP j)) ∧ Hid (Cel wr p 57 triC)) (fun i _ => 3 - (intOf i).toNat)
  case atStart => exact ⟨0, by omega, rfl, H2.out.1, H2.out.2⟩
  case round =>
    obtain ⟨j, hj, rfl, hq, hc⟩ := hrel
    by_cases hlt : j < 3
    · obtain ⟨a, u, i, D', n', c0, c1, c2, hput, hD'⟩ : ∃ (a u i : Int) (D' : Ds) (n' : Int), wr.cell? ⟨p, j * 3, none⟩ = some (.int .i64 a) ∧ wr.cell? ⟨p, j * 3 + 1, none⟩ = some (.int .i64 u) ∧ wr.cell? ⟨p, j * 3 + 2, none⟩ = some (.int .i64 i) ∧ putD (eP j) a u i = (D', (j : Int) + 1, 0) ∧ eP (j + 1) = D' := by
        have h3 : j = 0 ∨ j = 1 ∨ j = 2 := by omega
        rcases h3 with rfl | rfl | rfl
        · exact ⟨5, 1, 7, _, 0, hc.out.cell rfl, hc.out.cell rfl, hc.out.cell rfl, ex1, rfl⟩
        · exact ⟨3, 1, 8, _, 0, hc.out.cell rfl, hc.out.cell rfl, hc.out.cell rfl, ex2, rfl⟩
        · exact ⟨4, 9, 9, _, 0, hc.out.cell rfl, hc.out.cell rfl, hc.out.cell rfl, ex3, rfl⟩
      have hmany : (eP j).many ≤ 4611686018427387904 := by
        have h3 : j = 0 ∨ j = 1 ∨ j = 2 := by omega
        rcases h3 with rfl | rfl | rfl <;> decide
      have HP := Lib.hid (fun W (hb : Below wr.heap.size wr W) => sput (hq.out.below hb) a u i hmany)
      rw [hput] at HP
      have HD := Lib.hid hD'
      have p1 : (j : Int) < 3 := by omega
      clear hput hD' hmany
      go_wp2_with fail
      refine (HP.out _ ((Below.refl _ _).alloc (Nat.le_refl _) _)).mono ?_
      rintro e w3 ⟨rfl, h3, hs⟩
      have hc3 : Cel w3 p 57 triC := (hs p (.inr rfl)).trans (hc.out.below ((Below.refl _ wr).alloc (Nat.le_refl _) _))
      have H3 := Lib.hid (And.intro h3 hc3)
      clear h3 hs hc3 HP c0 c1 c2
      go_wp2_with fail
      go_roundw
      case rel => exact ⟨j + 1, by omega, by go_num, by rw [HD.out]; exact H3.out.1, H3.out.2⟩
      case measure => simp [intOf]; omega
    · obtain rfl : j = 3 := by omega
      have hT := stake hq.out
      rw [show eP 3 = e3 from rfl, ex4] at hT
      have HT := Lib.hid hT
      clear hT
      go_wp2_with fail
      refine HT.out.mono ?_
      rintro e w3 ⟨rfl, h3, _⟩
      have hG := sgo h3 5
      rw [ex5] at hG
      have HG := Lib.hid hG
      clear hG h3 HT
      go_wp2_with fail
      refine HG.out.mono ?_
      rintro e w4 ⟨rfl, h4, _⟩
      have H4 := Lib.hid h4
      clear h4 HG
      go_upto_region 15 with fail
      have hk : Cel (w4.alloc (.cells #[.int .i64 9, .int .i64 8, .int .i64 7] 3)) w4.heap.size 3 [.int .i64 9, .int .i64 8, .int .i64 7] := (blk1 w4 _).2
      have h5 := H4.out.beside (o := .cells #[.int .i64 9, .int .i64 8, .int .i64 7] 3) rfl
      generalize w4.alloc (.cells #[.int .i64 9, .int .i64 8, .int .i64 7] 3) = w5 at hk h5 ⊢
      generalize w4.heap.size = r at hk h5 ⊢
      have H5 := Lib.hid (And.intro h5 hk)
      clear h5 hk H4
      go_loopw [58] (fun i wr => ∃ j : Nat, j ≤ 3 ∧ i = .int .i64 (j : Int) ∧ Hid (QS w wr (fun k => (False ∨ k = p) ∨ k = r) b (eT j)) ∧ Hid (Cel wr r 3 [.int .i64 9, .int .i64 8, .int .i64 7])) (fun i _ => 3 - (intOf i).toNat)
      case atStart => exact ⟨0, by omega, rfl, H5.out.1, H5.out.2⟩
      case round =>
        obtain ⟨j, hj, rfl, hq, hc⟩ := hrel
        by_cases hlt : j < 3
        · obtain ⟨x, D', c0, htk, hD'⟩ : ∃ (x : Int) (D' : Ds), wr.cell? ⟨r, j, none⟩ = some (.int .i64 x) ∧ takeD (eT j) = (D', x, true) ∧ eT (j + 1) = D' := by
            have h3 : j = 0 ∨ j = 1 ∨ j = 2 := by omega
            rcases h3 with rfl | rfl | rfl
            · exact ⟨9, _, hc.out.cell rfl, ex6, rfl⟩
            · exact ⟨8, _, hc.out.cell rfl, ex7, rfl⟩
            · exact ⟨7, _, hc.out.cell rfl, ex8, rfl⟩
          have hT := stake hq.out
          rw [htk] at hT
          have HT := Lib.hid hT
          have HD := Lib.hid hD'
          have p1 : (j : Int) < 3 := by omega
          clear htk hD' hT
          go_wp2_with fail
          refine HT.out.mono ?_
          rintro e w6 ⟨rfl, h6, hs⟩
          have hc6 : Cel w6 r 3 [.int .i64 9, .int .i64 8, .int .i64 7] := (hs r (.inr rfl)).trans hc.out
          have H6 := Lib.hid (And.intro h6 hc6)
          clear h6 hs hc6 HT c0
          go_wp2_with fail
          go_roundw
          case rel => exact ⟨j + 1, by omega, by go_num, by rw [HD.out]; exact H6.out.1, H6.out.2⟩
          case measure => simp [intOf]; omega
        · obtain rfl : j = 3 := by omega
          have HL := Lib.hid (slen hq.out)
          have HB := Lib.hid hq.out.bel
          go_wp2_with fail
          refine HL.out.mono ?_
          rintro e w6 ⟨rfl, hb⟩
          have HB2 := Lib.hid (HB.out.trans (hb.mono HB.out.size))
          rw [show ((eT 3).L.length : Int) = 0 from rfl]
          clear hb HL HB
          go_wp2_with fail
          go_ret
          exact ⟨rfl, HB2.out⟩

end Du
end Go.Proofs.Ytpjoiepdcilcnaa
