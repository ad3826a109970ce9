/- Parts of the proof, joined: MatRInv; their conditions stand with each. -/
import Derived.BigRegion
import Derived.Deep.RegionWith
import Derived.Test.YtemcjnbgcecinaaA4
import Derived.Test.YtemcjnbgcecinaaA6

/- What the document's own inverse does, by steps on rows; no condition but the form's reach. -/
namespace Go.Proofs.Ytemcjnbgcecinaa
open Go.RowKit

theorem two_rows {w : World} {H g1 g2 n c1 c2 : Nat} {e : TypeId} {xs ys : List Value} (h1 : w.ownsRow H e 1 (.slice (some ⟨g1, 0, none⟩) n c1) n xs) (h2 : w.ownsRow H e 1 (.slice (some ⟨g2, 0, none⟩) n c2) n ys) (hne : g1 ≠ g2) (k : Nat) (v : Value) :
    (w.setCell ⟨g1, k, none⟩ v).ownsRow H e 1 (.slice (some ⟨g1, 0, none⟩) n c1) n (xs.set k v) ∧ (w.setCell ⟨g1, k, none⟩ v).ownsRow H e 1 (.slice (some ⟨g2, 0, none⟩) n c2) n ys := by
  have R := h1.stored k v
  exact ⟨R.1, h2.kept R.2 (.inr (by simp [Value.ownBlock]; exact fun x => hne x.symm))⟩

theorem owns_base {w : World} {H H' n : Nat} {v : Value} {e : TypeId} {xs : List Value} (h : w.ownsRow H e 1 v n xs) (hH : H' ≤ H) : w.ownsRow H' e 1 v n xs := by
  refine ⟨h.1, ?_⟩
  rcases h.2 with h' | ⟨g, cap, cur, hv, h1, h2, h3, h4, h5, h6⟩
  · exact .inl h'
  · exact .inr ⟨g, cap, cur, hv, Nat.le_trans hH h1, h2, h3, h4, h5, h6⟩

theorem rowsV_congr (r c : Nat) {A A' : Nat → Nat → UInt8} (h : ∀ i j, i < r → j < c → A i j = A' i j) : rowsV r c A = rowsV r c A' := by
  unfold rowsV
  exact List.map_congr_left fun i hi => by rw [rowB_congr c fun j hj => h i j (List.mem_range.1 hi) hj]

theorem row_cell {w : World} {H g n cap : Nat} {e : TypeId} {A : Nat → Nat → UInt8} (h : w.ownsRow H e 1 (.slice (some ⟨g, 0, none⟩) n cap) n (rowsV n n A)) (i : Nat) (hi : i < n) : w.cell? ⟨g, i, none⟩ = some (.string (rowB n (A i))) :=
  (h.cellAt i (by omega)).trans (rowsV_at n n A i hi)

theorem swap_rows (n c a : Nat) (A : Nat → Nat → UInt8) (hc : c < n) (ha : a < n) : ((rowsV n n A).set c (.string (rowB n (A a)))).set a (.string (rowB n (A c))) = rowsV n n fun i j => A (GfU.swp c a i) j := by
  apply List.ext_getElem?
  intro p
  rw [List.getElem?_set, List.getElem?_set, List.length_set, rowsV_length]
  by_cases hp : p < n
  · rw [rowsV_at n n (fun i j => A (GfU.swp c a i) j) p hp]
    unfold GfU.swp
    by_cases h1 : a = p
    · subst h1
      rw [if_pos rfl, if_pos ha]
      by_cases h2 : a = c
      · subst h2; rw [if_pos rfl]
      · rw [if_neg h2, if_pos rfl]
    · rw [if_neg h1]
      by_cases h2 : c = p
      · subst h2; rw [if_pos rfl, if_pos hc, if_pos rfl]
      · rw [if_neg h2, rowsV_at n n A p hp, if_neg (fun x => h2 x.symm), if_neg (fun x => h1 x.symm)]
  · rw [List.getElem?_eq_none (l := rowsV n n _) (by rw [rowsV_length]; omega), if_neg (by omega), if_neg (by omega), List.getElem?_eq_none (by rw [rowsV_length]; omega)]

theorem owns_swap {w : World} {H g1 g2 n c1 c2 c a : Nat} {e : TypeId} {A R : Nat → Nat → UInt8} (h1 : w.ownsRow H e 1 (.slice (some ⟨g1, 0, none⟩) n c1) n (rowsV n n A)) (h2 : w.ownsRow H e 1 (.slice (some ⟨g2, 0, none⟩) n c2) n (rowsV n n R)) (hne : g1 ≠ g2) (hc : c < n) (ha : a < n) :
    ((w.setCell ⟨g1, c, none⟩ (.string (rowB n (A a)))).setCell ⟨g1, a, none⟩ (.string (rowB n (A c)))).ownsRow H e 1 (.slice (some ⟨g1, 0, none⟩) n c1) n (rowsV n n fun i j => A (GfU.swp c a i) j) ∧
    ((w.setCell ⟨g1, c, none⟩ (.string (rowB n (A a)))).setCell ⟨g1, a, none⟩ (.string (rowB n (A c)))).ownsRow H e 1 (.slice (some ⟨g2, 0, none⟩) n c2) n (rowsV n n R) := by
  obtain ⟨k1, k2⟩ := two_rows h1 h2 hne c (.string (rowB n (A a)))
  obtain ⟨l1, l2⟩ := two_rows k1 k2 hne a (.string (rowB n (A c)))
  rw [swap_rows n c a A hc ha] at l1
  exact ⟨l1, l2⟩

theorem owns_keep {w w' : World} {H n g cap : Nat} {e : TypeId} {xs : List Value} (h : w.ownsRow H e 1 (.slice (some ⟨g, 0, none⟩) n cap) n xs) (hb : Below w.heap.size w w') : w'.ownsRow H e 1 (.slice (some ⟨g, 0, none⟩) n cap) n xs :=
  h.kept (row := none) ⟨hb.os, hb.tape, hb.output, hb.size, fun k hk _ => hb.block k hk⟩ (.inr (by simp [Value.ownBlock]))

/-- rows of which row c and the first k are those of another matrix -/
def upTo (c k : Nat) (A B : Nat → Nat → UInt8) (i j : Nat) : UInt8 := if i = c ∨ i < k then B i j else A i j

theorem upTo_off (c : Nat) (A B : Nat → Nat → UInt8) {n : Nat} : ∀ a j, a < n → j < n → a ≠ c → upTo c 0 A B a j = A a j := by
  intro a j _ _ h
  unfold upTo; rw [if_neg (by omega)]

theorem upTo_rowg (c : Nat) (x : Nat → UInt8) (X : Nat → Nat → UInt8) : (fun j => GfU.ml (GfU.iv (x c)) (X c j)) = upTo c 0 X (GfU.elim c x X) c := by
  funext j; unfold upTo GfU.elim; rw [if_pos (Or.inl rfl), if_pos rfl]

theorem upTo_same (c : Nat) (A B : Nat → Nat → UInt8) : upTo c (c + 1) A B = upTo c c A B := by
  funext i j; unfold upTo
  by_cases h : i = c ∨ i < c
  · rw [if_pos h, if_pos (by omega)]
  · rw [if_neg h, if_neg (by omega)]

theorem upTo_next (c k : Nat) (A B : Nat → Nat → UInt8) {n : Nat} : ∀ a j, a < n → j < n → a ≠ k → upTo c (k + 1) A B a j = upTo c k A B a j := by
  intro a j _ _ h; unfold upTo
  by_cases e : a = c ∨ a < k
  · rw [if_pos e, if_pos (by omega)]
  · rw [if_neg e, if_neg (by omega)]

theorem upTo_new (c k : Nat) (hk : k ≠ c) (x : Nat → UInt8) (X : Nat → Nat → UInt8) : (fun j => X k j ^^^ GfU.ml (x k) (upTo c k X (GfU.elim c x X) c j)) = upTo c (k + 1) X (GfU.elim c x X) k := by
  funext j; unfold upTo
  rw [if_pos (Or.inl rfl), if_pos (Or.inr (by omega))]; unfold GfU.elim; rw [if_pos rfl, if_neg hk]

theorem upTo_old (c k : Nat) (hk : k ≠ c) (A B : Nat → Nat → UInt8) : upTo c k A B k = A k := by
  funext j; unfold upTo; rw [if_neg (by omega)]

theorem upTo_row (c : Nat) (A : Nat → Nat → UInt8) : (fun j => GfU.ml (GfU.iv (A c c)) (A c j)) = upTo c 0 A (GfU.elim c (fun i => A i c) A) c := by
  funext j; unfold upTo GfU.elim; rw [if_pos (Or.inl rfl), if_pos rfl]

theorem join_row (n : Nat) (R : Nat → Nat → UInt8) (k : Nat) (hk : k < n) : (⟨((tabL n n R).take (k * n)).toArray⟩ : ByteArray) ++ rowB n (R k) = ⟨((tabL n n R).take ((k + 1) * n)).toArray⟩ := by
  have hl : k * n + n ≤ n * n := by have := Nat.mul_le_mul_right n (show k + 1 ≤ n from hk); rw [Nat.succ_mul] at this; exact this
  have e : (tabL n n R).take (k * n) ++ (List.range n).map (R k) = (tabL n n R).take ((k + 1) * n) := by
    apply List.ext_getElem?
    intro p
    rw [Nat.succ_mul, List.getElem?_take, List.getElem?_append, List.length_take, tab_length, Nat.min_eq_left (by omega)]
    by_cases h1 : p < k * n
    · rw [if_pos h1, if_pos (by omega), List.getElem?_take, if_pos h1]
    · rw [if_neg h1]
      by_cases h2 : p < k * n + n
      · obtain ⟨j, rfl⟩ : ∃ j, p = k * n + j := ⟨p - k * n, by omega⟩
        rw [if_pos h2, tab_place n n R k j hk (by omega), Nat.add_sub_cancel_left, List.getElem?_map, List.getElem?_range (by omega)]; rfl
      · rw [if_neg h2, List.getElem?_eq_none (by simp; omega)]
  apply ByteArray.ext
  rw [ByteArray.data_append]
  show _ ++ ((List.range n).map (R k)).toArray = _
  rw [List.append_toArray, e]

theorem join_size (n : Nat) (R : Nat → Nat → UInt8) (k : Nat) (hk : k < n) (hn : n ≤ 255) : (⟨((tabL n n R).take (k * n)).toArray⟩ : ByteArray).size + (rowB n (R k)).size ≤ 65025 := by
  rw [rowB_size]
  have hl : k * n + n ≤ n * n := by have := Nat.mul_le_mul_right n (show k + 1 ≤ n from hk); rw [Nat.succ_mul] at this; exact this
  have h2 : n * n ≤ 255 * 255 := Nat.mul_le_mul hn hn
  have : (⟨((tabL n n R).take (k * n)).toArray⟩ : ByteArray).size = ((tabL n n R).take (k * n)).length := by simp [ByteArray.size]
  rw [this, List.length_take, tab_length]
  omega

set_option maxRecDepth 100000 in
set_option maxHeartbeats 4000000 in
theorem rinv_yes (n : Nat) (s : ByteArray) (w : World) (h1 : 1 ≤ n) (h2 : n ≤ 255) (hs : s.size = n * n) :
    Calls Try.prog 34 #[.agg #[.int .i64 (n : Int), .int .i64 (n : Int), .string s]] w fun e w' => InvRes n s e ∧ Below w.heap.size w w' := by
  have ka : ((chk (n : Int) (n : Int) s : Nat) : Int) = 0 := by rw [chk_yes h1 h2 h1 h2 hs]; rfl
  have HS := Lib.hid hs
  clear hs
  go_enter Try.func34, Try.ntmps34
  go_wp2_with fail
  obtain ⟨s0, bA, bZ⟩ := blk2 w (.cells #[.int .i64 (n : Int), .int .i64 (n : Int), .string s] 59) (.cells #[.int .i64 0, .int .i64 0, .string ⟨#[]⟩] 59)
  have BW : Hid (Below w.heap.size w ((w.alloc (.cells #[.int .i64 (n : Int), .int .i64 (n : Int), .string s] 59)).alloc (.cells #[.int .i64 0, .int .i64 0, .string ⟨#[]⟩] 59))) :=
    ((Below.refl _ w).alloc (Nat.le_refl _) _).alloc (by simp) _
  generalize (w.alloc (.cells #[.int .i64 (n : Int), .int .i64 (n : Int), .string s] 59)).alloc (.cells #[.int .i64 0, .int .i64 0, .string ⟨#[]⟩] 59) = w0 at s0 bA bZ BW ⊢
  refine (rcheck_any _ _ _ _).mono ?_
  rintro e w1 ⟨rfl, hb1⟩
  have B1 : Hid (Below (w.heap.size + 2) w0 w1) := hb1.mono (by omega)
  have z1 := hb1.size
  clear hb1
  have cA0 := blk_cell (j := 0) ((B1.out.block w.heap.size (by omega)).trans bA) rfl
  have cA1 := blk_cell (j := 1) ((B1.out.block w.heap.size (by omega)).trans bA) rfl
  have cA2 := blk_cell (j := 2) ((B1.out.block w.heap.size (by omega)).trans bA) rfl
  go_wp2_with fail
  refine (rrows_any n n s _ h1 h2 h1 h2 HS.out).mono ?_
  rintro e w2 ⟨gL, cL, rfl, hoL, hb2⟩
  have HL2 := Lib.hid hoL
  have hgL := hoL.lt gL rfl
  have B2 : Hid (Below (w.heap.size + 2) w0 w2) := B1.out.trans (hb2.mono (by omega))
  have z2 := hb2.size
  clear hb2 hoL cA0 cA1 cA2
  go_wp2_with fail
  refine (rone_any n _ h1 h2).mono ?_
  rintro e w3 ⟨rfl, hb3⟩
  have HL3 := Lib.hid (HL2.out.kept (row := none) ⟨hb3.os, hb3.tape, hb3.output, hb3.size, fun k hk _ => hb3.block k hk⟩ (.inr (by simp [Value.ownBlock])))
  have B3 : Hid (Below (w.heap.size + 2) w0 w3) := B2.out.trans (hb3.mono (by omega))
  have z3 := hb3.size
  clear hb3 HL2
  go_wp2_with fail
  refine (rrows_any n n _ _ h1 h2 h1 h2 (size_tab n n GfU.one)).mono ?_
  rintro e w4 ⟨gR, cR, rfl, hoR, hb4⟩
  have hgR := hoR.lt gR rfl
  have HL4 := Lib.hid (HL3.out.kept (row := none) ⟨hb4.os, hb4.tape, hb4.output, hb4.size, fun k hk _ => hb4.block k hk⟩ (.inr (by simp [Value.ownBlock])))
  have B4 : Hid (Below (w.heap.size + 2) w0 w4) := B3.out.trans (hb4.mono (by omega))
  have hne : gL ≠ gR := by omega
  have OL : Hid (w4.ownsRow (w.heap.size + 2) 9 1 (.slice (some ⟨gL, 0, none⟩) n cL) n (rowsV n n (cel s n))) := owns_base HL4.out (by omega)
  have OR : Hid (w4.ownsRow (w.heap.size + 2) 9 1 (.slice (some ⟨gR, 0, none⟩) n cR) n (rowsV n n GfU.one)) := by
    have h := owns_base (H' := w.heap.size + 2) hoR (by omega)
    rw [rowsV_congr n n fun i j hi hj => cel_tab n n GfU.one i j hi hj] at h; exact h
  have S0 := Lib.hid s0
  have BA := Lib.hid bA
  have BZ := Lib.hid bZ
  have HNE := Lib.hid hne
  clear hb4 hoR HL4 HL3 B1 B2 B3 z1 z2 z3 hgL hgR s0 bA bZ ka hne
  go_wp2_with fail
  go_loopw [7, 8, 9, 10, 11, 12] (fun i _ _ _ _ _ wr => ∃ (c : Nat) (A R : Nat → Nat → UInt8), c ≤ n ∧ i = .int .i64 (c : Int) ∧
    Hid (wr.ownsRow (w.heap.size + 2) 9 1 (.slice (some ⟨gL, 0, none⟩) n cL) n (rowsV n n A)) ∧ Hid (wr.ownsRow (w.heap.size + 2) 9 1 (.slice (some ⟨gR, 0, none⟩) n cR) n (rowsV n n R)) ∧
    Hid (Below (w.heap.size + 2) w0 wr) ∧ Hid (∃ Q, GfU.Going n (cel s n) Q R A) ∧ Hid (GfU.plain n c A)) (fun i _ _ _ _ _ _ => n - (intOf i).toNat)
  case atStart => exact ⟨0, _, _, by omega, rfl, OL.out, OR.out, B4.out, ⟨_, GfU.going_start n (cel s n)⟩, fun i j _ hj => absurd hj (by omega)⟩
  case round =>
    obtain ⟨c, A, R, hc, rfl, hL, hR, hB, hGo, hP⟩ := hrel
    clear OL OR B4
    have hz : w.heap.size + 2 ≤ wr.heap.size := by have := hB.out.size; have := S0.out; omega
    by_cases hlt : c < n
    · go_wp2_with fail
      obtain ⟨wc, rfl⟩ : ∃ wc : World, wc = wr := ⟨_, rfl⟩
      go_loop [8] (fun i => ∃ a : Nat, c ≤ a ∧ a ≤ n ∧ i = .int .i64 (a : Int) ∧ Hid (∀ k, c ≤ k → k < a → A k c = 0)) (fun i => n - (intOf i).toNat)
      case atStart => exact ⟨c, by omega, by omega, rfl, fun k h1 h2 => absurd h2 (by omega)⟩
      case round =>
        obtain ⟨a, hca, han, rfl, hZ⟩ := hrel
        by_cases hlt2 : a < n
        · have cell := row_cell hL.out a hlt2
          have hq : c < (rowB n (A a)).size := by rw [rowB_size]; exact hlt
          have sz : ((rowB n (A a)).size : Int) = (n : Int) := by rw [rowB_size]
          have ra := rowB_at n (A a) c hq
          by_cases h0 : A a c = 0
          · have t0 : (((rowB n (A a))[c]'hq).toNat : Int) = 0 := by rw [ra, h0]; rfl
            clear ra
            go_wp2_with fail
            go_round
            case rel => exact ⟨a + 1, by omega, by omega, by go_num, fun k k1 k2 => by
              by_cases e : k = a
              · rw [e]; exact h0
              · exact hZ.out k k1 (by omega)⟩
            case measure => simp [intOf]; omega
          · have t0 : ((((rowB n (A a))[c]'hq).toNat : Int) == 0) = false := by
              rw [ra]; simp; exact GfU.ne_zero.1 h0
            have t1 : ((((a : Int) == (n : Int)))) = false := by simp; omega
            have HQ := Lib.hid h0
            clear ra sz
            go_wp2_with fail
            have celc := row_cell hL.out c hlt
            have fL := hL.out.frozenAt
            have pa : (a : Int) < (n : Int) := by omega
            have pc : (c : Int) < (n : Int) := by omega
            by_cases hac : a = c
            · obtain rfl : a = c := hac
              have OW := owns_swap hL.out hR.out HNE.out hlt hlt2
              have oL1 := Lib.hid OW.1
              have oR1 := Lib.hid OW.2
              have oB1 : Hid (Below (w.heap.size + 2) w0 ((wc.setCell ⟨gL, a, none⟩ (.string (rowB n (A a)))).setCell ⟨gL, a, none⟩ (.string (rowB n (A a))))) := (hB.out.setCell (by have := hL.out.lt gL rfl; simp; omega) _).setCell (by have := hL.out.lt gL rfl; simp; omega) _
              clear OW
              go_region
              generalize (wc.setCell ⟨gL, a, none⟩ (.string (rowB n (A a)))).setCell ⟨gL, a, none⟩ (.string (rowB n (A a))) = W1 at oL1 oR1 oB1 ⊢
              have ra1 := row_cell oR1.out a hlt2
              have rc1 := row_cell oR1.out a hlt
              have fR := oR1.out.frozenAt
              have OW2 := owns_swap oR1.out oL1.out (fun x => HNE.out x.symm) hlt hlt2
              have oR2 := Lib.hid OW2.1
              have oL2 := Lib.hid OW2.2
              have oB2 : Hid (Below (w.heap.size + 2) w0 ((W1.setCell ⟨gR, a, none⟩ (.string (rowB n (R a)))).setCell ⟨gR, a, none⟩ (.string (rowB n (R a))))) := (oB1.out.setCell (by have := oR1.out.lt gR rfl; simp; omega) _).setCell (by have := oR1.out.lt gR rfl; simp; omega) _
              clear OW2
              go_wp2_with fail
              go_region
              clear ra1 rc1 fR oL1 oR1 oB1
              generalize (W1.setCell ⟨gR, a, none⟩ (.string (rowB n (R a)))).setCell ⟨gR, a, none⟩ (.string (rowB n (R a))) = W2 at oL2 oR2 oB2 ⊢
              obtain ⟨Q1, hQ1, hP1, hp1⟩ : ∃ Q1, GfU.Going n (cel s n) Q1 (fun i j => R (GfU.swp a a i) j) (fun i j => A (GfU.swp a a i) j) ∧ GfU.plain n a (fun i j => A (GfU.swp a a i) j) ∧ A (GfU.swp a a a) a ≠ 0 := by
                obtain ⟨Q, hQ⟩ := hGo.out
                obtain ⟨Q1, h1⟩ := GfU.going_swap hlt hlt2 hQ
                exact ⟨Q1, h1, GfU.plain_swap hlt hca hlt2 hP.out, by rw [show GfU.swp a a a = a from by unfold GfU.swp; rw [if_pos rfl]]; exact HQ.out⟩
              have G1 := Lib.hid hQ1
              have P1 := Lib.hid hP1
              have N1 := Lib.hid hp1
              clear hQ1 hP1 hp1 HQ hGo hP hL hR hB
              generalize hA1 : (fun i j => A (GfU.swp a a i) j) = A1 at oL2 G1 P1
              generalize hR1 : (fun i j => R (GfU.swp a a i) j) = R1 at oR2 G1
              have N2 : Hid (A1 a a ≠ 0) := by rw [← hA1]; exact N1.out
              clear hA1 hR1 N1
              have clc := row_cell oL2.out a hlt
              have qc : a < (rowB n (A1 a)).size := by rw [rowB_size]; exact hlt
              have tq : (((rowB n (A1 a))[a]'qc).toNat : Int) = ((A1 a a).toNat : Int) := by rw [rowB_at]
              have szc : ((rowB n (A1 a)).size : Int) = (n : Int) := by rw [rowB_size]
              go_wp2_with fail
              have oL3 : Hid (W2.drew.drew.ownsRow (w.heap.size + 2) 9 1 (.slice (some ⟨gL, 0, none⟩) n cL) n (rowsV n n A1)) := oL2.out
              have oR3 : Hid (W2.drew.drew.ownsRow (w.heap.size + 2) 9 1 (.slice (some ⟨gR, 0, none⟩) n cR) n (rowsV n n R1)) := oR2.out
              have oB3 : Hid (Below (w.heap.size + 2) w0 W2.drew.drew) := oB2.out.drew.drew
              clear oL2 oR2 oB2 clc
              generalize W2.drew.drew = W3 at oL3 oR3 oB3 ⊢
              have cl3 := row_cell oL3.out a hlt
              refine (rinv_at _ (A1 a a).toNat _ rfl (GfU.toNat_le _)).mono ?_
              rintro e w' ⟨rfl, rfl⟩
              rw [← GfU.iv_toNat]
              clear tq szc
              go_wp2_with fail
              refine (rscale_any _ (rowB n (A1 a)) _ (GfU.toNat_le _) (by rw [rowB_size]; omega)).mono ?_
              rintro e W4 ⟨rfl, hb4⟩
              rw [scl_row _ (GfU.iv (A1 a a)) rfl]
              have oL4 := Lib.hid (owns_keep oL3.out hb4)
              have oR4 := Lib.hid (owns_keep oR3.out hb4)
              have oB4 : Hid (Below (w.heap.size + 2) w0 W4) := oB3.out.trans (hb4.mono (by have := oB3.out.size; have := S0.out; omega))
              clear hb4 oL3 oR3 oB3 cl3
              have cL4 := row_cell oL4.out a hlt
              have fL4 := oL4.out.frozenAt
              obtain ⟨k1, k2⟩ := two_rows oL4.out oR4.out HNE.out a (.string (rowB n fun j => GfU.ml (GfU.iv (A1 a a)) (A1 a j)))
              rw [upTo_row a A1, rowsV_set n n A1 (upTo a 0 A1 (GfU.elim a (fun i => A1 i a) A1)) a hlt (upTo_off a A1 _), ← upTo_row a A1] at k1
              have oL5 := Lib.hid k1
              have oR5 := Lib.hid k2
              have oB5 : Hid (Below (w.heap.size + 2) w0 (W4.setCell ⟨gL, a, none⟩ (.string (rowB n fun j => GfU.ml (GfU.iv (A1 a a)) (A1 a j))))) := oB4.out.setCell (by have := oL4.out.lt gL rfl; simp; omega) _
              have cR5 := row_cell oR5.out a hlt
              clear k1 k2 oB4 oL4 oR4
              go_wp2_with fail
              refine (rscale_any _ (rowB n (R1 a)) _ (GfU.toNat_le _) (by rw [rowB_size]; omega)).mono ?_
              rintro e W6 ⟨rfl, hb6⟩
              rw [scl_row _ (GfU.iv (A1 a a)) rfl]
              have oL6 := Lib.hid (owns_keep oL5.out hb6)
              have oR6 := Lib.hid (owns_keep oR5.out hb6)
              have oB6 : Hid (Below (w.heap.size + 2) w0 W6) := oB5.out.trans (hb6.mono (by have := oB5.out.size; have := S0.out; omega))
              clear hb6 oL5 oR5 oB5 cR5 cL4 fL4
              have cR6 := row_cell oR6.out a hlt
              have fR6 := oR6.out.frozenAt
              obtain ⟨k1, k2⟩ := two_rows oR6.out oL6.out (fun x => HNE.out x.symm) a (.string (rowB n fun j => GfU.ml (GfU.iv (A1 a a)) (R1 a j)))
              rw [upTo_rowg a (fun i => A1 i a) R1, rowsV_set n n R1 (upTo a 0 R1 (GfU.elim a (fun i => A1 i a) R1)) a hlt (upTo_off a R1 _), ← upTo_rowg a (fun i => A1 i a) R1] at k1
              rw [upTo_rowg a (fun i => A1 i a) R1, ← upTo_rowg a (fun i => A1 i a) R1] at k2
              have oL7 := Lib.hid k2
              have oR7 := Lib.hid k1
              have oB7 : Hid (Below (w.heap.size + 2) w0 (W6.setCell ⟨gR, a, none⟩ (.string (rowB n fun j => GfU.ml (GfU.iv (A1 a a)) (R1 a j))))) := oB6.out.setCell (by have := oR6.out.lt gR rfl; simp; omega) _
              clear k1 k2 oB6 oL6 oR6
              go_wp2_with fail
              go_loopw [11, 12] (fun i _ wr => ∃ k : Nat, k ≤ n ∧ i = .int .i64 (k : Int) ∧
                Hid (wr.ownsRow (w.heap.size + 2) 9 1 (.slice (some ⟨gL, 0, none⟩) n cL) n (rowsV n n (upTo a k A1 (GfU.elim a (fun i => A1 i a) A1)))) ∧
                Hid (wr.ownsRow (w.heap.size + 2) 9 1 (.slice (some ⟨gR, 0, none⟩) n cR) n (rowsV n n (upTo a k R1 (GfU.elim a (fun i => A1 i a) R1)))) ∧
                Hid (Below (w.heap.size + 2) w0 wr)) (fun i _ _ => n - (intOf i).toNat)
              case atStart => exact ⟨0, by omega, rfl, oL7.out, oR7.out, oB7.out⟩
              case round =>
                clear oL7 oR7 oB7 cR6 fR6
                obtain ⟨k, hk, rfl, oL, oR, oB⟩ := hrel
                by_cases hlt3 : k < n
                · by_cases hkc : k = a
                  · have tk : ((k : Int) != (a : Int)) = false := by simp [hkc]
                    have eL := upTo_same a A1 (GfU.elim a (fun i => A1 i a) A1)
                    have eR := upTo_same a R1 (GfU.elim a (fun i => A1 i a) R1)
                    have HK := Lib.hid hkc
                    have EL := Lib.hid eL
                    have ER := Lib.hid eR
                    clear eL eR hkc
                    go_wp2_with fail
                    go_roundw
                    case rel => exact ⟨k + 1, by omega, by go_num, by rw [HK.out, EL.out]; have h := oL.out; rw [HK.out] at h; exact h, by rw [HK.out, ER.out]; have h := oR.out; rw [HK.out] at h; exact h, oB.out⟩
                    case measure => simp [intOf]; omega
                  · have tk : ((k : Int) != (a : Int)) = true := by simp; omega
                    have ck := row_cell oL.out k hlt3
                    rw [upTo_old a k hkc] at ck
                    have qk : a < (rowB n (A1 k)).size := by rw [rowB_size]; exact hlt
                    have tqk : (((rowB n (A1 k))[a]'qk).toNat : Int) = ((A1 k a).toNat : Int) := by rw [rowB_at]
                    have szk : ((rowB n (A1 k)).size : Int) = (n : Int) := by rw [rowB_size]
                    have cc := row_cell oL.out a hlt
                    have pk : (k : Int) < (n : Int) := by omega
                    have pcc : (a : Int) < (n : Int) := by omega
                    go_wp2_with fail
                    go_region_with ((go_at_call 55; refine (rplus_any n (A1 k) (upTo a k A1 (GfU.elim a (fun i => A1 i a) A1) a) (A1 k a) _ h1 h2).mono ?_; rintro e w5 ⟨rfl, hb5⟩; have o5 := owns_keep (by exact oL.out) hb5; have p5 := owns_keep (by exact oR.out) hb5; have ck5 := row_cell o5 k hlt3; have fL5 := o5.frozenAt))
                    all_goals
                      have hzr : w.heap.size + 2 ≤ wr.heap.size := by have := oB.out.size; have := S0.out; omega
                      obtain ⟨k1, k2⟩ := two_rows o5 p5 HNE.out k (.string (rowB n fun j => A1 k j ^^^ GfU.ml (A1 k a) (upTo a k A1 (GfU.elim a (fun i => A1 i a) A1) a j)))
                      rw [upTo_new a k hkc (fun i => A1 i a) A1, rowsV_set n n (upTo a k A1 (GfU.elim a (fun i => A1 i a) A1)) (upTo a (k + 1) A1 (GfU.elim a (fun i => A1 i a) A1)) k hlt3 (upTo_next a k A1 _), ← upTo_new a k hkc (fun i => A1 i a) A1] at k1
                      have oL8 := Lib.hid k1
                      have oR8 := Lib.hid k2
                      have oB8 : Hid (Below (w.heap.size + 2) w0 (w5.setCell ⟨gL, k, none⟩ (.string (rowB n fun j => A1 k j ^^^ GfU.ml (A1 k a) (upTo a k A1 (GfU.elim a (fun i => A1 i a) A1) a j))))) := (oB.out.drew.trans (hb5.mono (by exact hzr))).setCell (by have := o5.lt gL rfl; simp; omega) _
                      clear k1 k2 o5 p5 ck5 fL5 hb5 oL oR oB ck cc
                      go_wp2_with fail
                      generalize w5.setCell ⟨gL, k, none⟩ (.string (rowB n fun j => A1 k j ^^^ GfU.ml (A1 k a) (upTo a k A1 (GfU.elim a (fun i => A1 i a) A1) a j))) = W8 at oL8 oR8 oB8 ⊢
                      have ck8 := row_cell oR8.out k hlt3
                      rw [upTo_old a k hkc] at ck8
                      have cc8 := row_cell oR8.out a hlt
                      go_region_with ((go_at_call 55; refine (rplus_any n (R1 k) (upTo a k R1 (GfU.elim a (fun i => A1 i a) R1) a) (A1 k a) _ h1 h2).mono ?_; rintro e w9 ⟨rfl, hb9⟩; have o9 := owns_keep (by exact oL8.out) hb9; have p9 := owns_keep (by exact oR8.out) hb9; have ck9 := row_cell p9 k hlt3; have fR9 := p9.frozenAt))
                    all_goals
                      obtain ⟨k1, k2⟩ := two_rows p9 o9 (fun x => HNE.out x.symm) k (.string (rowB n fun j => R1 k j ^^^ GfU.ml (A1 k a) (upTo a k R1 (GfU.elim a (fun i => A1 i a) R1) a j)))
                      rw [upTo_new a k hkc (fun i => A1 i a) R1, rowsV_set n n (upTo a k R1 (GfU.elim a (fun i => A1 i a) R1)) (upTo a (k + 1) R1 (GfU.elim a (fun i => A1 i a) R1)) k hlt3 (upTo_next a k R1 _), ← upTo_new a k hkc (fun i => A1 i a) R1] at k1
                      have oL10 := Lib.hid k2
                      have oR10 := Lib.hid k1
                      have hz8 : w.heap.size + 2 ≤ W8.heap.size := by have := oB8.out.size; have := S0.out; omega
                      have oB10 : Hid (Below (w.heap.size + 2) w0 (w9.setCell ⟨gR, k, none⟩ (.string (rowB n fun j => R1 k j ^^^ GfU.ml (A1 k a) (upTo a k R1 (GfU.elim a (fun i => A1 i a) R1) a j))))) := (oB8.out.drew.trans (hb9.mono (by exact hz8))).setCell (by have := p9.lt gR rfl; simp; omega) _
                      clear k1 k2 o9 p9 ck9 fR9 hb9 oL8 oR8 oB8 ck8 cc8
                      go_wp2_with fail
                      go_roundw
                      case rel => exact ⟨k + 1, by omega, by go_num, oL10.out, oR10.out, oB10.out⟩
                      case measure => simp [intOf]; omega
                · obtain rfl : k = n := by omega
                  have EL : ∀ X E : Nat → Nat → UInt8, rowsV k k (upTo a k X E) = rowsV k k E := fun X E => rowsV_congr k k fun i j hi _ => by unfold upTo; rw [if_pos (Or.inr hi)]
                  have oLe := Lib.hid (EL A1 _ ▸ oL.out)
                  have oRe := Lib.hid (EL R1 _ ▸ oR.out)
                  clear EL
                  obtain ⟨Q2, hQ2⟩ := GfU.going_elim hlt N2.out G1.out
                  have G2 := Lib.hid hQ2
                  have P2 := Lib.hid (GfU.plain_elim hlt N2.out P1.out)
                  clear hQ2
                  go_wp2_with fail
                  go_roundw
                  case rel => exact ⟨a + 1, _, _, by omega, by go_num, oLe.out, oRe.out, oB.out, ⟨_, G2.out⟩, P2.out⟩
                  case measure => simp [intOf]; omega
            · have hca' : ¬ c = a := fun x => hac x.symm
              have OW := owns_swap hL.out hR.out HNE.out hlt hlt2
              have oL1 := Lib.hid OW.1
              have oR1 := Lib.hid OW.2
              have oB1 : Hid (Below (w.heap.size + 2) w0 ((wc.setCell ⟨gL, c, none⟩ (.string (rowB n (A a)))).setCell ⟨gL, a, none⟩ (.string (rowB n (A c))))) := (hB.out.setCell (by have := hL.out.lt gL rfl; simp; omega) _).setCell (by have := hL.out.lt gL rfl; simp; omega) _
              clear OW
              go_region
              generalize (wc.setCell ⟨gL, c, none⟩ (.string (rowB n (A a)))).setCell ⟨gL, a, none⟩ (.string (rowB n (A c))) = W1 at oL1 oR1 oB1 ⊢
              have ra1 := row_cell oR1.out a hlt2
              have rc1 := row_cell oR1.out c hlt
              have fR := oR1.out.frozenAt
              have OW2 := owns_swap oR1.out oL1.out (fun x => HNE.out x.symm) hlt hlt2
              have oR2 := Lib.hid OW2.1
              have oL2 := Lib.hid OW2.2
              have oB2 : Hid (Below (w.heap.size + 2) w0 ((W1.setCell ⟨gR, c, none⟩ (.string (rowB n (R a)))).setCell ⟨gR, a, none⟩ (.string (rowB n (R c))))) := (oB1.out.setCell (by have := oR1.out.lt gR rfl; simp; omega) _).setCell (by have := oR1.out.lt gR rfl; simp; omega) _
              clear OW2
              go_wp2_with fail
              go_region
              clear ra1 rc1 fR oL1 oR1 oB1
              generalize (W1.setCell ⟨gR, c, none⟩ (.string (rowB n (R a)))).setCell ⟨gR, a, none⟩ (.string (rowB n (R c))) = W2 at oL2 oR2 oB2 ⊢
              obtain ⟨Q1, hQ1, hP1, hp1⟩ : ∃ Q1, GfU.Going n (cel s n) Q1 (fun i j => R (GfU.swp c a i) j) (fun i j => A (GfU.swp c a i) j) ∧ GfU.plain n c (fun i j => A (GfU.swp c a i) j) ∧ A (GfU.swp c a c) c ≠ 0 := by
                obtain ⟨Q, hQ⟩ := hGo.out
                obtain ⟨Q1, h1⟩ := GfU.going_swap hlt hlt2 hQ
                exact ⟨Q1, h1, GfU.plain_swap hlt hca hlt2 hP.out, by rw [show GfU.swp c a c = a from by unfold GfU.swp; rw [if_pos rfl]]; exact HQ.out⟩
              have G1 := Lib.hid hQ1
              have P1 := Lib.hid hP1
              have N1 := Lib.hid hp1
              clear hQ1 hP1 hp1 HQ hGo hP hL hR hB
              generalize hA1 : (fun i j => A (GfU.swp c a i) j) = A1 at oL2 G1 P1
              generalize hR1 : (fun i j => R (GfU.swp c a i) j) = R1 at oR2 G1
              have N2 : Hid (A1 c c ≠ 0) := by rw [← hA1]; exact N1.out
              clear hA1 hR1 N1
              have clc := row_cell oL2.out c hlt
              have qc : c < (rowB n (A1 c)).size := by rw [rowB_size]; exact hlt
              have tq : (((rowB n (A1 c))[c]'qc).toNat : Int) = ((A1 c c).toNat : Int) := by rw [rowB_at]
              have szc : ((rowB n (A1 c)).size : Int) = (n : Int) := by rw [rowB_size]
              go_wp2_with fail
              have oL3 : Hid (W2.drew.drew.ownsRow (w.heap.size + 2) 9 1 (.slice (some ⟨gL, 0, none⟩) n cL) n (rowsV n n A1)) := oL2.out
              have oR3 : Hid (W2.drew.drew.ownsRow (w.heap.size + 2) 9 1 (.slice (some ⟨gR, 0, none⟩) n cR) n (rowsV n n R1)) := oR2.out
              have oB3 : Hid (Below (w.heap.size + 2) w0 W2.drew.drew) := oB2.out.drew.drew
              clear oL2 oR2 oB2 clc
              generalize W2.drew.drew = W3 at oL3 oR3 oB3 ⊢
              have cl3 := row_cell oL3.out c hlt
              refine (rinv_at _ (A1 c c).toNat _ rfl (GfU.toNat_le _)).mono ?_
              rintro e w' ⟨rfl, rfl⟩
              rw [← GfU.iv_toNat]
              clear tq szc
              go_wp2_with fail
              refine (rscale_any _ (rowB n (A1 c)) _ (GfU.toNat_le _) (by rw [rowB_size]; omega)).mono ?_
              rintro e W4 ⟨rfl, hb4⟩
              rw [scl_row _ (GfU.iv (A1 c c)) rfl]
              have oL4 := Lib.hid (owns_keep oL3.out hb4)
              have oR4 := Lib.hid (owns_keep oR3.out hb4)
              have oB4 : Hid (Below (w.heap.size + 2) w0 W4) := oB3.out.trans (hb4.mono (by have := oB3.out.size; have := S0.out; omega))
              clear hb4 oL3 oR3 oB3 cl3
              have cL4 := row_cell oL4.out c hlt
              have fL4 := oL4.out.frozenAt
              obtain ⟨k1, k2⟩ := two_rows oL4.out oR4.out HNE.out c (.string (rowB n fun j => GfU.ml (GfU.iv (A1 c c)) (A1 c j)))
              rw [upTo_row c A1, rowsV_set n n A1 (upTo c 0 A1 (GfU.elim c (fun i => A1 i c) A1)) c hlt (upTo_off c A1 _), ← upTo_row c A1] at k1
              have oL5 := Lib.hid k1
              have oR5 := Lib.hid k2
              have oB5 : Hid (Below (w.heap.size + 2) w0 (W4.setCell ⟨gL, c, none⟩ (.string (rowB n fun j => GfU.ml (GfU.iv (A1 c c)) (A1 c j))))) := oB4.out.setCell (by have := oL4.out.lt gL rfl; simp; omega) _
              have cR5 := row_cell oR5.out c hlt
              clear k1 k2 oB4 oL4 oR4
              go_wp2_with fail
              refine (rscale_any _ (rowB n (R1 c)) _ (GfU.toNat_le _) (by rw [rowB_size]; omega)).mono ?_
              rintro e W6 ⟨rfl, hb6⟩
              rw [scl_row _ (GfU.iv (A1 c c)) rfl]
              have oL6 := Lib.hid (owns_keep oL5.out hb6)
              have oR6 := Lib.hid (owns_keep oR5.out hb6)
              have oB6 : Hid (Below (w.heap.size + 2) w0 W6) := oB5.out.trans (hb6.mono (by have := oB5.out.size; have := S0.out; omega))
              clear hb6 oL5 oR5 oB5 cR5 cL4 fL4
              have cR6 := row_cell oR6.out c hlt
              have fR6 := oR6.out.frozenAt
              obtain ⟨k1, k2⟩ := two_rows oR6.out oL6.out (fun x => HNE.out x.symm) c (.string (rowB n fun j => GfU.ml (GfU.iv (A1 c c)) (R1 c j)))
              rw [upTo_rowg c (fun i => A1 i c) R1, rowsV_set n n R1 (upTo c 0 R1 (GfU.elim c (fun i => A1 i c) R1)) c hlt (upTo_off c R1 _), ← upTo_rowg c (fun i => A1 i c) R1] at k1
              rw [upTo_rowg c (fun i => A1 i c) R1, ← upTo_rowg c (fun i => A1 i c) R1] at k2
              have oL7 := Lib.hid k2
              have oR7 := Lib.hid k1
              have oB7 : Hid (Below (w.heap.size + 2) w0 (W6.setCell ⟨gR, c, none⟩ (.string (rowB n fun j => GfU.ml (GfU.iv (A1 c c)) (R1 c j))))) := oB6.out.setCell (by have := oR6.out.lt gR rfl; simp; omega) _
              clear k1 k2 oB6 oL6 oR6
              go_wp2_with fail
              go_loopw [11, 12] (fun i _ wr => ∃ k : Nat, k ≤ n ∧ i = .int .i64 (k : Int) ∧
                Hid (wr.ownsRow (w.heap.size + 2) 9 1 (.slice (some ⟨gL, 0, none⟩) n cL) n (rowsV n n (upTo c k A1 (GfU.elim c (fun i => A1 i c) A1)))) ∧
                Hid (wr.ownsRow (w.heap.size + 2) 9 1 (.slice (some ⟨gR, 0, none⟩) n cR) n (rowsV n n (upTo c k R1 (GfU.elim c (fun i => A1 i c) R1)))) ∧
                Hid (Below (w.heap.size + 2) w0 wr)) (fun i _ _ => n - (intOf i).toNat)
              case atStart => exact ⟨0, by omega, rfl, oL7.out, oR7.out, oB7.out⟩
              case round =>
                clear oL7 oR7 oB7 cR6 fR6
                obtain ⟨k, hk, rfl, oL, oR, oB⟩ := hrel
                by_cases hlt3 : k < n
                · by_cases hkc : k = c
                  · have tk : ((k : Int) != (c : Int)) = false := by simp [hkc]
                    have eL := upTo_same c A1 (GfU.elim c (fun i => A1 i c) A1)
                    have eR := upTo_same c R1 (GfU.elim c (fun i => A1 i c) R1)
                    have HK := Lib.hid hkc
                    have EL := Lib.hid eL
                    have ER := Lib.hid eR
                    clear eL eR hkc
                    go_wp2_with fail
                    go_roundw
                    case rel => exact ⟨k + 1, by omega, by go_num, by rw [HK.out, EL.out]; have h := oL.out; rw [HK.out] at h; exact h, by rw [HK.out, ER.out]; have h := oR.out; rw [HK.out] at h; exact h, oB.out⟩
                    case measure => simp [intOf]; omega
                  · have tk : ((k : Int) != (c : Int)) = true := by simp; omega
                    have ck := row_cell oL.out k hlt3
                    rw [upTo_old c k hkc] at ck
                    have qk : c < (rowB n (A1 k)).size := by rw [rowB_size]; exact hlt
                    have tqk : (((rowB n (A1 k))[c]'qk).toNat : Int) = ((A1 k c).toNat : Int) := by rw [rowB_at]
                    have szk : ((rowB n (A1 k)).size : Int) = (n : Int) := by rw [rowB_size]
                    have cc := row_cell oL.out c hlt
                    have pk : (k : Int) < (n : Int) := by omega
                    have pcc : (c : Int) < (n : Int) := by omega
                    go_wp2_with fail
                    go_region_with ((go_at_call 55; refine (rplus_any n (A1 k) (upTo c k A1 (GfU.elim c (fun i => A1 i c) A1) c) (A1 k c) _ h1 h2).mono ?_; rintro e w5 ⟨rfl, hb5⟩; have o5 := owns_keep (by exact oL.out) hb5; have p5 := owns_keep (by exact oR.out) hb5; have ck5 := row_cell o5 k hlt3; have fL5 := o5.frozenAt))
                    all_goals
                      have hzr : w.heap.size + 2 ≤ wr.heap.size := by have := oB.out.size; have := S0.out; omega
                      obtain ⟨k1, k2⟩ := two_rows o5 p5 HNE.out k (.string (rowB n fun j => A1 k j ^^^ GfU.ml (A1 k c) (upTo c k A1 (GfU.elim c (fun i => A1 i c) A1) c j)))
                      rw [upTo_new c k hkc (fun i => A1 i c) A1, rowsV_set n n (upTo c k A1 (GfU.elim c (fun i => A1 i c) A1)) (upTo c (k + 1) A1 (GfU.elim c (fun i => A1 i c) A1)) k hlt3 (upTo_next c k A1 _), ← upTo_new c k hkc (fun i => A1 i c) A1] at k1
                      have oL8 := Lib.hid k1
                      have oR8 := Lib.hid k2
                      have oB8 : Hid (Below (w.heap.size + 2) w0 (w5.setCell ⟨gL, k, none⟩ (.string (rowB n fun j => A1 k j ^^^ GfU.ml (A1 k c) (upTo c k A1 (GfU.elim c (fun i => A1 i c) A1) c j))))) := (oB.out.drew.trans (hb5.mono (by exact hzr))).setCell (by have := o5.lt gL rfl; simp; omega) _
                      clear k1 k2 o5 p5 ck5 fL5 hb5 oL oR oB ck cc
                      go_wp2_with fail
                      generalize w5.setCell ⟨gL, k, none⟩ (.string (rowB n fun j => A1 k j ^^^ GfU.ml (A1 k c) (upTo c k A1 (GfU.elim c (fun i => A1 i c) A1) c j))) = W8 at oL8 oR8 oB8 ⊢
                      have ck8 := row_cell oR8.out k hlt3
                      rw [upTo_old c k hkc] at ck8
                      have cc8 := row_cell oR8.out c hlt
                      go_region_with ((go_at_call 55; refine (rplus_any n (R1 k) (upTo c k R1 (GfU.elim c (fun i => A1 i c) R1) c) (A1 k c) _ h1 h2).mono ?_; rintro e w9 ⟨rfl, hb9⟩; have o9 := owns_keep (by exact oL8.out) hb9; have p9 := owns_keep (by exact oR8.out) hb9; have ck9 := row_cell p9 k hlt3; have fR9 := p9.frozenAt))
                    all_goals
                      obtain ⟨k1, k2⟩ := two_rows p9 o9 (fun x => HNE.out x.symm) k (.string (rowB n fun j => R1 k j ^^^ GfU.ml (A1 k c) (upTo c k R1 (GfU.elim c (fun i => A1 i c) R1) c j)))
                      rw [upTo_new c k hkc (fun i => A1 i c) R1, rowsV_set n n (upTo c k R1 (GfU.elim c (fun i => A1 i c) R1)) (upTo c (k + 1) R1 (GfU.elim c (fun i => A1 i c) R1)) k hlt3 (upTo_next c k R1 _), ← upTo_new c k hkc (fun i => A1 i c) R1] at k1
                      have oL10 := Lib.hid k2
                      have oR10 := Lib.hid k1
                      have hz8 : w.heap.size + 2 ≤ W8.heap.size := by have := oB8.out.size; have := S0.out; omega
                      have oB10 : Hid (Below (w.heap.size + 2) w0 (w9.setCell ⟨gR, k, none⟩ (.string (rowB n fun j => R1 k j ^^^ GfU.ml (A1 k c) (upTo c k R1 (GfU.elim c (fun i => A1 i c) R1) c j))))) := (oB8.out.drew.trans (hb9.mono (by exact hz8))).setCell (by have := p9.lt gR rfl; simp; omega) _
                      clear k1 k2 o9 p9 ck9 fR9 hb9 oL8 oR8 oB8 ck8 cc8
                      go_wp2_with fail
                      go_roundw
                      case rel => exact ⟨k + 1, by omega, by go_num, oL10.out, oR10.out, oB10.out⟩
                      case measure => simp [intOf]; omega
                · obtain rfl : k = n := by omega
                  have EL : ∀ X E : Nat → Nat → UInt8, rowsV k k (upTo c k X E) = rowsV k k E := fun X E => rowsV_congr k k fun i j hi _ => by unfold upTo; rw [if_pos (Or.inr hi)]
                  have oLe := Lib.hid (EL A1 _ ▸ oL.out)
                  have oRe := Lib.hid (EL R1 _ ▸ oR.out)
                  clear EL
                  obtain ⟨Q2, hQ2⟩ := GfU.going_elim hlt N2.out G1.out
                  have G2 := Lib.hid hQ2
                  have P2 := Lib.hid (GfU.plain_elim hlt N2.out P1.out)
                  clear hQ2
                  go_wp2_with fail
                  go_roundw
                  case rel => exact ⟨c + 1, _, _, by omega, by go_num, oLe.out, oRe.out, oB.out, ⟨_, G2.out⟩, P2.out⟩
                  case measure => simp [intOf]; omega
        · obtain rfl : a = n := by omega
          have hS : Hid (GfU.Sing a (cel s a)) := by
            obtain ⟨Q, hQ⟩ := hGo.out
            exact GfU.going_sing hlt hQ hP.out hZ.out
          have bZr := (hB.out.block (w.heap.size + 1) (by omega)).trans BZ.out
          have c0 := blk_cell (j := 0) bZr rfl
          have c1 := blk_cell (j := 1) bZr rfl
          have c2 := blk_cell (j := 2) bZr rfl
          have cf := blk_free bZr
          clear bZr
          go_wp2_with fail
          exact bodyPost_ret (v := .tuple #[.agg #[.int .i64 0, .int .i64 0, .string ⟨#[]⟩], .int .i64 20]) (by simp [results, Try.results34, go_sem, c0, c1, c2]) rfl
            ⟨.inr ⟨rfl, hS.out⟩, below_agg3 (BW.out.trans (hB.out.mono (by omega))) (by omega) _ _ _⟩
    · obtain rfl : c = n := by omega
      have HRES : Hid (GfU.sq c (GfU.mm c R (cel s c)) GfU.one ∧ GfU.sq c (GfU.mm c (cel s c) R) GfU.one) := by
        obtain ⟨Q, hQ⟩ := hGo.out
        exact GfU.going_end hQ fun i j hi hj => hP.out i j hi hj
      clear hGo hP hL
      go_wp2_with fail
      obtain ⟨wn, rfl⟩ : ∃ wn : World, wn = wr := ⟨_, rfl⟩
      go_loop [13, 14] (fun o i => ∃ k : Nat, k ≤ c ∧ i = .int .i64 (k : Int) ∧ o = .string ⟨((tabL c c R).take (k * c)).toArray⟩) (fun _ i => c - (intOf i).toNat)
      case atStart => exact ⟨0, by omega, rfl, by rw [Nat.zero_mul]; rfl⟩
      case round =>
        obtain ⟨k, hk, rfl, rfl⟩ := hrel
        by_cases hlt2 : k < c
        · have cell := row_cell hR.out k hlt2
          have hadd : ∀ W, (Op.stringOp .add ⟨((tabL c c R).take (k * c)).toArray⟩ (rowB c (R k))).run Try.prog W = .ok (.string ⟨((tabL c c R).take ((k + 1) * c)).toArray⟩) W := fun W => by
            rw [← join_row c R k hlt2]; exact run_string_add_sum W _ _ (by have := join_size c R k hlt2 h2; omega)
          go_wp2_with fail
          go_round
          case rel => exact ⟨k + 1, by omega, by go_num, rfl⟩
          case measure => simp [intOf]; omega
        · obtain rfl : k = c := by omega
          have bZr := (hB.out.block (w.heap.size + 1) (by omega)).trans BZ.out
          have c0 := blk_cell (j := 0) bZr rfl
          have c1 := blk_cell (j := 1) bZr rfl
          have c2 := blk_cell (j := 2) bZr rfl
          have cf := blk_free bZr
          have hT : (tabL k k R).take (k * k) = tabL k k R := List.take_of_length_le (by rw [tab_length]; omega)
          rw [hT]
          clear bZr hT
          go_wp2_with fail
          exact bodyPost_ret (v := .tuple #[.agg #[.int .i64 (k : Int), .int .i64 (k : Int), .string ⟨(tabL k k R).toArray⟩], .int .i64 0]) (by simp [results, Try.results34, go_sem, c0, c1, c2]) rfl
            ⟨.inl ⟨R, rfl, HRES.out⟩, below_agg3 (BW.out.trans (hB.out.mono (by omega))) (by omega) _ _ _⟩

end Go.Proofs.Ytemcjnbgcecinaa
