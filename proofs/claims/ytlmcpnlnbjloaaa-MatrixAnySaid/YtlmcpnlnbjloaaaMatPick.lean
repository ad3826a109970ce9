/- What the document's own answer picks; contracts; no condition but the form's reach. -/
import Derived.Test.YtlmcpnlnbjloaaaMatRows
import Derived.BigRegion
import Derived.Deep.RegionWith
namespace Go.Proofs.Ytlmcpnlnbjloaaa
open Go.RowKit

theorem below_pick {w w1 : World} {A B : Obj} (h : Below ((w.alloc A).alloc B).heap.size ((w.alloc A).alloc B) w1) : Below w.heap.size w w1 :=
  (((Below.refl _ w).alloc (Nat.le_refl _) _).alloc (by simp) _).trans (h.mono (by simp; omega))

/-- a cell of an old block, wherever it points -/
theorem cell_kept {B : Nat} {w w1 : World} (h : Below B w w1) (a : Addr) (ha : a.block < B) : w1.cell? a = w.cell? a := by
  unfold World.cell?
  rw [h.block a.block ha]

def pickF (L : List Int) (A : Nat → Nat → UInt8) (i j : Nat) : UInt8 := A (L.getD i 0).toNat j

theorem join_rc (r c : Nat) (R : Nat → Nat → UInt8) (k : Nat) (hk : k < r) : (⟨((tabL r c R).take (k * c)).toArray⟩ : ByteArray) ++ rowB c (R k) = ⟨((tabL r c R).take ((k + 1) * c)).toArray⟩ := by
  have hl : k * c + c ≤ r * c := by have := Nat.mul_le_mul_right c (show k + 1 ≤ r from hk); rw [Nat.succ_mul] at this; exact this
  have e : (tabL r c R).take (k * c) ++ (List.range c).map (R k) = (tabL r c R).take ((k + 1) * c) := by
    apply List.ext_getElem?
    intro p
    rw [Nat.succ_mul, List.getElem?_take, List.getElem?_append, List.length_take, tab_length, Nat.min_eq_left (by omega)]
    by_cases h1 : p < k * c
    · rw [if_pos h1, if_pos (by omega), List.getElem?_take, if_pos h1]
    · rw [if_neg h1]
      by_cases h2 : p < k * c + c
      · obtain ⟨j, rfl⟩ : ∃ j, p = k * c + j := ⟨p - k * c, by omega⟩
        rw [if_pos h2, tab_place r c R k j hk (by omega), Nat.add_sub_cancel_left, List.getElem?_map, List.getElem?_range (by omega)]; rfl
      · rw [if_neg h2, List.getElem?_eq_none (by simp; omega)]
  apply ByteArray.ext
  rw [ByteArray.data_append]
  show _ ++ ((List.range c).map (R k)).toArray = _
  rw [List.append_toArray, e]

theorem join_rc_size (r c : Nat) (R : Nat → Nat → UInt8) (k : Nat) (hk : k < r) (hr : r ≤ 255) (hc : c ≤ 255) : (⟨((tabL r c R).take (k * c)).toArray⟩ : ByteArray).size + (rowB c (R k)).size ≤ 65025 := by
  rw [rowB_size]
  have hl : k * c + c ≤ r * c := by have := Nat.mul_le_mul_right c (show k + 1 ≤ r from hk); rw [Nat.succ_mul] at this; exact this
  have h2 : r * c ≤ 255 * 255 := Nat.mul_le_mul hr hc
  have : (⟨((tabL r c R).take (k * c)).toArray⟩ : ByteArray).size = ((tabL r c R).take (k * c)).length := by simp [ByteArray.size]
  rw [this, List.length_take, tab_length]
  omega

set_option maxRecDepth 20000 in
set_option maxHeartbeats 1000000 in
theorem rpick_shape (r c : Int) (s : ByteArray) (v : Value) (w : World) (h : ¬ may r c s) :
    Calls Try.prog 22 #[.agg #[.int .i64 r, .int .i64 c, .string s], v] w fun e w' =>
      e = .returned (.tuple #[.agg #[.int .i64 0, .int .i64 0, .string ⟨#[]⟩], .int .i64 4]) ∧ Below w.heap.size w w' := by
  have ka : ((chk r c s : Nat) : Int) = 4 := by rw [chk_no h]; rfl
  clear h
  go_enter Try.func22, Try.ntmps22
  go_wp2_with fail
  refine (rcheck_any _ _ _ _).mono ?_
  rintro e w1 ⟨rfl, hb1⟩
  have B1 := Lib.hid hb1
  obtain ⟨hc1, hf1⟩ := bcell hb1
  clear hb1
  go_wp2_with fail
  exact bodyPost_ret (v := .tuple #[.agg #[.int .i64 0, .int .i64 0, .string ⟨#[]⟩], .int .i64 4]) (by simp [results, Try.results22, go_sem, hc1]) rfl
    ⟨rfl, below_agg3 (below_pick B1.out) (by omega) _ _ _⟩

/-- what is picked of a matrix that may be -/
def pickAns (r c : Nat) (s : ByteArray) (L : List Int) : Value :=
  if ∀ i (h : i < L.length), 0 ≤ L[i] ∧ L[i] < (r : Int) then
    if 255 < L.length then .tuple #[.agg #[.int .i64 0, .int .i64 0, .string ⟨#[]⟩], .int .i64 2]
    else if L.length = 0 then .tuple #[.agg #[.int .i64 0, .int .i64 0, .string ⟨#[]⟩], .int .i64 1]
    else .tuple #[.agg #[.int .i64 (L.length : Int), .int .i64 (c : Int), .string ⟨(tabL L.length c (pickF L (cel s c))).toArray⟩], .int .i64 0]
  else .tuple #[.agg #[.int .i64 0, .int .i64 0, .string ⟨#[]⟩], .int .i64 1]

set_option maxRecDepth 20000 in
set_option maxHeartbeats 2000000 in
theorem rpick_some (r c : Nat) (s : ByteArray) (a : Addr) (cap : Nat) (L : List Int) (w : World) (h1 : 1 ≤ r) (h2 : r ≤ 255) (h3 : 1 ≤ c) (h4 : c ≤ 255) (hs : s.size = r * c)
    (ha : a.block < w.heap.size) (hL : ∀ i (h : i < L.length), w.cell? (a.add i) = some (.int .i64 L[i])) (hm : L.length ≤ 1152921504606846976) :
    Calls Try.prog 22 #[.agg #[.int .i64 (r : Int), .int .i64 (c : Int), .string s], .slice (some a) L.length cap] w fun e w' =>
      e = .returned (pickAns r c s L) ∧ Below w.heap.size w w' := by
  have ka : ((chk (r : Int) (c : Int) s : Nat) : Int) = 0 := by rw [chk_yes h1 h2 h3 h4 hs]; rfl
  have HS := Lib.hid hs
  have HL := Lib.hid hL
  have HA := Lib.hid ha
  clear hs hL ha
  obtain ⟨n, hn⟩ : ∃ n, n = L.length := ⟨_, rfl⟩
  have HN := Lib.hid hn
  rw [← hn] at hm ⊢
  clear hn
  go_enter Try.func22, Try.ntmps22
  go_wp2_with fail
  obtain ⟨s0, bA, bZ⟩ := blk2 w (.cells #[.int .i64 (r : Int), .int .i64 (c : Int), .string s] 23) (.cells #[.int .i64 0, .int .i64 0, .string ⟨#[]⟩] 23)
  have BW : Hid (Below w.heap.size w ((w.alloc (.cells #[.int .i64 (r : Int), .int .i64 (c : Int), .string s] 23)).alloc (.cells #[.int .i64 0, .int .i64 0, .string ⟨#[]⟩] 23))) :=
    ((Below.refl _ w).alloc (Nat.le_refl _) _).alloc (by simp) _
  generalize (w.alloc (.cells #[.int .i64 (r : Int), .int .i64 (c : Int), .string s] 23)).alloc (.cells #[.int .i64 0, .int .i64 0, .string ⟨#[]⟩] 23) = w0 at s0 bA bZ BW ⊢
  have S0 := Lib.hid s0
  have BA := Lib.hid bA
  have BZ := Lib.hid bZ
  clear s0 bA bZ
  refine (rcheck_any _ _ _ _).mono ?_
  rintro e w1 ⟨rfl, hb1⟩
  have HB1 : Hid (Below (w.heap.size + 2) w0 w1) := hb1.mono (by have := S0.out; omega)
  clear hb1
  go_wp2_with fail
  go_loopw [6] (fun i wr => ∃ k : Nat, k ≤ n ∧ i = .int .i64 (k : Int) ∧ Hid (∀ i (h : i < L.length), i < k → 0 ≤ L[i] ∧ L[i] < (r : Int)) ∧ Hid (Below (w.heap.size + 2) w0 wr)) (fun i _ => n - (intOf i).toNat)
  case atStart => exact ⟨0, by omega, rfl, fun i _ h => absurd h (by omega), HB1.out⟩
  case round =>
    obtain ⟨k, hk, rfl, hin, hbel⟩ := hrel
    clear HB1
    have hw := BW.out.trans (hbel.out.mono (by omega))
    have cA0 := blk_cell (j := 0) ((hbel.out.block w.heap.size (by omega)).trans BA.out) rfl
    have cA1 := blk_cell (j := 1) ((hbel.out.block w.heap.size (by omega)).trans BA.out) rfl
    have cA2 := blk_cell (j := 2) ((hbel.out.block w.heap.size (by omega)).trans BA.out) rfl
    by_cases hlt : k < n
    · have hkL : k < L.length := by have := HN.out; omega
      have cell := (cell_kept hw (a.add k) (by rw [show (a.add k).block = a.block by unfold Addr.add; split <;> rfl]; exact HA.out)).trans (HL.out k hkL)
      have pk : (k : Int) < (n : Int) := by omega
      have HW := Lib.hid hw
      clear hw
      obtain ⟨x, hx⟩ : ∃ x, x = L[k] := ⟨_, rfl⟩
      rw [← hx] at cell
      have HX := Lib.hid hx
      clear hx
      by_cases hx0 : x < 0
      · go_wp2_with fail
        go_quiet (fail)
        have bZr := (hbel.out.block (w.heap.size + 1) (by omega)).trans BZ.out
        have c0 := blk_cell (j := 0) bZr rfl
        have c1 := blk_cell (j := 1) bZr rfl
        have c2 := blk_cell (j := 2) bZr rfl
        have cf := blk_free bZr
        have hans : Hid (pickAns r c s L = .tuple #[.agg #[.int .i64 0, .int .i64 0, .string ⟨#[]⟩], .int .i64 1]) := by show _ = _; unfold pickAns; rw [if_neg fun H => by have := H k hkL; rw [← HX.out] at this; omega]
        clear bZr
        go_wp2_with fail
        exact bodyPost_ret (v := .tuple #[.agg #[.int .i64 0, .int .i64 0, .string ⟨#[]⟩], .int .i64 1]) (by simp [results, Try.results22, go_sem, c0, c1, c2]) rfl
          ⟨by rw [hans.out], below_agg3 (BW.out.trans ((below_drewN hbel.out _).mono (by omega))) (by omega) _ _ _⟩
      · by_cases hxr : (r : Int) ≤ x
        · go_wp2_with fail
          go_quiet (fail)
          have bZr := (hbel.out.block (w.heap.size + 1) (by omega)).trans BZ.out
          have c0 := blk_cell (j := 0) bZr rfl
          have c1 := blk_cell (j := 1) bZr rfl
          have c2 := blk_cell (j := 2) bZr rfl
          have cf := blk_free bZr
          have hans : Hid (pickAns r c s L = .tuple #[.agg #[.int .i64 0, .int .i64 0, .string ⟨#[]⟩], .int .i64 1]) := by show _ = _; unfold pickAns; rw [if_neg fun H => by have := H k hkL; rw [← HX.out] at this; omega]
          clear bZr
          go_wp2_with fail
          exact bodyPost_ret (v := .tuple #[.agg #[.int .i64 0, .int .i64 0, .string ⟨#[]⟩], .int .i64 1]) (by simp [results, Try.results22, go_sem, c0, c1, c2]) rfl
            ⟨by rw [hans.out], below_agg3 (BW.out.trans ((below_drewN hbel.out _).mono (by omega))) (by omega) _ _ _⟩
        · go_wp2_with fail
          go_quiet (fail)
          go_wp2_with fail
          go_roundw
          case rel => exact ⟨k + 1, by omega, by go_num, fun i h hi => by
            by_cases e : i = k
            · subst e; rw [← HX.out]; omega
            · exact hin.out i h (by omega), below_drewN hbel.out _⟩
          case measure => simp [intOf]; omega
    · obtain rfl : k = n := by omega
      have HIN : Hid (∀ i (h : i < L.length), 0 ≤ L[i] ∧ L[i] < (r : Int)) := fun i h => hin.out i h (by have := HN.out; omega)
      clear hin
      by_cases hbig : 255 < k
      · have t1 : (255 : Int) < (k : Int) := by omega
        have bZr := (hbel.out.block (w.heap.size + 1) (by omega)).trans BZ.out
        have c0 := blk_cell (j := 0) bZr rfl
        have c1 := blk_cell (j := 1) bZr rfl
        have c2 := blk_cell (j := 2) bZr rfl
        have cf := blk_free bZr
        have hans : Hid (pickAns r c s L = .tuple #[.agg #[.int .i64 0, .int .i64 0, .string ⟨#[]⟩], .int .i64 2]) := by show _ = _; unfold pickAns; rw [if_pos HIN.out, if_pos (by rw [← HN.out]; omega)]
        clear bZr
        go_wp2_with fail
        exact bodyPost_ret (v := .tuple #[.agg #[.int .i64 0, .int .i64 0, .string ⟨#[]⟩], .int .i64 2]) (by simp [results, Try.results22, go_sem, c0, c1, c2]) rfl
          ⟨by rw [hans.out], below_agg3 (BW.out.trans (hbel.out.mono (by omega))) (by omega) _ _ _⟩
      · by_cases hzero : k = 0
        · obtain rfl := hzero
          have bZr := (hbel.out.block (w.heap.size + 1) (by omega)).trans BZ.out
          have c0 := blk_cell (j := 0) bZr rfl
          have c1 := blk_cell (j := 1) bZr rfl
          have c2 := blk_cell (j := 2) bZr rfl
          have cf := blk_free bZr
          have hans : Hid (pickAns r c s L = .tuple #[.agg #[.int .i64 0, .int .i64 0, .string ⟨#[]⟩], .int .i64 1]) := by show _ = _; unfold pickAns; rw [if_pos HIN.out, if_neg (by rw [← HN.out]; omega), if_pos HN.out.symm]
          clear bZr
          go_wp2_with fail
          exact bodyPost_ret (v := .tuple #[.agg #[.int .i64 0, .int .i64 0, .string ⟨#[]⟩], .int .i64 1]) (by simp [results, Try.results22, go_sem, c0, c1, c2]) rfl
            ⟨by rw [hans.out], below_agg3 (BW.out.trans (hbel.out.mono (by omega))) (by omega) _ _ _⟩
        · have t1 : ((k : Int) == 0) = false := by simp; omega
          have t2 : (k : Int) ≤ 255 := by omega
          go_wp2_with fail
          obtain ⟨wm, rfl⟩ : ∃ wm : World, wm = wr := ⟨_, rfl⟩
          go_loopw [7, 8] (fun o i wr => ∃ m : Nat, m ≤ k ∧ i = .int .i64 (m : Int) ∧ o = .string ⟨((tabL k c (pickF L (cel s c))).take (m * c)).toArray⟩ ∧ Hid (Below (w.heap.size + 2) w0 wr)) (fun _ i _ => k - (intOf i).toNat)
          case atStart => exact ⟨0, by omega, rfl, by rw [Nat.zero_mul]; rfl, hbel.out⟩
          case round =>
            clear hbel cA0 cA1 cA2
            obtain ⟨m, hm2, rfl, rfl, hbel⟩ := hrel
            by_cases hlt2 : m < k
            · have hmL : m < L.length := by have := HN.out; omega
              have hw := BW.out.trans (hbel.out.mono (by omega))
              have cell := (cell_kept hw (a.add m) (by rw [show (a.add m).block = a.block by unfold Addr.add; split <;> rfl]; exact HA.out)).trans (HL.out m hmL)
              have cA0 := blk_cell (j := 0) ((hbel.out.block w.heap.size (by omega)).trans BA.out) rfl
              have cA1 := blk_cell (j := 1) ((hbel.out.block w.heap.size (by omega)).trans BA.out) rfl
              have cA2 := blk_cell (j := 2) ((hbel.out.block w.heap.size (by omega)).trans BA.out) rfl
              have hx := HIN.out m hmL
              obtain ⟨p, hp⟩ : ∃ p : Nat, L[m] = (p : Int) := ⟨L[m].toNat, by omega⟩
              rw [hp] at cell hx
              have hpr : p < r := by omega
              have hrow : pickF L (cel s c) m = cel s c p := by funext j; unfold pickF; rw [List.getD_eq_getElem?_getD, List.getElem?_eq_getElem hmL, Option.getD_some, hp]; rfl
              have hadd : ∀ W, (Op.stringOp .add ⟨((tabL k c (pickF L (cel s c))).take (m * c)).toArray⟩ (rowB c (cel s c p))).run Try.prog W = .ok (.string ⟨((tabL k c (pickF L (cel s c))).take ((m + 1) * c)).toArray⟩) W := fun W => by
                rw [← join_rc k c (pickF L (cel s c)) m hlt2, hrow]
                exact run_string_add_sum W _ _ (by have := join_rc_size k c (pickF L (cel s c)) m hlt2 (by omega) h4; rw [hrow] at this; omega)
              have hlow : (a.add m).block < wr.heap.size := by
                rw [show (a.add m).block = a.block by unfold Addr.add; split <;> rfl]
                have := HA.out; have := hw.size; omega
              have pm : (m : Int) < (k : Int) := by omega
              have ppr : (p : Int) < (r : Int) := by omega
              clear hw hx hp hrow
              go_wp2_with fail
              go_region_with ((go_at_call 41; refine (rrows_any r c s _ h1 h2 h3 h4 HS.out).mono ?_; rintro e w5 ⟨g, cp, rfl, ho5, hb5⟩; have cell5 := (cell_kept hb5 (a.add m) (by exact hlow)).trans cell; have row5 := (ho5.cellAt p (by omega)).trans (rowsV_at r c (cel s c) p hpr)))
              all_goals
                have hz : w.heap.size + 2 ≤ wr.heap.size := by have := hbel.out.size; have := S0.out; omega
                have hbel5 : Hid (Below (w.heap.size + 2) w0 w5) := hbel.out.drew.trans (hb5.mono (by exact hz))
                clear hb5 ho5 cell5 row5
                go_wp2_with fail
                go_roundw
                case rel => exact ⟨m + 1, by omega, by go_num, rfl, hbel5.out⟩
                case measure => simp [intOf]; omega
            · obtain rfl : m = k := by omega
              have bZr := (hbel.out.block (w.heap.size + 1) (by omega)).trans BZ.out
              have c0 := blk_cell (j := 0) bZr rfl
              have c1 := blk_cell (j := 1) bZr rfl
              have c2 := blk_cell (j := 2) bZr rfl
              have cf := blk_free bZr
              have cA1 := blk_cell (j := 1) ((hbel.out.block w.heap.size (by omega)).trans BA.out) rfl
              have hT : (tabL m c (pickF L (cel s c))).take (m * c) = tabL m c (pickF L (cel s c)) := List.take_of_length_le (by rw [tab_length]; omega)
              rw [hT]
              have hans : Hid (pickAns r c s L = .tuple #[.agg #[.int .i64 (m : Int), .int .i64 (c : Int), .string ⟨(tabL m c (pickF L (cel s c))).toArray⟩], .int .i64 0]) := by
                show _ = _; unfold pickAns; rw [if_pos HIN.out, if_neg (by rw [← HN.out]; omega), if_neg (by rw [← HN.out]; omega), ← HN.out]
              clear bZr hT
              go_wp2_with fail
              exact bodyPost_ret (v := .tuple #[.agg #[.int .i64 (m : Int), .int .i64 (c : Int), .string ⟨(tabL m c (pickF L (cel s c))).toArray⟩], .int .i64 0]) (by simp [results, Try.results22, go_sem, c0, c1, c2]) rfl
                ⟨by rw [hans.out], below_agg3 (BW.out.trans (hbel.out.mono (by omega))) (by omega) _ _ _⟩

set_option maxRecDepth 20000 in
set_option maxHeartbeats 1000000 in
theorem rpick_nil (r c : Nat) (s : ByteArray) (w : World) (h1 : 1 ≤ r) (h2 : r ≤ 255) (h3 : 1 ≤ c) (h4 : c ≤ 255) (hs : s.size = r * c) :
    Calls Try.prog 22 #[.agg #[.int .i64 (r : Int), .int .i64 (c : Int), .string s], .slice none 0 0] w fun e w' =>
      e = .returned (pickAns r c s []) ∧ Below w.heap.size w w' := by
  have ka : ((chk (r : Int) (c : Int) s : Nat) : Int) = 0 := by rw [chk_yes h1 h2 h3 h4 hs]; rfl
  clear hs
  go_enter Try.func22, Try.ntmps22
  go_wp2_with fail
  obtain ⟨s0, bA, bZ⟩ := blk2 w (.cells #[.int .i64 (r : Int), .int .i64 (c : Int), .string s] 23) (.cells #[.int .i64 0, .int .i64 0, .string ⟨#[]⟩] 23)
  have BW : Hid (Below w.heap.size w ((w.alloc (.cells #[.int .i64 (r : Int), .int .i64 (c : Int), .string s] 23)).alloc (.cells #[.int .i64 0, .int .i64 0, .string ⟨#[]⟩] 23))) :=
    ((Below.refl _ w).alloc (Nat.le_refl _) _).alloc (by simp) _
  generalize (w.alloc (.cells #[.int .i64 (r : Int), .int .i64 (c : Int), .string s] 23)).alloc (.cells #[.int .i64 0, .int .i64 0, .string ⟨#[]⟩] 23) = w0 at s0 bA bZ BW ⊢
  have S0 := Lib.hid s0
  have BZ := Lib.hid bZ
  clear s0 bA bZ
  refine (rcheck_any _ _ _ _).mono ?_
  rintro e w1 ⟨rfl, hb1⟩
  have HB1 : Hid (Below (w.heap.size + 2) w0 w1) := hb1.mono (by have := S0.out; omega)
  clear hb1
  go_wp2_with fail
  go_loopw [6] (fun i wr => i = .int .i64 0 ∧ Hid (Below (w.heap.size + 2) w0 wr)) (fun _ _ => 0)
  case atStart => exact ⟨rfl, HB1.out⟩
  case round =>
    obtain ⟨rfl, hbel⟩ := hrel
    have bZr := (hbel.out.block (w.heap.size + 1) (by omega)).trans BZ.out
    have c0 := blk_cell (j := 0) bZr rfl
    have c1 := blk_cell (j := 1) bZr rfl
    have c2 := blk_cell (j := 2) bZr rfl
    have cf := blk_free bZr
    have hans : Hid (pickAns r c s [] = .tuple #[.agg #[.int .i64 0, .int .i64 0, .string ⟨#[]⟩], .int .i64 1]) := by
      show _ = _; unfold pickAns; rw [if_pos (fun i h => absurd h (by simp)), if_neg (by simp)]; exact if_pos rfl
    clear bZr
    go_wp2_with fail
    exact bodyPost_ret (v := .tuple #[.agg #[.int .i64 0, .int .i64 0, .string ⟨#[]⟩], .int .i64 1]) (by simp [results, Try.results22, go_sem, c0, c1, c2]) rfl
      ⟨by rw [hans.out], below_agg3 (BW.out.trans (hbel.out.mono (by omega))) (by omega) _ _ _⟩

end Go.Proofs.Ytlmcpnlnbjloaaa
