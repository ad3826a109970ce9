/- What the document's own generator is; one contract; no condition but the form's reach. -/
import Derived.Test.YtmnciipfepeccaaMatMark
import Derived.Test.YtmnciipfepeccaaMatAny
namespace Go.Proofs.Ytmnciipfepeccaa
open Go.RowKit

theorem bytes_to {P : Program} (w : World) (src dst e : TypeId) (s : ByteArray) (hs : P.underlying src = some .string) (hd : P.underlying dst = some (.slice e)) (he : P.underlying e = some (.int .u8)) (base : Nat) (hb : base ≤ w.heap.size) (n : Nat) (hn : s.size = n) (hm : n ≤ maxLen) :
    ∃ v w', (convert src dst (.string s)).run P w = .ok v w' ∧ OwnsM w' base e v n (cellsU s.data.toList) ∧ Below w.heap.size w w' := by
  subst hn
  exact ⟨_, _, run_bytes_of_string w src dst e s hs hd he, ownsM_new w e s base hb hm, (Below.refl _ w).drew.alloc (Nat.le_refl _) _⟩

theorem gen_head (k m : Nat) : (tabL (k + m) k (GfU.gen k)).take (k * k) = tabL k k GfU.one := by
  apply List.ext_getElem?
  intro p
  rw [List.getElem?_take]
  by_cases h : p < k * k
  · have hd : p / k < k := Nat.div_lt_of_lt_mul h
    rw [if_pos h, tab_at (k + m) k _ p (Nat.lt_of_lt_of_le h (Nat.mul_le_mul_right k (by omega))), tab_at k k _ p h]
    unfold GfU.gen
    rw [if_pos hd]
  · rw [if_neg h, List.getElem?_eq_none (by rw [tab_length]; omega)]

theorem gen_low (k n j : Nat) (h1 : k + n < 256) (hj : j < 256) : ((GfM.divv 1 ((k + n) ^^^ j) : Nat) : Int) = ((GfU.gen k (k + n) j).toNat : Int) := by
  have hx : (k + n) ^^^ j < 2 ^ 8 := Nat.xor_lt_two_pow (by omega) (by omega)
  unfold GfU.gen
  rw [if_neg (by omega), GfU.iv_toNat, GfU.toNat_ofNat (by omega)]

theorem Try.cellsOf (a b c : Value) (w : World) : (Instr.field 26 (.agg #[a, b, c]) 2).run Try.prog w = .ok c w := by kernel_rfl

set_option maxRecDepth 20000 in
set_option maxHeartbeats 2000000 in
theorem rmade_any (k m : Nat) (w : World) (h1 : 1 ≤ k) (h2 : k + m ≤ 255) :
    Calls Try.prog 56 #[.int .i64 (k : Int), .int .i64 (m : Int)] w fun e w' =>
      e = .returned (.agg #[.int .i64 ((k : Int) + (m : Int)), .int .i64 (k : Int), .string ⟨(tabL (k + m) k (GfU.gen k)).toArray⟩]) ∧ Below w.heap.size w w' := by
  obtain ⟨i0, hi, hz0, hz1, hz2⟩ := info_parts Try.infoU8
  have hkk : k * k ≤ 65025 := Nat.mul_le_mul (show k ≤ 255 by omega) (show k ≤ 255 by omega)
  go_enter Try.func56, Try.ntmps56
  go_wp2_with fail
  obtain ⟨s0, bZ⟩ := blk1 w (.cells #[.int .i64 0, .int .i64 0, .string ⟨#[]⟩] 26)
  have BW : Hid (Below w.heap.size w (w.alloc (.cells #[.int .i64 0, .int .i64 0, .string ⟨#[]⟩] 26))) := (Below.refl _ w).alloc (Nat.le_refl _) _
  generalize w.alloc (.cells #[.int .i64 0, .int .i64 0, .string ⟨#[]⟩] 26) = w0 at s0 bZ BW ⊢
  have S0 := Lib.hid s0
  have BZ := Lib.hid bZ
  clear bZ
  refine (rone_any k _ h1 (by omega)).mono ?_
  rintro e w1 ⟨rfl, hb1⟩
  obtain ⟨v0, W2, hcv, ho, hb2⟩ := bytes_to (P := Try.prog) w1 9 61 5 ⟨(tabL k k GfU.one).toArray⟩ Try.underlying9 Try.underlying61 Try.underlying5 (w.heap.size + 1) (by have := hb1.size; omega) (k * k) (size_tab k k _) (by unfold maxLen; omega)
  have HO := Lib.hid ho
  have hfd := Try.cellsOf
  have HB : Hid (Below (w.heap.size + 1) w0 W2) := (hb1.mono (by omega)).trans (hb2.mono (by have := hb1.size; omega))
  clear ho hb1 hb2 s0
  go_wp2_with fail
  go_loopw [5, 6, 7, 8, 9] (fun v i _ _ _ wr => ∃ n : Nat, n ≤ m ∧ i = .int .i64 (n : Int) ∧ Hid (OwnsM wr (w.heap.size + 1) 5 v ((k + n) * k) (cellsU ((tabL (k + m) k (GfU.gen k)).take ((k + n) * k)))) ∧ Hid (Below (w.heap.size + 1) w0 wr)) (fun _ i _ _ _ _ => m - (intOf i).toNat)
  case atStart => exact ⟨0, by omega, rfl, by have h := HO.out; rw [← gen_head k m] at h; exact h, HB.out⟩
  case round =>
    obtain ⟨n, hn, rfl, hown, hbel⟩ := hrel
    clear HO HB hcv hfd
    by_cases hlt : n < m
    · go_wp2_with fail
      obtain ⟨wn, rfl⟩ : ∃ wn : World, wn = wr := ⟨_, rfl⟩
      go_loopw [5, 7, 8, 9] (fun v i _ _ wr => ∃ j : Nat, j ≤ k ∧ i = .int .i64 (j : Int) ∧ Hid (OwnsM wr (w.heap.size + 1) 5 v ((k + n) * k + j) (cellsU ((tabL (k + m) k (GfU.gen k)).take ((k + n) * k + j)))) ∧ Hid (Below (w.heap.size + 1) w0 wr)) (fun _ i _ _ _ => k - (intOf i).toNat)
      case atStart => exact ⟨0, by omega, rfl, hown, hbel⟩
      case round =>
        clear hown hbel
        obtain ⟨j, hj, rfl, hown, hbel⟩ := hrel
        by_cases hlt2 : j < k
        · have y0 : (k + n) * k + j < 65025 := Nat.lt_of_lt_of_le (place_lt (r := 255) (show k + n < 255 by omega) hlt2) (Nat.mul_le_mul (Nat.le_refl 255) (show k ≤ 255 by omega))
          have hx : (k + n) ^^^ j < 256 := Nat.xor_lt_two_pow (n := 8) (by omega) (by omega)
          have s1 : IntKind.i64.wrap ((k : Int) + (n : Int)) = (k : Int) + (n : Int) := i64_wrap (by omega) (by omega)
          have s2 : bits .xor .i64 ((k : Int) + (n : Int)) (j : Int) = (((k + n) ^^^ j : Nat) : Int) := by rw [← Int.natCast_add]; exact i64_xor_nat _ _ (by omega) (by omega)
          have E := Lib.hid (gen_low k n j (by omega) (by omega))
          have HX := Lib.hid hx
          go_wp2_with fail
          refine (rinv_at _ ((k + n) ^^^ j) _ ?e1 (by have := HX.out; omega)).mono ?_
          case e1 => rfl
          rintro e w' ⟨rfl, rfl⟩
          rw [E.out]
          go_wp2_with (at_builtin; refine wpList_append_mark _ rfl _ _ 61 rfl (w.heap.size + 1) 5 i0 Try.underlying61 hi hz0 hz1 hz2 _ _ _ rfl (hown.out.alloc _) ⟨wr.heap.size, 0, none⟩ 1 (.int .u8 ((GfU.gen k (k + n) j).toNat : Int)) rfl ?c1 rfl ?c2 ?c3 ?_)
          case c1 => exact (World.cell?_alloc_mark _ _ _ _ 0).trans rfl
          case c2 => omega
          case c3 => have := hbel.out.size; have := S0.out; simp; omega
          intro v' w1 hown' hgrow
          have HBl := Lib.hid (below_mark hown.out hbel.out (by have := S0.out; omega) hgrow)
          rw [take_tab (k + m) k (GfU.gen k) (k + n) j (by omega) hlt2] at hown'
          have HO := Lib.hid hown'
          clear hown' hgrow
          go_wp2_with fail
          go_roundw
          case rel => exact ⟨j + 1, by omega, by go_num, HO.out, HBl.out⟩
          case measure => simp [intOf]; omega
        · obtain rfl : j = k := by omega
          go_wp2_with fail
          go_roundw
          case rel => exact ⟨n + 1, by omega, by go_num, by rw [← Nat.add_assoc, Nat.add_mul (j + n) 1, Nat.one_mul]; exact hown.out, hbel.out⟩
          case measure => simp [intOf]; omega
    · obtain rfl : n = m := by omega
      obtain ⟨g, cap, rfl, hcells⟩ := hown.out.cells (Nat.mul_pos (by omega) (by omega))
      have hL : (tabL (k + n) k (GfU.gen k)).length = (k + n) * k := tab_length _ _ _
      have hcv := run_convert_bytes_back (P := Try.prog) wr 61 9 5 ⟨g, 0, none⟩ cap (tabL (k + n) k (GfU.gen k)) Try.underlying61 Try.underlying5 Try.underlying9 (fun j hj => by
        have ha : (⟨g, 0, none⟩ : Addr).add j = ⟨g, j, none⟩ := by unfold Addr.add; split <;> simp_all
        rw [ha]
        refine hcells j _ ?_
        unfold cellsU
        rw [List.take_of_length_le (by omega), List.getElem?_map, List.getElem?_eq_getElem hj]; rfl)
      rw [hL] at hcv
      have bZr := (hbel.out.block w.heap.size (by omega)).trans BZ.out
      have c0 := blk_cell (j := 0) bZr rfl
      have c1 := blk_cell (j := 1) bZr rfl
      have c2 := blk_cell (j := 2) bZr rfl
      have cf := blk_free bZr
      clear bZr hL hcells
      go_wp2_with fail
      exact bodyPost_ret (v := .agg #[.int .i64 ((k : Int) + (n : Int)), .int .i64 (k : Int), .string ⟨(tabL (k + n) k (GfU.gen k)).toArray⟩]) (by simp [results, Try.results56, go_sem, c0, c1, c2]) rfl
        ⟨rfl, below_agg3 (BW.out.trans (hbel.out.mono (by omega))) (by omega) _ _ _⟩

end Go.Proofs.Ytmnciipfepeccaa
