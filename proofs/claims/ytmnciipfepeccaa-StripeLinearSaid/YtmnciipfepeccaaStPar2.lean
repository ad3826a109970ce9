/- What the landed package stripe does: parity, Parity, Encode; no condition but the range. -/
import Derived.Test.YtmnciipfepeccaaStPar
namespace Go.Proofs.Ytmnciipfepeccaa
open Go.RowKit

/-- byte p of shard i of the others -/
def parB (k : Nat) (l : List ByteArray) (i p : Nat) : UInt8 := GfU.sum k fun j => GfU.ml (GfU.gen k (k + i) j) (byteAt (l.getD j ⟨#[]⟩) p)

def parS (k : Nat) (l : List ByteArray) (n i : Nat) : ByteArray := ⟨((List.range n).map (parB k l i)).toArray⟩

def parL (k m : Nat) (l : List ByteArray) (n : Nat) : List ByteArray := (List.range m).map (parS k l n)

theorem parL_len (k m : Nat) (l : List ByteArray) (n : Nat) : (parL k m l n).length = m := by simp [parL]

theorem parS_size (k : Nat) (l : List ByteArray) (n i : Nat) : (parS k l n i).size = n := by
  show ((List.range n).map (parB k l i)).toArray.size = n
  simp

theorem parL_at (k m : Nat) (l : List ByteArray) (n i : Nat) (h : i < m) : (strV (parL k m l n))[i]? = some (.string (parS k l n i)) := by
  unfold strV parL
  rw [List.getElem?_map, List.getElem?_map, List.getElem?_range h]; rfl

/-- the generator's row -/
def genRow (k m i : Nat) : ByteArray := rowS ⟨(tabL (k + m) k (GfU.gen k)).toArray⟩ k (k + i)

theorem genRow_size (k m i : Nat) (h : i < m) : (genRow k m i).size = k := rowS_size (r := k + m) (by omega) (size_tab _ _ _)

theorem mix_par (k m : Nat) (l : List ByteArray) (n i : Nat) (hl : l.length = k) (hi : i < m) : (⟨(prodL (genRow k m i) (colsL l n)).toArray⟩ : ByteArray) = parS k l n i := by
  unfold parS
  congr 2
  unfold prodL colsL
  rw [List.map_map]
  apply List.map_congr_left
  intro p _
  show UInt8.ofNat (dotk (genRow k m i) (colS l p) (genRow k m i).size) = parB k l i p
  rw [genRow_size k m i hi]
  rw [dotk_sum (genRow k m i) (colS l p) (fun j => GfU.gen k (k + i) j) (fun j => byteAt (l.getD j ⟨#[]⟩) p) k ?_ ?_]
  · unfold parB
    exact GfU.eq_of (GfU.toNat_ofNat (GfU.toNat_le _))
  · intro j hj
    unfold genRow
    rw [rowS_bt (r := k + m) (by omega) hj (size_tab _ _ _), cel_tab (k + m) k _ _ j (by omega) hj]
  · intro j hj
    rw [show colS l p = ⟨(colL l p).toArray⟩ from rfl, bt_list]
    unfold colL
    rw [List.getElem?_map, List.getElem?_eq_getElem (by omega), List.getD_eq_getElem?_getD, List.getElem?_eq_getElem (by omega)]
    rfl

set_option maxRecDepth 20000 in
set_option maxHeartbeats 4000000 in
theorem parity_any (k m n : Nat) (A : Option Addr) (c : Nat) (l : List ByteArray) (w : World) (h : StrsAt w A l) (h1 : 1 ≤ k) (h2 : k + m ≤ 255) (hl : l.length = k) (hs : ∀ s ∈ l, s.size = n) (hn : n ≤ 100000) :
    Calls Try.prog 54 #[.int .i64 (k : Int), .int .i64 (m : Int), .slice A l.length c] w fun e w' =>
      ∃ g, e = .returned (.slice (some ⟨g, 0, none⟩) m m) ∧ w.heap.size ≤ g ∧ StrBlk w' g (parL k m l n) ∧ Below w.heap.size w w' := by
  obtain ⟨i0, hi, hz0, hz1, hz2⟩ := info_parts Try.infoStr
  have HA := Lib.hid h
  have HPl := Lib.hid (fun w h => places_any A c n l w h (by omega) (by omega) hs hn)
  have HMP := Lib.hid (fun i hi => mix_par k m l n i hl hi)
  have HLk := Lib.hid hl
  clear h hs hl
  go_enter Try.func54, Try.ntmps54
  go_wp2_with fail
  refine (new_below _).mono ?_
  rintro e w1 ⟨rfl, hF, hb⟩
  have HF1 := Lib.hid hF
  have B1 := Lib.hid hb
  have hlt1 : w.heap.size < w1.heap.size := hF.lt
  clear hF hb
  generalize hB : w.heap.size = B at HF1 ⊢
  have HB := Lib.hid hB
  clear hB
  go_wp2_with fail
  refine (gen_yes k m _ h1 h2).mono ?_
  rintro e w2 ⟨rfl, hb⟩
  have B2 := Lib.hid (B1.out.trans (hb.mono B1.out.size))
  have HF2 := Lib.hid (HF1.out.below hb HF1.out.lt)
  clear hb B1 HF1
  obtain ⟨S, hS⟩ : ∃ S : ByteArray, S = ⟨(tabL (k + m) k (GfU.gen k)).toArray⟩ := ⟨_, rfl⟩
  have hSs : S.size = (k + m) * k := by rw [hS]; exact size_tab _ _ _
  have HS := Lib.hid hS
  rw [← hS]
  clear hS
  have HSS := Lib.hid hSs
  clear hSs
  go_wp2_with fail
  have B3 : Hid (Below w.heap.size w (w2.alloc (.cells #[.int .i64 ((k : Int) + (m : Int)), .int .i64 (k : Int), .string S] 26))) := B2.out.alloc B2.out.size _
  have HF3 := Lib.hid (HF2.out.below ((Below.refl _ w2).alloc (Nat.le_refl _) (.cells #[.int .i64 ((k : Int) + (m : Int)), .int .i64 (k : Int), .string S] 26)) HF2.out.lt)
  have M3 := Lib.hid (matAt_new w2 ((k : Int) + (m : Int)) (k : Int) S 26)
  clear B2 HF2
  generalize w2.heap.size = mb at M3 ⊢
  generalize (w2.alloc (.cells #[.int .i64 ((k : Int) + (m : Int)), .int .i64 (k : Int), .string S] 26)) = w3 at B3 HF3 M3 ⊢
  refine (HPl.out _ (HA.out.below B3.out)).mono ?_
  rintro e w4 ⟨gc, rfl, _, hsb, hb⟩
  have B4 := Lib.hid (B3.out.trans (hb.mono B3.out.size))
  have HF4 := Lib.hid (HF3.out.below hb HF3.out.lt)
  have M4 := Lib.hid (matAt_below M3.out hb)
  have HCols : Hid (StrsAt w4 (some ⟨gc, 0, none⟩) (colsL l n)) := StrsAt.blk hsb
  clear hsb hb B3 HF3 M3
  go_wp2_with (at_make; refine wpList_make_full _ rfl (.tmp 23) (.tmp 23) 40 rfl w4.heap.size 9 i0 (.string ⟨#[]⟩) 1 Try.underlying40 hi hz0 hz1 .i64 .i64 _ _ m rfl rfl rfl rfl (by rw [hz2]; omega) (by unfold maxLen; omega) (by simp) ?_; intro w5 hown hgrow)
  have hC0 : Cel w5 w4.heap.size 9 (preV (strV (parL k m l n)) (.string ⟨#[]⟩) 0) := by
    rw [preV_zero (strV (parL k m l n)) (.string ⟨#[]⟩) m (by rw [strV_len, parL_len]) rfl] at hown
    exact owns_blk0 hown
  have C0 := Lib.hid hC0
  have B5 : Hid (Below w4.heap.size w4 w5) := (Below.refl _ _).grown hgrow (Nat.le_refl _) (fun k hk => by cases hk)
  clear hown hgrow hC0
  go_loopw [27] (fun i wr => ∃ j : Nat, j ≤ m ∧ i = .int .i64 (j : Int) ∧ Hid (Cel wr w4.heap.size 9 (preV (strV (parL k m l n)) (.string ⟨#[]⟩) j)) ∧ Hid (Below w4.heap.size w4 wr)) (fun i _ => m - (intOf i).toNat)
  case atStart => exact ⟨0, by omega, rfl, C0.out, B5.out⟩
  case round =>
    obtain ⟨j, hj, rfl, hcel, hbel⟩ := hrel
    clear C0 B5
    by_cases hlt : j < m
    · have HFr := Lib.hid (HF4.out.below hbel.out HF4.out.lt)
      have HCr := Lib.hid (HCols.out.below hbel.out)
      obtain ⟨_, _, m2, _⟩ := matAt_below M4.out hbel.out
      have pj : (j : Int) < (m : Int) := by omega
      have e1 : ((k : Int) + (j : Int)) * (k : Int) = (((k + j) * k : Nat) : Int) := by rw [Int.natCast_mul]; rfl
      have e2 : ((k : Int) + (j : Int) + 1) * (k : Int) = (((k + j + 1) * k : Nat) : Int) := by rw [Int.natCast_mul]; rfl
      have l1 : (k + j + 1) * k ≤ S.size := by rw [HSS.out]; exact Nat.mul_le_mul_right _ (by omega)
      have l2 : S.size ≤ 255 * 255 := by rw [HSS.out]; exact Nat.mul_le_mul h2 (by omega)
      have l3 : (k + j) * k ≤ (k + j + 1) * k := Nat.mul_le_mul_right _ (by omega)
      have q1 : (0 : Int) ≤ ((k : Int) + (j : Int)) * (k : Int) := by rw [e1]; omega
      have q2 : ((k : Int) + (j : Int)) * (k : Int) ≤ 65025 := by rw [e1]; omega
      have q3 : (0 : Int) ≤ ((k : Int) + (j : Int) + 1) * (k : Int) := by rw [e2]; omega
      have q4 : ((k : Int) + (j : Int) + 1) * (k : Int) ≤ 65025 := by rw [e2]; omega
      have hsl : ∀ W, (Instr.slice 9 (.string S) (some (.int .i64 (((k : Int) + (j : Int)) * (k : Int)))) (some (.int .i64 (((k : Int) + (j : Int) + 1) * (k : Int)))) none).run Try.prog W = .ok (.string (genRow k m j)) W := fun W => by
        rw [run_slice_string_if W 9 S .i64 .i64 _ _ Try.underlying9, if_pos (by rw [e2]; omega), if_pos (by rw [e1, e2]; omega), e1, e2, Int.toNat_natCast, Int.toNat_natCast]
        unfold genRow rowS
        rw [← HS.out]
      obtain ⟨v, hv⟩ := preV_at (strV (parL k m l n)) (.string ⟨#[]⟩) j j (by rw [strV_len, parL_len]; exact hj) (by rw [strV_len, parL_len]; exact hlt)
      have HMix := Lib.hid (mix_any B (genRow k m j) (some ⟨gc, 0, none⟩) n (colsL l n) wr HFr.out HCr.out (fun s hs => by
        unfold colsL at hs
        obtain ⟨p, _, rfl⟩ := List.mem_map.1 hs
        rw [genRow_size k m j hlt]
        show _ = (colL l p).toArray.size
        rw [List.size_toArray, colL_len]; exact HLk.out.symm) (by rw [colsL_len]; omega) (by rw [genRow_size k m j hlt]; unfold maxLen; omega))
      rw [colsL_len, HMP.out j hlt] at HMix
      have HPV := Lib.hid hv
      clear e1 e2 l1 l2 l3 hv
      go_wp2_with fail
      refine (HMix.out).mono ?_
      rintro e w6 ⟨rfl, hb⟩
      have hcel6 := hcel.out.below hb
      have hold := hcel6.cell HPV.out
      have hfree := hcel6.free (i := j)
      have hset := hcel6.set (i := j) (v := .string (parS k l n j))
      rw [preV_set (strV (parL k m l n)) (.string ⟨#[]⟩) _ j (by rw [strV_len, parL_len]; exact hlt) (parL_at k m l n j hlt)] at hset
      have HSET := Lib.hid hset
      have B6 : Hid (Below w4.heap.size w4 w6) := hbel.out.trans (hb.mono hbel.out.size)
      clear hset hcel hbel hb HPV hcel6 m2 hsl
      go_wp2_with fail
      go_roundw
      case rel => exact ⟨j + 1, by omega, by go_num, HSET.out, B6.out.setCell (Nat.le_refl _) _⟩
      case measure => simp [intOf]; omega
    · obtain rfl : j = m := by omega
      have HG : Hid (StrBlk wr w4.heap.size (parL k j l n)) := by
        have h := hcel.out
        have e : preV (strV (parL k j l n)) (.string ⟨#[]⟩) j = strV (parL k j l n) := by
          have h2 := preV_end (strV (parL k j l n)) (.string ⟨#[]⟩)
          rw [strV_len, parL_len] at h2
          exact h2
        rw [e] at h
        exact h
      have B6 : Hid (Below w.heap.size w wr) := B4.out.trans (hbel.out.mono B4.out.size)
      have hge := B4.out.size
      clear hcel hbel
      go_wp2_with fail
      go_ret
      exact ⟨_, rfl, hge, HG.out, B6.out⟩

end Go.Proofs.Ytmnciipfepeccaa
