/- What the landed package stripe does: the bytes of a place, and what a row makes of them; no condition but the range. -/
import Derived.Test.YtmnciipfepeccaaStUncut
import Derived.Test.YtmnciipfepeccaaMatLandMul
namespace Go.Proofs.Ytmnciipfepeccaa
open Go.RowKit

/-! ### a block that is known whole, as a list -/

def Cel (w : World) (g : Nat) (t : TypeId) (xs : List Value) : Prop := w.heap[g]? = some (.cells xs.toArray t (0, 0))

section
variable {w w' : World} {g g' i : Nat} {t : TypeId} {xs : List Value} {v : Value}
theorem Cel.lt (h : Cel w g t xs) : g < w.heap.size := (Array.getElem?_eq_some_iff.1 h).1
theorem Cel.cell (h : Cel w g t xs) (hv : xs[i]? = some v) : w.cell? ⟨g, i, none⟩ = some v := blk_cell h (by rw [List.getElem?_toArray]; exact hv)
theorem Cel.free (h : Cel w g t xs) : w.frozen? ⟨g, i, none⟩ = false := blk_free h i
theorem Cel.set (h : Cel w g t xs) : Cel (w.setCell ⟨g, i, none⟩ v) g t (xs.set i v) := by
  unfold Cel at *
  simp [World.setCell, Array.getElem?_modify, h]
theorem Cel.far (h : Cel w g t xs) (hn : g ≠ g') : Cel (w.setCell ⟨g', i, none⟩ v) g t xs := (Below.heap_setCell w ⟨g', i, none⟩ v g hn).trans h
theorem Cel.below (h : Cel w g t xs) (hb : Below w.heap.size w w') : Cel w' g t xs := (hb.block g h.lt).trans h
theorem Cel.drewN (h : Cel w g t xs) (n : Nat) : Cel (w.drewN n) g t xs := h
end

/-! ### the bytes of a place -/

def byteAt (s : ByteArray) (p : Nat) : UInt8 := s.data[p]?.getD 0

def colL (l : List ByteArray) (p : Nat) : List UInt8 := l.map fun s => byteAt s p

def colS (l : List ByteArray) (p : Nat) : ByteArray := ⟨(colL l p).toArray⟩

def colsL (l : List ByteArray) (n : Nat) : List ByteArray := (List.range n).map (colS l)

theorem colL_len (l : List ByteArray) (p : Nat) : (colL l p).length = l.length := by simp [colL]

theorem colsL_len (l : List ByteArray) (n : Nat) : (colsL l n).length = n := by simp [colsL]

theorem colsL_at (l : List ByteArray) (n p : Nat) (h : p < n) : (strV (colsL l n))[p]? = some (.string (colS l p)) := by
  unfold strV colsL
  rw [List.getElem?_map, List.getElem?_map, List.getElem?_range h]; rfl

theorem byteAt_get (s : ByteArray) (p : Nat) (h : p < s.size) : s[p]'h = byteAt s p := by
  unfold byteAt
  have h' : p < s.data.size := h
  rw [Array.getElem?_eq_getElem h']; rfl

/-- one byte more of a column, over an old one -/
theorem col_set (l : List ByteArray) (p j : Nat) (old : List UInt8) (ho : old.length = l.length) (hj : j < l.length) (v : Int) (hv : v = ((byteAt (l[j]'hj) p).toNat : Int)) :
    (Lib.byteCells ((colL l p).take j ++ old.drop j)).set j (.int .u8 v) = Lib.byteCells ((colL l p).take (j + 1) ++ old.drop (j + 1)) := by
  subst hv
  have hl := colL_len l p
  have e1 : old.drop j = old[j]'(by omega) :: old.drop (j + 1) := List.drop_eq_getElem_cons (by omega)
  have e2 : (colL l p).take (j + 1) = (colL l p).take j ++ [byteAt l[j] p] := by
    rw [List.take_add_one, List.getElem?_eq_getElem (by omega)]
    unfold colL
    rw [List.getElem_map]; rfl
  have e3 : (Lib.byteCells ((colL l p).take j)).length = j := by rw [Lib.byteCells_length, List.length_take]; omega
  unfold Lib.byteCells at *
  rw [e1, e2, List.map_append, List.map_append, List.map_append, List.map_cons, List.set_append_right _ _ (by omega), e3, Nat.sub_self, List.set_cons_zero, List.append_assoc]
  rfl

theorem col_at (l : List ByteArray) (p j : Nat) (old : List UInt8) (ho : old.length = l.length) (hj : j < l.length) : ∃ v, (Lib.byteCells ((colL l p).take j ++ old.drop j))[j]? = some v :=
  ⟨_, List.getElem?_eq_getElem (by rw [Lib.byteCells_length, List.length_append, List.length_take, List.length_drop, colL_len]; omega)⟩

theorem col_end (l : List ByteArray) (p : Nat) (old : List UInt8) (ho : old.length = l.length) : (colL l p).take l.length ++ old.drop l.length = colL l p := by
  rw [List.take_of_length_le (by rw [colL_len]; omega), List.drop_of_length_le (by omega), List.append_nil]

set_option maxRecDepth 20000 in
set_option maxHeartbeats 4000000 in
theorem places_any (A : Option Addr) (c n : Nat) (l : List ByteArray) (w : World) (h : StrsAt w A l) (hpos : 1 ≤ l.length) (hn : l.length ≤ 255) (hs : ∀ s ∈ l, s.size = n) (hn2 : n ≤ 100000) :
    Calls Try.prog 66 #[.slice A l.length c] w fun e w' =>
      ∃ g, e = .returned (.slice (some ⟨g, 0, none⟩) n n) ∧ w.heap.size ≤ g ∧ StrBlk w' g (colsL l n) ∧ Below w.heap.size w w' := by
  obtain ⟨i0, hi, hz0, hz1, hz2⟩ := info_parts Try.infoStr
  obtain ⟨i1, hi', hz0', hz1', hz2'⟩ := info_parts Try.infoU8
  obtain ⟨ad, rfl, hab, hc⟩ := h hpos
  have c0 : w.cell? ad = some (.string (l[0]'hpos)) := by have := hc 0 (by omega); rwa [add_zero'] at this
  have HC := Lib.hid hc
  have HS := Lib.hid hs
  have hs0 := hs l[0] (List.getElem_mem _)
  have HA := Lib.hid h
  have HS0 := Lib.hid hs0
  have p0 : (0 : Int) < (l.length : Int) := by omega
  have p0n : 0 < l.length := hpos
  have hk0 : Hid (l[0].size = n) := hs0
  clear h hc hs hs0
  go_enter Try.func66, Try.ntmps66
  go_upto_region 2 with (at_make; refine wpList_make_full _ rfl (.tmp 11) (.tmp 11) 40 rfl w.heap.size 9 i0 (.string ⟨#[]⟩) 1 Try.underlying40 hi hz0 hz1 .i64 .i64 _ _ n rfl rfl (by rw [hk0.out]) (by rw [hk0.out]) (by rw [hz2]; omega) (by unfold maxLen; omega) (by simp) ?_; intro w2 hown hgrow)
  have hCS : Cel w2 w.heap.size 9 (preV (strV (colsL l n)) (.string ⟨#[]⟩) 0) := by
    rw [preV_zero (strV (colsL l n)) (.string ⟨#[]⟩) n (by rw [strV_len, colsL_len]) rfl] at hown
    exact owns_blk0 hown
  have CS := Lib.hid hCS
  have B2 : Hid (Below w.heap.size w w2) := (Below.refl _ _).grown hgrow (Nat.le_refl _) (fun k hk => by cases hk)
  have hlt2 : w.heap.size < w2.heap.size := hCS.lt
  clear hown hgrow hCS c0
  go_wp2_with (at_make; refine wpList_make_full _ rfl (.tmp 14) (.tmp 14) 61 rfl w2.heap.size 5 i1 (.int .u8 0) 1 Try.underlying61 hi' hz0' hz1' .i64 .i64 _ _ l.length rfl rfl rfl rfl (by rw [hz2']; omega) (by unfold maxLen; omega) (by simp) ?_; intro w3 hown hgrow)
  have hCB : Cel w3 w2.heap.size 5 (Lib.byteCells (List.replicate l.length 0)) := by
    rw [Nat.mul_one, show (Value.int .u8 0).cells = #[.int .u8 0] from rfl, toList_madeCells_one] at hown
    have := owns_blk0 hown
    unfold Cel Lib.byteCells
    rw [List.map_replicate]
    exact this
  have CB := Lib.hid hCB
  have B3 : Hid (Below w2.heap.size w2 w3) := (Below.refl _ _).grown hgrow (Nat.le_refl _) (fun k hk => by cases hk)
  have CS3 := Lib.hid (CS.out.below B3.out)
  have hlt3 : w2.heap.size < w3.heap.size := hCB.lt
  have BW : Hid (Below w.heap.size w w3) := B2.out.trans (B3.out.mono (by omega))
  clear hown hgrow hCB CS B2 B3
  generalize hgb : w2.heap.size = gb at CB hlt2 hlt3 ⊢
  generalize hgs : w.heap.size = gs at CS3 hlt2 BW hab ⊢
  have HGB := Lib.hid hgb
  have HGS := Lib.hid hgs
  have hne : gs ≠ gb := by omega
  clear hgb hgs
  go_loopw [18] (fun i wr => ∃ (p : Nat) (old : List UInt8), p ≤ n ∧ i = .int .i64 (p : Int) ∧ old.length = l.length ∧ Hid (Cel wr gs 9 (preV (strV (colsL l n)) (.string ⟨#[]⟩) p)) ∧ Hid (Cel wr gb 5 (Lib.byteCells old)) ∧ Hid (Below gs w wr)) (fun i _ => n - (intOf i).toNat)
  case atStart => exact ⟨0, List.replicate l.length 0, by omega, rfl, by simp, CS3.out, CB.out, BW.out⟩
  case round =>
    obtain ⟨p, old, hp, rfl, hold, hcs, hcb, hbel⟩ := hrel
    clear CS3 CB BW
    by_cases hlt : p < n
    · have pp : (p : Int) < (n : Int) := by omega
      obtain ⟨wo, rfl⟩ : ∃ wo : World, wo = wr := ⟨_, rfl⟩
      go_wp2_with fail
      have HOLD := Lib.hid hold
      clear hold
      go_loopw [23] (fun i wr => ∃ j : Nat, j ≤ l.length ∧ i = .int .i64 (j : Int) ∧ Hid (Cel wr gs 9 (preV (strV (colsL l n)) (.string ⟨#[]⟩) p)) ∧ Hid (Cel wr gb 5 (Lib.byteCells ((colL l p).take j ++ old.drop j))) ∧ Hid (Below gs w wr)) (fun i _ => l.length - (intOf i).toNat)
      case atStart => exact ⟨0, by omega, rfl, hcs.out, hcb.out, hbel.out⟩
      case round =>
        obtain ⟨j, hj, rfl, hcs2, hcb2, hbel2⟩ := hrel
        clear hcs hcb hbel
        by_cases hlj : j < l.length
        · have hcell := (cell_kept hbel2.out (ad.add j) (by rw [st_block]; exact hab)).trans (HC.out j hlj)
          have hsz : (l[j]'hlj).size = n := HS.out _ (List.getElem_mem hlj)
          have hpj : (p : Int) < ((l[j]'hlj).size : Int) := by omega
          have hpj2 : p < (l[j]'hlj).size := by omega
          have pj : (j : Int) < (l.length : Int) := by omega
          obtain ⟨v, hv⟩ := col_at l p j old HOLD.out hlj
          have hold2 := hcb2.out.cell hv
          have hfree := hcb2.out.free (i := j)
          have hset := hcb2.out.set (i := j) (v := .int .u8 (((l[j]'hlj)[p]'hpj2).toNat : Int))
          rw [col_set l p j old HOLD.out hlj _ (by rw [byteAt_get])] at hset
          have HSET := Lib.hid hset
          have HFAR := Lib.hid (hcs2.out.far (g' := gb) (i := j) (v := .int .u8 (((l[j]'hlj)[p]'hpj2).toNat : Int)) hne)
          clear hv hset hsz
          go_wp2_with fail
          go_roundw
          case rel => exact ⟨j + 1, by omega, by go_num, HFAR.out, HSET.out, hbel2.out.setCell (show gs ≤ gb by omega) _⟩
          case measure => simp [intOf]; omega
        · obtain rfl : j = l.length := by omega
          have hcb3 : Hid (Cel wr gb 5 (Lib.byteCells (colL l p))) := by
            have := hcb2.out; rw [col_end l p old HOLD.out] at this; exact this
          clear hcb2
          have hcv := bytes_string hcb3.out 0 l.length l.length (by rw [colL_len]; omega)
          rw [List.drop_zero, List.take_of_length_le (by rw [colL_len]; omega)] at hcv
          have hcv2 : (convert 61 9 (.slice (some ⟨gb, 0, none⟩) l.length l.length)).run Try.prog wr = .ok (.string (colS l p)) wr := hcv
          obtain ⟨v, hv⟩ := preV_at (strV (colsL l n)) (.string ⟨#[]⟩) p p (by rw [strV_len, colsL_len]; exact hp) (by rw [strV_len, colsL_len]; exact hlt)
          have hold2 := hcs2.out.cell hv
          have hfree := hcs2.out.free (i := p)
          have hset := hcs2.out.set (i := p) (v := .string (colS l p))
          rw [preV_set (strV (colsL l n)) (.string ⟨#[]⟩) _ p (by rw [strV_len, colsL_len]; exact hlt) (colsL_at l n p hlt)] at hset
          have HSET := Lib.hid hset
          have HFAR := Lib.hid (hcb3.out.far (g' := gs) (i := p) (v := .string (colS l p)) (Ne.symm hne))
          clear hv hset hcv
          go_wp2_with fail
          go_roundw
          case rel => exact ⟨p + 1, colL l p, by omega, by go_num, colL_len l p, HSET.out, HFAR.out, hbel2.out.setCell (Nat.le_refl _) _⟩
          case measure => simp [intOf]; omega
    · obtain rfl : p = n := by omega
      have HG : Hid (StrBlk wr gs (colsL l p)) := by
        have h := hcs.out
        have e : preV (strV (colsL l p)) (.string ⟨#[]⟩) p = strV (colsL l p) := by
          have h2 := preV_end (strV (colsL l p)) (.string ⟨#[]⟩)
          rw [strV_len, colsL_len] at h2
          exact h2
        rw [e] at h
        exact h
      clear hcs hcb
      go_wp2_with fail
      go_ret
      exact ⟨gs, rfl, by rw [HGS.out]; exact Nat.le_refl _, HG.out, by rw [HGS.out]; exact hbel.out⟩

/-- what a row makes of the bytes of each place -/
def prodL (row : ByteArray) (cols : List ByteArray) : List UInt8 := cols.map fun c => UInt8.ofNat (dotk row c row.size)

theorem prodL_len (row : ByteArray) (cols : List ByteArray) : (prodL row cols).length = cols.length := by simp [prodL]

theorem prodL_at (row : ByteArray) (cols : List ByteArray) (j : Nat) (h : j < cols.length) (h2 : j < (prodL row cols).length) : (((prodL row cols)[j]'h2).toNat : Int) = ((dotk row (cols[j]'h) row.size : Nat) : Int) := by
  have e : (prodL row cols)[j]? = some (UInt8.ofNat (dotk row (cols[j]'h) row.size)) := by
    unfold prodL
    rw [List.getElem?_map, List.getElem?_eq_getElem h]; rfl
  rw [List.getElem?_eq_getElem h2] at e
  rw [Option.some.inj e, GfU.toNat_ofNat (dotk_le _ _ _)]

set_option maxRecDepth 20000 in
set_option maxHeartbeats 2000000 in
theorem mix_any (B : Nat) (row : ByteArray) (A : Option Addr) (c : Nat) (l : List ByteArray) (w : World) (hF : FieldAt w B) (h : StrsAt w A l) (hs : ∀ s ∈ l, row.size = s.size) (hn : l.length ≤ 100000) (hr : row.size ≤ maxLen) :
    Calls Try.prog 67 #[.pointer (some ⟨B, 0, none⟩), .string row, .slice A l.length c] w fun e w' =>
      e = .returned (.string ⟨(prodL row l).toArray⟩) ∧ Below w.heap.size w w' := by
  obtain ⟨i1, hi', hz0', hz1', hz2'⟩ := info_parts Try.infoU8
  have HA := Lib.hid h
  have HS := Lib.hid hs
  have HF := Lib.hid hF
  have hB := hF.lt
  clear h hs hF
  go_enter Try.func67, Try.ntmps67
  go_wp2_with (at_make; refine wpList_make_full _ rfl (.tmp 11) (.tmp 11) 61 rfl w.heap.size 5 i1 (.int .u8 0) 1 Try.underlying61 hi' hz0' hz1' .i64 .i64 _ _ l.length rfl rfl rfl rfl (by rw [hz2']; omega) (by unfold maxLen; omega) (by simp) ?_; intro w1 hown hgrow)
  have hC0 : Cel w1 w.heap.size 5 (preC (prodL row l) 0) := by
    rw [preC_zero (prodL row l) l.length (prodL_len row l)] at hown
    exact owns_blk0 hown
  have C0 := Lib.hid hC0
  have B1 : Hid (Below w.heap.size w w1) := (Below.refl _ _).grown hgrow (Nat.le_refl _) (fun k hk => by cases hk)
  clear hown hgrow hC0
  go_loopw [15] (fun i wr => ∃ j : Nat, j ≤ l.length ∧ i = .int .i64 (j : Int) ∧ Hid (Cel wr w.heap.size 5 (preC (prodL row l) j)) ∧ Hid (Below w.heap.size w wr)) (fun i _ => l.length - (intOf i).toNat)
  case atStart => exact ⟨0, by omega, rfl, C0.out, B1.out⟩
  case round =>
    obtain ⟨j, hj, rfl, hcel, hbel⟩ := hrel
    clear C0 B1
    by_cases hlt : j < l.length
    · obtain ⟨ad, rfl, hab, hc⟩ := HA.out (Nat.lt_of_le_of_lt (Nat.zero_le _) hlt)
      have hcell := (cell_kept hbel.out (ad.add j) (by rw [st_block]; exact hab)).trans (hc j hlt)
      have HFr := Lib.hid (HF.out.below hbel.out hB)
      have hsz := HS.out l[j] (List.getElem_mem hlt)
      have hjL : j < (prodL row l).length := by rw [prodL_len]; exact hlt
      have HSZ := Lib.hid hsz
      have pj : (j : Int) < (l.length : Int) := by omega
      obtain ⟨v, hv⟩ := preC_at (prodL row l) j hjL
      have hold := hcel.out.cell hv
      have hfree := hcel.out.free (i := j)
      have hset := hcel.out.set (i := j) (v := .int .u8 ((dotk row l[j] row.size : Nat) : Int))
      rw [preC_set (prodL row l) j hjL _ (prodL_at row l j hlt hjL).symm] at hset
      have HSET := Lib.hid hset
      have hcell2 : ∀ d, (wr.drewN d).cell? ⟨w.heap.size, j, none⟩ = some v := fun d => hold
      clear hv hset hc hsz
      go_wp2_with fail
      refine (dot_any B row l[j] _ HFr.out hr HSZ.out).mono ?_
      rintro e w2 ⟨rfl, d, rfl⟩
      go_wp2_with fail
      go_roundw
      case rel => exact ⟨j + 1, by omega, by go_num, HSET.out.drewN d, below_drewN (hbel.out.setCell (Nat.le_refl _) _) d⟩
      case measure => simp [intOf]; omega
    · obtain rfl : j = l.length := by omega
      have hcel2 : wr.heap[w.heap.size]? = some (.cells (Lib.byteCells (prodL row l)).toArray 5 (0, 0)) := by
        have h := hcel.out
        unfold Cel preC at h
        rw [List.take_of_length_le (by rw [prodL_len]; exact Nat.le_refl _), prodL_len, Nat.sub_self, List.replicate_zero, List.append_nil] at h
        exact h
      have hcv := bytes_string hcel2 0 l.length l.length (by rw [prodL_len]; omega)
      rw [List.drop_zero, List.take_of_length_le (by rw [prodL_len]; exact Nat.le_refl _)] at hcv
      clear hcel hcel2
      go_wp2_with fail
      go_ret
      exact ⟨rfl, hbel.out⟩

end Go.Proofs.Ytmnciipfepeccaa
