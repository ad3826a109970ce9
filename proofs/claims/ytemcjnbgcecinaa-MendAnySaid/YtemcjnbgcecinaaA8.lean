/- Parts of the proof, joined: StPar, StPar2, StEnc, StLaw0; their conditions stand with each. -/
import Derived.BigQuiet
import Derived.Deep.QuietTactic
import Derived.Test.YtemcjnbgcecinaaA6
import Derived.Test.YtemcjnbgcecinaaA7

/- What the landed package stripe does: the bytes of a place, and what a row makes of them; no condition but the range. -/
namespace Go.Proofs.Ytemcjnbgcecinaa
open Go.RowKit

/-! ### a block that is known whole, as a list -/

def Cel (w : World) (g : Nat) (t : TypeId) (xs : List Value) : Prop := w.heap[g]? = some (.cells xs.toArray t (0, 0))

section
variable {w w' : World} {g g' i : Nat} {t : TypeId} {xs : List Value} {v : Value}
theorem Cel.lt (h : Cel w g t xs) : g < w.heap.size := (Array.getElem?_eq_some_iff.1 h).1
theorem Cel.cell (h : Cel w g t xs) (hv : xs[i]? = some v) : w.cell? ⟨g, i, none⟩ = some v := blk_cell h (by rw [List.getElem?_toArray]; exact hv)
theorem Cel.free (h : Cel w g t xs) : w.frozen? ⟨g, i, none⟩ = false := blk_free h i
theorem Cel.set (h : Cel w g t xs) : Cel (w.setCell ⟨g, i, none⟩ v) g t (xs.set i v) := by
  unfold Cel at *
  simp [World.setCell, Array.getElem?_modify, h]
theorem Cel.far (h : Cel w g t xs) (hn : g ≠ g') : Cel (w.setCell ⟨g', i, none⟩ v) g t xs := (Below.heap_setCell w ⟨g', i, none⟩ v g hn).trans h
theorem Cel.below (h : Cel w g t xs) (hb : Below w.heap.size w w') : Cel w' g t xs := (hb.block g h.lt).trans h
theorem Cel.drewN (h : Cel w g t xs) (n : Nat) : Cel (w.drewN n) g t xs := h
end

/-! ### the bytes of a place -/

def byteAt (s : ByteArray) (p : Nat) : UInt8 := s.data[p]?.getD 0

def colL (l : List ByteArray) (p : Nat) : List UInt8 := l.map fun s => byteAt s p

def colS (l : List ByteArray) (p : Nat) : ByteArray := ⟨(colL l p).toArray⟩

def colsL (l : List ByteArray) (n : Nat) : List ByteArray := (List.range n).map (colS l)

theorem colL_len (l : List ByteArray) (p : Nat) : (colL l p).length = l.length := by simp [colL]

theorem colsL_len (l : List ByteArray) (n : Nat) : (colsL l n).length = n := by simp [colsL]

theorem colsL_at (l : List ByteArray) (n p : Nat) (h : p < n) : (strV (colsL l n))[p]? = some (.string (colS l p)) := by
  unfold strV colsL
  rw [List.getElem?_map, List.getElem?_map, List.getElem?_range h]; rfl

theorem byteAt_get (s : ByteArray) (p : Nat) (h : p < s.size) : s[p]'h = byteAt s p := by
  unfold byteAt
  have h' : p < s.data.size := h
  rw [Array.getElem?_eq_getElem h']; rfl

/-- one byte more of a column, over an old one -/
theorem col_set (l : List ByteArray) (p j : Nat) (old : List UInt8) (ho : old.length = l.length) (hj : j < l.length) (v : Int) (hv : v = ((byteAt (l[j]'hj) p).toNat : Int)) :
    (Lib.byteCells ((colL l p).take j ++ old.drop j)).set j (.int .u8 v) = Lib.byteCells ((colL l p).take (j + 1) ++ old.drop (j + 1)) := by
  subst hv
  have hl := colL_len l p
  have e1 : old.drop j = old[j]'(by omega) :: old.drop (j + 1) := List.drop_eq_getElem_cons (by omega)
  have e2 : (colL l p).take (j + 1) = (colL l p).take j ++ [byteAt l[j] p] := by
    rw [List.take_add_one, List.getElem?_eq_getElem (by omega)]
    unfold colL
    rw [List.getElem_map]; rfl
  have e3 : (Lib.byteCells ((colL l p).take j)).length = j := by rw [Lib.byteCells_length, List.length_take]; omega
  unfold Lib.byteCells at *
  rw [e1, e2, List.map_append, List.map_append, List.map_append, List.map_cons, List.set_append_right _ _ (by omega), e3, Nat.sub_self, List.set_cons_zero, List.append_assoc]
  rfl

theorem col_at (l : List ByteArray) (p j : Nat) (old : List UInt8) (ho : old.length = l.length) (hj : j < l.length) : ∃ v, (Lib.byteCells ((colL l p).take j ++ old.drop j))[j]? = some v :=
  ⟨_, List.getElem?_eq_getElem (by rw [Lib.byteCells_length, List.length_append, List.length_take, List.length_drop, colL_len]; omega)⟩

theorem col_end (l : List ByteArray) (p : Nat) (old : List UInt8) (ho : old.length = l.length) : (colL l p).take l.length ++ old.drop l.length = colL l p := by
  rw [List.take_of_length_le (by rw [colL_len]; omega), List.drop_of_length_le (by omega), List.append_nil]

set_option maxRecDepth 20000 in
set_option maxHeartbeats 4000000 in
theorem places_any (A : Option Addr) (c n : Nat) (l : List ByteArray) (w : World) (h : StrsAt w A l) (hpos : 1 ≤ l.length) (hn : l.length ≤ 255) (hs : ∀ s ∈ l, s.size = n) (hn2 : n ≤ 100000) :
    Calls Try.prog 61 #[.slice A l.length c] w fun e w' =>
      ∃ g, e = .returned (.slice (some ⟨g, 0, none⟩) n n) ∧ w.heap.size ≤ g ∧ StrBlk w' g (colsL l n) ∧ Below w.heap.size w w' := by
  obtain ⟨i0, hi, hz0, hz1, hz2⟩ := info_parts Try.infoStr
  obtain ⟨i1, hi', hz0', hz1', hz2'⟩ := info_parts Try.infoU8
  obtain ⟨ad, rfl, hab, hc⟩ := h hpos
  have c0 : w.cell? ad = some (.string (l[0]'hpos)) := by have := hc 0 (by omega); rwa [add_zero'] at this
  have HC := Lib.hid hc
  have HS := Lib.hid hs
  have hs0 := hs l[0] (List.getElem_mem _)
  have HA := Lib.hid h
  have HS0 := Lib.hid hs0
  have p0 : (0 : Int) < (l.length : Int) := by omega
  have p0n : 0 < l.length := hpos
  have hk0 : Hid (l[0].size = n) := hs0
  clear h hc hs hs0
  go_enter Try.func61, Try.ntmps61
  go_upto_region 2 with (at_make; refine wpList_make_full _ rfl (.tmp 11) (.tmp 11) 32 rfl w.heap.size 9 i0 (.string ⟨#[]⟩) 1 Try.underlying32 hi hz0 hz1 .i64 .i64 _ _ n rfl rfl (by rw [hk0.out]) (by rw [hk0.out]) (by rw [hz2]; omega) (by unfold maxLen; omega) (by simp) ?_; intro w2 hown hgrow)
  have hCS : Cel w2 w.heap.size 9 (preV (strV (colsL l n)) (.string ⟨#[]⟩) 0) := by
    rw [preV_zero (strV (colsL l n)) (.string ⟨#[]⟩) n (by rw [strV_len, colsL_len]) rfl] at hown
    exact owns_blk0 hown
  have CS := Lib.hid hCS
  have B2 : Hid (Below w.heap.size w w2) := (Below.refl _ _).grown hgrow (Nat.le_refl _) (fun k hk => by cases hk)
  have hlt2 : w.heap.size < w2.heap.size := hCS.lt
  clear hown hgrow hCS c0
  go_wp2_with (at_make; refine wpList_make_full _ rfl (.tmp 14) (.tmp 14) 48 rfl w2.heap.size 5 i1 (.int .u8 0) 1 Try.underlying48 hi' hz0' hz1' .i64 .i64 _ _ l.length rfl rfl rfl rfl (by rw [hz2']; omega) (by unfold maxLen; omega) (by simp) ?_; intro w3 hown hgrow)
  have hCB : Cel w3 w2.heap.size 5 (Lib.byteCells (List.replicate l.length 0)) := by
    rw [Nat.mul_one, show (Value.int .u8 0).cells = #[.int .u8 0] from rfl, toList_madeCells_one] at hown
    have := owns_blk0 hown
    unfold Cel Lib.byteCells
    rw [List.map_replicate]
    exact this
  have CB := Lib.hid hCB
  have B3 : Hid (Below w2.heap.size w2 w3) := (Below.refl _ _).grown hgrow (Nat.le_refl _) (fun k hk => by cases hk)
  have CS3 := Lib.hid (CS.out.below B3.out)
  have hlt3 : w2.heap.size < w3.heap.size := hCB.lt
  have BW : Hid (Below w.heap.size w w3) := B2.out.trans (B3.out.mono (by omega))
  clear hown hgrow hCB CS B2 B3
  generalize hgb : w2.heap.size = gb at CB hlt2 hlt3 ⊢
  generalize hgs : w.heap.size = gs at CS3 hlt2 BW hab ⊢
  have HGB := Lib.hid hgb
  have HGS := Lib.hid hgs
  have hne : gs ≠ gb := by omega
  clear hgb hgs
  go_loopw [18] (fun i wr => ∃ (p : Nat) (old : List UInt8), p ≤ n ∧ i = .int .i64 (p : Int) ∧ old.length = l.length ∧ Hid (Cel wr gs 9 (preV (strV (colsL l n)) (.string ⟨#[]⟩) p)) ∧ Hid (Cel wr gb 5 (Lib.byteCells old)) ∧ Hid (Below gs w wr)) (fun i _ => n - (intOf i).toNat)
  case atStart => exact ⟨0, List.replicate l.length 0, by omega, rfl, by simp, CS3.out, CB.out, BW.out⟩
  case round =>
    obtain ⟨p, old, hp, rfl, hold, hcs, hcb, hbel⟩ := hrel
    clear CS3 CB BW
    by_cases hlt : p < n
    · have pp : (p : Int) < (n : Int) := by omega
      obtain ⟨wo, rfl⟩ : ∃ wo : World, wo = wr := ⟨_, rfl⟩
      go_wp2_with fail
      have HOLD := Lib.hid hold
      clear hold
      go_loopw [23] (fun i wr => ∃ j : Nat, j ≤ l.length ∧ i = .int .i64 (j : Int) ∧ Hid (Cel wr gs 9 (preV (strV (colsL l n)) (.string ⟨#[]⟩) p)) ∧ Hid (Cel wr gb 5 (Lib.byteCells ((colL l p).take j ++ old.drop j))) ∧ Hid (Below gs w wr)) (fun i _ => l.length - (intOf i).toNat)
      case atStart => exact ⟨0, by omega, rfl, hcs.out, hcb.out, hbel.out⟩
      case round =>
        obtain ⟨j, hj, rfl, hcs2, hcb2, hbel2⟩ := hrel
        clear hcs hcb hbel
        by_cases hlj : j < l.length
        · have hcell := (cell_kept hbel2.out (ad.add j) (by rw [st_block]; exact hab)).trans (HC.out j hlj)
          have hsz : (l[j]'hlj).size = n := HS.out _ (List.getElem_mem hlj)
          have hpj : (p : Int) < ((l[j]'hlj).size : Int) := by omega
          have hpj2 : p < (l[j]'hlj).size := by omega
          have pj : (j : Int) < (l.length : Int) := by omega
          obtain ⟨v, hv⟩ := col_at l p j old HOLD.out hlj
          have hold2 := hcb2.out.cell hv
          have hfree := hcb2.out.free (i := j)
          have hset := hcb2.out.set (i := j) (v := .int .u8 (((l[j]'hlj)[p]'hpj2).toNat : Int))
          rw [col_set l p j old HOLD.out hlj _ (by rw [byteAt_get])] at hset
          have HSET := Lib.hid hset
          have HFAR := Lib.hid (hcs2.out.far (g' := gb) (i := j) (v := .int .u8 (((l[j]'hlj)[p]'hpj2).toNat : Int)) hne)
          clear hv hset hsz
          go_wp2_with fail
          go_roundw
          case rel => exact ⟨j + 1, by omega, by go_num, HFAR.out, HSET.out, hbel2.out.setCell (show gs ≤ gb by omega) _⟩
          case measure => simp [intOf]; omega
        · obtain rfl : j = l.length := by omega
          have hcb3 : Hid (Cel wr gb 5 (Lib.byteCells (colL l p))) := by
            have := hcb2.out; rw [col_end l p old HOLD.out] at this; exact this
          clear hcb2
          have hcv := bytes_string hcb3.out 0 l.length l.length (by rw [colL_len]; omega)
          rw [List.drop_zero, List.take_of_length_le (by rw [colL_len]; omega)] at hcv
          have hcv2 : (convert 48 9 (.slice (some ⟨gb, 0, none⟩) l.length l.length)).run Try.prog wr = .ok (.string (colS l p)) wr := hcv
          obtain ⟨v, hv⟩ := preV_at (strV (colsL l n)) (.string ⟨#[]⟩) p p (by rw [strV_len, colsL_len]; exact hp) (by rw [strV_len, colsL_len]; exact hlt)
          have hold2 := hcs2.out.cell hv
          have hfree := hcs2.out.free (i := p)
          have hset := hcs2.out.set (i := p) (v := .string (colS l p))
          rw [preV_set (strV (colsL l n)) (.string ⟨#[]⟩) _ p (by rw [strV_len, colsL_len]; exact hlt) (colsL_at l n p hlt)] at hset
          have HSET := Lib.hid hset
          have HFAR := Lib.hid (hcb3.out.far (g' := gs) (i := p) (v := .string (colS l p)) (Ne.symm hne))
          clear hv hset hcv
          go_wp2_with fail
          go_roundw
          case rel => exact ⟨p + 1, colL l p, by omega, by go_num, colL_len l p, HSET.out, HFAR.out, hbel2.out.setCell (Nat.le_refl _) _⟩
          case measure => simp [intOf]; omega
    · obtain rfl : p = n := by omega
      have HG : Hid (StrBlk wr gs (colsL l p)) := by
        have h := hcs.out
        have e : preV (strV (colsL l p)) (.string ⟨#[]⟩) p = strV (colsL l p) := by
          have h2 := preV_end (strV (colsL l p)) (.string ⟨#[]⟩)
          rw [strV_len, colsL_len] at h2
          exact h2
        rw [e] at h
        exact h
      clear hcs hcb
      go_wp2_with fail
      go_ret
      exact ⟨gs, rfl, by rw [HGS.out]; exact Nat.le_refl _, HG.out, by rw [HGS.out]; exact hbel.out⟩

/-- what a row makes of the bytes of each place -/
def prodL (row : ByteArray) (cols : List ByteArray) : List UInt8 := cols.map fun c => UInt8.ofNat (dotk row c row.size)

theorem prodL_len (row : ByteArray) (cols : List ByteArray) : (prodL row cols).length = cols.length := by simp [prodL]

theorem prodL_at (row : ByteArray) (cols : List ByteArray) (j : Nat) (h : j < cols.length) (h2 : j < (prodL row cols).length) : (((prodL row cols)[j]'h2).toNat : Int) = ((dotk row (cols[j]'h) row.size : Nat) : Int) := by
  have e : (prodL row cols)[j]? = some (UInt8.ofNat (dotk row (cols[j]'h) row.size)) := by
    unfold prodL
    rw [List.getElem?_map, List.getElem?_eq_getElem h]; rfl
  rw [List.getElem?_eq_getElem h2] at e
  rw [Option.some.inj e, GfU.toNat_ofNat (dotk_le _ _ _)]

set_option maxRecDepth 20000 in
set_option maxHeartbeats 2000000 in
theorem mix_any (B : Nat) (row : ByteArray) (A : Option Addr) (c : Nat) (l : List ByteArray) (w : World) (hF : FieldAt w B) (h : StrsAt w A l) (hs : ∀ s ∈ l, row.size = s.size) (hn : l.length ≤ 100000) (hr : row.size ≤ maxLen) :
    Calls Try.prog 62 #[.pointer (some ⟨B, 0, none⟩), .string row, .slice A l.length c] w fun e w' =>
      e = .returned (.string ⟨(prodL row l).toArray⟩) ∧ Below w.heap.size w w' := by
  obtain ⟨i1, hi', hz0', hz1', hz2'⟩ := info_parts Try.infoU8
  have HA := Lib.hid h
  have HS := Lib.hid hs
  have HF := Lib.hid hF
  have hB := hF.lt
  clear h hs hF
  go_enter Try.func62, Try.ntmps62
  go_wp2_with (at_make; refine wpList_make_full _ rfl (.tmp 11) (.tmp 11) 48 rfl w.heap.size 5 i1 (.int .u8 0) 1 Try.underlying48 hi' hz0' hz1' .i64 .i64 _ _ l.length rfl rfl rfl rfl (by rw [hz2']; omega) (by unfold maxLen; omega) (by simp) ?_; intro w1 hown hgrow)
  have hC0 : Cel w1 w.heap.size 5 (preC (prodL row l) 0) := by
    rw [preC_zero (prodL row l) l.length (prodL_len row l)] at hown
    exact owns_blk0 hown
  have C0 := Lib.hid hC0
  have B1 : Hid (Below w.heap.size w w1) := (Below.refl _ _).grown hgrow (Nat.le_refl _) (fun k hk => by cases hk)
  clear hown hgrow hC0
  go_loopw [15] (fun i wr => ∃ j : Nat, j ≤ l.length ∧ i = .int .i64 (j : Int) ∧ Hid (Cel wr w.heap.size 5 (preC (prodL row l) j)) ∧ Hid (Below w.heap.size w wr)) (fun i _ => l.length - (intOf i).toNat)
  case atStart => exact ⟨0, by omega, rfl, C0.out, B1.out⟩
  case round =>
    obtain ⟨j, hj, rfl, hcel, hbel⟩ := hrel
    clear C0 B1
    by_cases hlt : j < l.length
    · obtain ⟨ad, rfl, hab, hc⟩ := HA.out (Nat.lt_of_le_of_lt (Nat.zero_le _) hlt)
      have hcell := (cell_kept hbel.out (ad.add j) (by rw [st_block]; exact hab)).trans (hc j hlt)
      have HFr := Lib.hid (HF.out.below hbel.out hB)
      have hsz := HS.out l[j] (List.getElem_mem hlt)
      have hjL : j < (prodL row l).length := by rw [prodL_len]; exact hlt
      have HSZ := Lib.hid hsz
      have pj : (j : Int) < (l.length : Int) := by omega
      obtain ⟨v, hv⟩ := preC_at (prodL row l) j hjL
      have hold := hcel.out.cell hv
      have hfree := hcel.out.free (i := j)
      have hset := hcel.out.set (i := j) (v := .int .u8 ((dotk row l[j] row.size : Nat) : Int))
      rw [preC_set (prodL row l) j hjL _ (prodL_at row l j hlt hjL).symm] at hset
      have HSET := Lib.hid hset
      have hcell2 : ∀ d, (wr.drewN d).cell? ⟨w.heap.size, j, none⟩ = some v := fun d => hold
      clear hv hset hc hsz
      go_wp2_with fail
      refine (dot_any B row l[j] _ HFr.out hr HSZ.out).mono ?_
      rintro e w2 ⟨rfl, d, rfl⟩
      go_wp2_with fail
      go_roundw
      case rel => exact ⟨j + 1, by omega, by go_num, HSET.out.drewN d, below_drewN (hbel.out.setCell (Nat.le_refl _) _) d⟩
      case measure => simp [intOf]; omega
    · obtain rfl : j = l.length := by omega
      have hcel2 : wr.heap[w.heap.size]? = some (.cells (Lib.byteCells (prodL row l)).toArray 5 (0, 0)) := by
        have h := hcel.out
        unfold Cel preC at h
        rw [List.take_of_length_le (by rw [prodL_len]; exact Nat.le_refl _), prodL_len, Nat.sub_self, List.replicate_zero, List.append_nil] at h
        exact h
      have hcv := bytes_string hcel2 0 l.length l.length (by rw [prodL_len]; omega)
      rw [List.drop_zero, List.take_of_length_le (by rw [prodL_len]; exact Nat.le_refl _)] at hcv
      clear hcel hcel2
      go_wp2_with fail
      go_ret
      exact ⟨rfl, hbel.out⟩

end Go.Proofs.Ytemcjnbgcecinaa

/- What the landed package stripe does: parity, Parity, Encode; no condition but the range. -/
namespace Go.Proofs.Ytemcjnbgcecinaa
open Go.RowKit

/-- byte p of shard i of the others -/
def parB (k : Nat) (l : List ByteArray) (i p : Nat) : UInt8 := GfU.sum k fun j => GfU.ml (GfU.gen k (k + i) j) (byteAt (l.getD j ⟨#[]⟩) p)

def parS (k : Nat) (l : List ByteArray) (n i : Nat) : ByteArray := ⟨((List.range n).map (parB k l i)).toArray⟩

def parL (k m : Nat) (l : List ByteArray) (n : Nat) : List ByteArray := (List.range m).map (parS k l n)

theorem parL_len (k m : Nat) (l : List ByteArray) (n : Nat) : (parL k m l n).length = m := by simp [parL]

theorem parS_size (k : Nat) (l : List ByteArray) (n i : Nat) : (parS k l n i).size = n := by
  show ((List.range n).map (parB k l i)).toArray.size = n
  simp

theorem parL_at (k m : Nat) (l : List ByteArray) (n i : Nat) (h : i < m) : (strV (parL k m l n))[i]? = some (.string (parS k l n i)) := by
  unfold strV parL
  rw [List.getElem?_map, List.getElem?_map, List.getElem?_range h]; rfl

/-- the generator's row -/
def genRow (k m i : Nat) : ByteArray := rowS ⟨(tabL (k + m) k (GfU.gen k)).toArray⟩ k (k + i)

theorem genRow_size (k m i : Nat) (h : i < m) : (genRow k m i).size = k := rowS_size (r := k + m) (by omega) (size_tab _ _ _)

theorem mix_par (k m : Nat) (l : List ByteArray) (n i : Nat) (hl : l.length = k) (hi : i < m) : (⟨(prodL (genRow k m i) (colsL l n)).toArray⟩ : ByteArray) = parS k l n i := by
  unfold parS
  congr 2
  unfold prodL colsL
  rw [List.map_map]
  apply List.map_congr_left
  intro p _
  show UInt8.ofNat (dotk (genRow k m i) (colS l p) (genRow k m i).size) = parB k l i p
  rw [genRow_size k m i hi]
  rw [dotk_sum (genRow k m i) (colS l p) (fun j => GfU.gen k (k + i) j) (fun j => byteAt (l.getD j ⟨#[]⟩) p) k ?_ ?_]
  · unfold parB
    exact GfU.eq_of (GfU.toNat_ofNat (GfU.toNat_le _))
  · intro j hj
    unfold genRow
    rw [rowS_bt (r := k + m) (by omega) hj (size_tab _ _ _), cel_tab (k + m) k _ _ j (by omega) hj]
  · intro j hj
    rw [show colS l p = ⟨(colL l p).toArray⟩ from rfl, bt_list]
    unfold colL
    rw [List.getElem?_map, List.getElem?_eq_getElem (by omega), List.getD_eq_getElem?_getD, List.getElem?_eq_getElem (by omega)]
    rfl

set_option maxRecDepth 20000 in
set_option maxHeartbeats 4000000 in
theorem parity_any (k m n : Nat) (A : Option Addr) (c : Nat) (l : List ByteArray) (w : World) (h : StrsAt w A l) (h1 : 1 ≤ k) (h2 : k + m ≤ 255) (hl : l.length = k) (hs : ∀ s ∈ l, s.size = n) (hn : n ≤ 100000) :
    Calls Try.prog 42 #[.int .i64 (k : Int), .int .i64 (m : Int), .slice A l.length c] w fun e w' =>
      ∃ g, e = .returned (.slice (some ⟨g, 0, none⟩) m m) ∧ w.heap.size ≤ g ∧ StrBlk w' g (parL k m l n) ∧ Below w.heap.size w w' := by
  obtain ⟨i0, hi, hz0, hz1, hz2⟩ := info_parts Try.infoStr
  have HA := Lib.hid h
  have HPl := Lib.hid (fun w h => places_any A c n l w h (by omega) (by omega) hs hn)
  have HMP := Lib.hid (fun i hi => mix_par k m l n i hl hi)
  have HLk := Lib.hid hl
  clear h hs hl
  go_enter Try.func42, Try.ntmps42
  go_wp2_with fail
  refine (new_below _).mono ?_
  rintro e w1 ⟨rfl, hF, hb⟩
  have HF1 := Lib.hid hF
  have B1 := Lib.hid hb
  have hlt1 : w.heap.size < w1.heap.size := hF.lt
  clear hF hb
  generalize hB : w.heap.size = B at HF1 ⊢
  have HB := Lib.hid hB
  clear hB
  go_wp2_with fail
  refine (gen_yes k m _ h1 h2).mono ?_
  rintro e w2 ⟨rfl, hb⟩
  have B2 := Lib.hid (B1.out.trans (hb.mono B1.out.size))
  have HF2 := Lib.hid (HF1.out.below hb HF1.out.lt)
  clear hb B1 HF1
  obtain ⟨S, hS⟩ : ∃ S : ByteArray, S = ⟨(tabL (k + m) k (GfU.gen k)).toArray⟩ := ⟨_, rfl⟩
  have hSs : S.size = (k + m) * k := by rw [hS]; exact size_tab _ _ _
  have HS := Lib.hid hS
  rw [← hS]
  clear hS
  have HSS := Lib.hid hSs
  clear hSs
  go_wp2_with fail
  have B3 : Hid (Below w.heap.size w (w2.alloc (.cells #[.int .i64 ((k : Int) + (m : Int)), .int .i64 (k : Int), .string S] 59))) := B2.out.alloc B2.out.size _
  have HF3 := Lib.hid (HF2.out.below ((Below.refl _ w2).alloc (Nat.le_refl _) (.cells #[.int .i64 ((k : Int) + (m : Int)), .int .i64 (k : Int), .string S] 59)) HF2.out.lt)
  have M3 := Lib.hid (matAt_new w2 ((k : Int) + (m : Int)) (k : Int) S 59)
  clear B2 HF2
  generalize w2.heap.size = mb at M3 ⊢
  generalize (w2.alloc (.cells #[.int .i64 ((k : Int) + (m : Int)), .int .i64 (k : Int), .string S] 59)) = w3 at B3 HF3 M3 ⊢
  refine (HPl.out _ (HA.out.below B3.out)).mono ?_
  rintro e w4 ⟨gc, rfl, _, hsb, hb⟩
  have B4 := Lib.hid (B3.out.trans (hb.mono B3.out.size))
  have HF4 := Lib.hid (HF3.out.below hb HF3.out.lt)
  have M4 := Lib.hid (matAt_below M3.out hb)
  have HCols : Hid (StrsAt w4 (some ⟨gc, 0, none⟩) (colsL l n)) := StrsAt.blk hsb
  clear hsb hb B3 HF3 M3
  go_wp2_with (at_make; refine wpList_make_full _ rfl (.tmp 23) (.tmp 23) 32 rfl w4.heap.size 9 i0 (.string ⟨#[]⟩) 1 Try.underlying32 hi hz0 hz1 .i64 .i64 _ _ m rfl rfl rfl rfl (by rw [hz2]; omega) (by unfold maxLen; omega) (by simp) ?_; intro w5 hown hgrow)
  have hC0 : Cel w5 w4.heap.size 9 (preV (strV (parL k m l n)) (.string ⟨#[]⟩) 0) := by
    rw [preV_zero (strV (parL k m l n)) (.string ⟨#[]⟩) m (by rw [strV_len, parL_len]) rfl] at hown
    exact owns_blk0 hown
  have C0 := Lib.hid hC0
  have B5 : Hid (Below w4.heap.size w4 w5) := (Below.refl _ _).grown hgrow (Nat.le_refl _) (fun k hk => by cases hk)
  clear hown hgrow hC0
  go_loopw [27] (fun i wr => ∃ j : Nat, j ≤ m ∧ i = .int .i64 (j : Int) ∧ Hid (Cel wr w4.heap.size 9 (preV (strV (parL k m l n)) (.string ⟨#[]⟩) j)) ∧ Hid (Below w4.heap.size w4 wr)) (fun i _ => m - (intOf i).toNat)
  case atStart => exact ⟨0, by omega, rfl, C0.out, B5.out⟩
  case round =>
    obtain ⟨j, hj, rfl, hcel, hbel⟩ := hrel
    clear C0 B5
    by_cases hlt : j < m
    · have HFr := Lib.hid (HF4.out.below hbel.out HF4.out.lt)
      have HCr := Lib.hid (HCols.out.below hbel.out)
      obtain ⟨_, _, m2, _⟩ := matAt_below M4.out hbel.out
      have pj : (j : Int) < (m : Int) := by omega
      have e1 : ((k : Int) + (j : Int)) * (k : Int) = (((k + j) * k : Nat) : Int) := by rw [Int.natCast_mul]; rfl
      have e2 : ((k : Int) + (j : Int) + 1) * (k : Int) = (((k + j + 1) * k : Nat) : Int) := by rw [Int.natCast_mul]; rfl
      have l1 : (k + j + 1) * k ≤ S.size := by rw [HSS.out]; exact Nat.mul_le_mul_right _ (by omega)
      have l2 : S.size ≤ 255 * 255 := by rw [HSS.out]; exact Nat.mul_le_mul h2 (by omega)
      have l3 : (k + j) * k ≤ (k + j + 1) * k := Nat.mul_le_mul_right _ (by omega)
      have q1 : (0 : Int) ≤ ((k : Int) + (j : Int)) * (k : Int) := by rw [e1]; omega
      have q2 : ((k : Int) + (j : Int)) * (k : Int) ≤ 65025 := by rw [e1]; omega
      have q3 : (0 : Int) ≤ ((k : Int) + (j : Int) + 1) * (k : Int) := by rw [e2]; omega
      have q4 : ((k : Int) + (j : Int) + 1) * (k : Int) ≤ 65025 := by rw [e2]; omega
      have hsl : ∀ W, (Instr.slice 9 (.string S) (some (.int .i64 (((k : Int) + (j : Int)) * (k : Int)))) (some (.int .i64 (((k : Int) + (j : Int) + 1) * (k : Int)))) none).run Try.prog W = .ok (.string (genRow k m j)) W := fun W => by
        rw [run_slice_string_if W 9 S .i64 .i64 _ _ Try.underlying9, if_pos (by rw [e2]; omega), if_pos (by rw [e1, e2]; omega), e1, e2, Int.toNat_natCast, Int.toNat_natCast]
        unfold genRow rowS
        rw [← HS.out]
      obtain ⟨v, hv⟩ := preV_at (strV (parL k m l n)) (.string ⟨#[]⟩) j j (by rw [strV_len, parL_len]; exact hj) (by rw [strV_len, parL_len]; exact hlt)
      have HMix := Lib.hid (mix_any B (genRow k m j) (some ⟨gc, 0, none⟩) n (colsL l n) wr HFr.out HCr.out (fun s hs => by
        unfold colsL at hs
        obtain ⟨p, _, rfl⟩ := List.mem_map.1 hs
        rw [genRow_size k m j hlt]
        show _ = (colL l p).toArray.size
        rw [List.size_toArray, colL_len]; exact HLk.out.symm) (by rw [colsL_len]; omega) (by rw [genRow_size k m j hlt]; unfold maxLen; omega))
      rw [colsL_len, HMP.out j hlt] at HMix
      have HPV := Lib.hid hv
      clear e1 e2 l1 l2 l3 hv
      go_wp2_with fail
      refine (HMix.out).mono ?_
      rintro e w6 ⟨rfl, hb⟩
      have hcel6 := hcel.out.below hb
      have hold := hcel6.cell HPV.out
      have hfree := hcel6.free (i := j)
      have hset := hcel6.set (i := j) (v := .string (parS k l n j))
      rw [preV_set (strV (parL k m l n)) (.string ⟨#[]⟩) _ j (by rw [strV_len, parL_len]; exact hlt) (parL_at k m l n j hlt)] at hset
      have HSET := Lib.hid hset
      have B6 : Hid (Below w4.heap.size w4 w6) := hbel.out.trans (hb.mono hbel.out.size)
      clear hset hcel hbel hb HPV hcel6 m2 hsl
      go_wp2_with fail
      go_roundw
      case rel => exact ⟨j + 1, by omega, by go_num, HSET.out, B6.out.setCell (Nat.le_refl _) _⟩
      case measure => simp [intOf]; omega
    · obtain rfl : j = m := by omega
      have HG : Hid (StrBlk wr w4.heap.size (parL k j l n)) := by
        have h := hcel.out
        have e : preV (strV (parL k j l n)) (.string ⟨#[]⟩) j = strV (parL k j l n) := by
          have h2 := preV_end (strV (parL k j l n)) (.string ⟨#[]⟩)
          rw [strV_len, parL_len] at h2
          exact h2
        rw [e] at h
        exact h
      have B6 : Hid (Below w.heap.size w wr) := B4.out.trans (hbel.out.mono B4.out.size)
      have hge := B4.out.size
      clear hcel hbel
      go_wp2_with fail
      go_ret
      exact ⟨_, rfl, hge, HG.out, B6.out⟩

end Go.Proofs.Ytemcjnbgcecinaa

/- What the landed package stripe does: Parity and Encode; no condition but the range. -/
namespace Go.Proofs.Ytemcjnbgcecinaa
open Go.RowKit

/-- what Parity answers -/
def ParityAns (H : Nat) (k m : Int) (l : List ByteArray) (e : Ending) (w' : World) : Prop :=
  if codeB k m = true then
    if (l.length : Int) = k ∧ St.Even l then
      if 2052 < (l.headD ⟨#[]⟩).size then e = .returned (.tuple #[.slice none 0 0, .int .i64 2])
      else ∃ g, e = .returned (.tuple #[.slice (some ⟨g, 0, none⟩) m.toNat m.toNat, .int .i64 0]) ∧ H ≤ g ∧ StrBlk w' g (parL k.toNat m.toNat l (l.headD ⟨#[]⟩).size)
    else e = .returned (.tuple #[.slice none 0 0, .int .i64 4])
  else e = .returned (.tuple #[.slice none 0 0, .int .i64 1])

/-- all shards of an object -/
def allS (k m : Nat) (s : ByteArray) : List ByteArray := St.shards k s ++ parL k m (St.shards k s) (St.szN k s.size)

theorem allS_len (k m : Nat) (s : ByteArray) : (allS k m s).length = k + m := by
  unfold allS
  rw [List.length_append, St.shards_len, parL_len]

/-- what Encode answers -/
def EncodeAns (H : Nat) (k m : Int) (s : ByteArray) (e : Ending) (w' : World) : Prop :=
  if codeB k m = true then
    if s.size ≤ 2048 then ∃ v, e = .returned (.tuple #[v, .int .i64 0]) ∧ w'.ownsRow H 9 1 v (k.toNat + m.toNat) (strV (allS k.toNat m.toNat s))
    else e = .returned (.tuple #[.slice none 0 0, .int .i64 2])
  else e = .returned (.tuple #[.slice none 0 0, .int .i64 1])

theorem StrBlk.own {w : World} {g H : Nat} {l : List ByteArray} (h : StrBlk w g l) (hg : H ≤ g) (hl : l.length ≤ 1000000) : w.ownsRow H 9 1 (.slice (some ⟨g, 0, none⟩) l.length l.length) l.length (strV l) :=
  ⟨by rw [strV_len, Nat.mul_one], .inr ⟨g, l.length, (strV l).toArray, rfl, hg, h, Nat.le_refl _, by unfold maxLen; omega, by rw [List.size_toArray, strV_len, Nat.mul_one], by rw [Nat.mul_one, List.toList_toArray, List.take_of_length_le (by rw [strV_len]; exact Nat.le_refl _)]⟩⟩

theorem StrBlk.below {w w' : World} {g : Nat} {l : List ByteArray} (h : StrBlk w g l) (hb : Below w.heap.size w w') : StrBlk w' g l := (hb.block g (Array.getElem?_eq_some_iff.1 h).1).trans h

theorem StrBlk.news {w : World} {g : Nat} {l : List ByteArray} (h : StrBlk w g l) : ∀ j u, (strV l)[j]? = some u → w.cell? ((⟨g, 0, none⟩ : Addr).add j) = some u := fun j u hu => by
  rw [addr_head]; exact blk_cell h (by rw [List.getElem?_toArray]; exact hu)

theorem strV_one (l : List ByteArray) : ∀ u ∈ strV l, u.oneCell' = true := fun u hu => by
  obtain ⟨s, _, rfl⟩ := List.mem_map.1 hu
  rfl

set_option maxRecDepth 20000 in
set_option maxHeartbeats 2000000 in
theorem encode_any (k m : Int) (s : ByteArray) (w : World) (hreach : s.size ≤ 9223372036854775807) :
    Calls Try.prog 25 #[.int .i64 k, .int .i64 m, .string s] w fun e w' => EncodeAns w.heap.size k m s e w' ∧ Below w.heap.size w w' := by
  cases hc : codeB k m
  · have E : Hid (∀ w' e, e = Ending.returned (.tuple #[.slice none 0 0, .int .i64 1]) → EncodeAns w.heap.size k m s e w') := fun w' e he => by unfold EncodeAns; rw [if_neg (by simp [hc])]; exact he
    have HC := Lib.hid hc
    clear hc
    go_enter Try.func25, Try.ntmps25
    go_wp2_with fail
    refine (isCode_any _ _ _).mono ?_
    rintro e w' ⟨rfl, rfl⟩
    rw [HC.out]
    go_wp2_with fail
    go_ret2
    exact ⟨E.out _ _ rfl, Below.refl _ _⟩
  · obtain ⟨a, b, rfl, rfl, h1, h2⟩ := codeB_nat hc
    have HC := Lib.hid hc
    have HSp := Lib.hid (fun w => split_any (a : Int) s w hreach)
    have ha : codeB (a : Int) 0 = true := codeB_yes (m := 0) h1 (by omega)
    by_cases hs : s.size ≤ 2048
    · have ES : Hid (∀ H e w', SplitAns H (a : Int) s e w' → ∃ g, e = .returned (.tuple #[.slice (some ⟨g, 0, none⟩) a a, .int .i64 0]) ∧ H ≤ g ∧ StrBlk w' g (St.shards a s)) := fun H e w' h => by
        unfold SplitAns at h; rw [if_pos ha, if_pos hs, Int.toNat_natCast] at h; exact h
      have E : Hid (∀ w' e v, e = Ending.returned (.tuple #[v, .int .i64 0]) → w'.ownsRow w.heap.size 9 1 v (a + b) (strV (allS a b s)) → EncodeAns w.heap.size (a : Int) (b : Int) s e w') := fun w' e v he h => by
        unfold EncodeAns; rw [if_pos hc, if_pos hs, Int.toNat_natCast, Int.toNat_natCast]; exact ⟨v, he, h⟩
      have hpar : Hid (∀ A c w, StrsAt w A (St.shards a s) → Calls Try.prog 42 #[.int .i64 (a : Int), .int .i64 (b : Int), .slice A a c] w fun e w' =>
          ∃ g, e = .returned (.slice (some ⟨g, 0, none⟩) b b) ∧ w.heap.size ≤ g ∧ StrBlk w' g (parL a b (St.shards a s) (St.szN a s.size)) ∧ Below w.heap.size w w') := fun A c w h => by
        have h3 := parity_any a b (St.szN a s.size) A c (St.shards a s) w h h1 h2 (St.shards_len a s) (fun x hx => St.shards_size h1 s x hx) (by have := St.sz_bound1 (n := s.size) h1 hs; omega)
        rw [St.shards_len] at h3
        exact h3
      obtain ⟨i0, hi, hz0, hz1, hz2⟩ := info_parts Try.infoStr
      clear hc hs ha
      go_enter Try.func25, Try.ntmps25
      go_wp2_with fail
      refine (isCode_any _ _ _).mono ?_
      rintro e w' ⟨rfl, rfl⟩
      rw [HC.out]
      go_wp2_with fail
      refine (HSp.out _).mono ?_
      rintro e w2 ⟨hans, hb⟩
      obtain ⟨g, rfl, hg, hsb⟩ := ES.out _ _ _ hans
      have B2 := Lib.hid hb
      have S2 := Lib.hid hsb
      clear hans hb hsb
      have HG := Lib.hid hg
      clear hg
      go_wp2_with fail
      refine (hpar.out _ _ _ (StrsAt.blk S2.out)).mono ?_
      rintro e w3 ⟨gp, rfl, hgp, hpb, hb⟩
      have B3 := Lib.hid (B2.out.trans (hb.mono B2.out.size))
      have S3 := Lib.hid (S2.out.below hb)
      have P3 := Lib.hid hpb
      have hown := S3.out.own HG.out (by rw [St.shards_len]; omega)
      rw [St.shards_len] at hown
      have HO := Lib.hid hown
      clear hb hpb B2 S2 hgp hown
      go_wp2_with (at_builtin; refine wpList_append_own _ rfl _ _ 32 rfl w'.heap.size 9 i0 (.string ⟨#[]⟩) 1 16 Try.underlying32 hi hz0 hz1 hz2 rfl (by decide) _ _ _ rfl HO.out ⟨gp, 0, none⟩ b b (strV (parL a b (St.shards a s) (St.szN a s.size))) rfl (by rw [strV_len, parL_len, Nat.mul_one]) P3.out.news (strV_one _) ?c3 ?c4 ?c5 ?_)
      case c3 => unfold maxLen; omega
      case c4 => omega
      case c5 => exact B3.out.size
      intro v' w5 hown' hgrow _
      have HB : Hid (Below w'.heap.size w' w5) := B3.out.grown hgrow B3.out.size (fun k hk => (World.ownsRow.lt HO.out k hk).1)
      have HO5 : Hid (w5.ownsRow w'.heap.size 9 1 v' (a + b) (strV (allS a b s))) := by
        show World.ownsRow _ _ _ _ _ _ _
        unfold allS strV
        rw [List.map_append]
        exact hown'
      clear hown' hgrow
      go_wp2_with fail
      go_ret2
      exact ⟨E.out _ _ _ rfl HO5.out, HB.out⟩
    · have ES : Hid (∀ H e w', SplitAns H (a : Int) s e w' → e = .returned (.tuple #[.slice none 0 0, .int .i64 2])) := fun H e w' h => by
        unfold SplitAns at h; rw [if_pos ha, if_neg hs] at h; exact h
      have E : Hid (∀ w' e, e = Ending.returned (.tuple #[.slice none 0 0, .int .i64 2]) → EncodeAns w.heap.size (a : Int) (b : Int) s e w') := fun w' e he => by
        unfold EncodeAns; rw [if_pos hc, if_neg hs]; exact he
      clear hc hs ha
      go_enter Try.func25, Try.ntmps25
      go_wp2_with fail
      refine (isCode_any _ _ _).mono ?_
      rintro e w' ⟨rfl, rfl⟩
      rw [HC.out]
      go_wp2_with fail
      refine (HSp.out _).mono ?_
      rintro e w2 ⟨hans, hb⟩
      have he := ES.out _ _ _ hans
      subst he
      have B2 := Lib.hid hb
      clear hans hb
      go_wp2_with fail
      go_ret2
      exact ⟨E.out _ _ rfl, B2.out⟩

end Go.Proofs.Ytemcjnbgcecinaa

/- What all laws of layer 3 use: texts compared, and the chapter's example of the landed code; no condition but the range. -/
namespace Go.Proofs.Ytemcjnbgcecinaa
open Go.RowKit

theorem text_ne {s t : ByteArray} (h : s ≠ t) : (s.toList == t.toList) = false := by
  rw [beq_eq_false_iff_ne]
  intro e
  rw [ByteArray.toList_eq, ByteArray.toList_eq] at e
  apply h
  obtain ⟨a⟩ := s
  obtain ⟨b⟩ := t
  congr 1
  exact Array.toList_inj.1 e

theorem text_eq (s : ByteArray) : (s.toList == s.toList) = true := by simp

set_option maxRecDepth 20000 in
set_option maxHeartbeats 2000000 in
theorem same_any (A B : Option Addr) (c d : Nat) (a b : List ByteArray) (w : World) (ha : StrsAt w A a) (hb : StrsAt w B b) (hn : a.length ≤ 9223372036854775807) :
    Calls Try.prog 19 #[.slice A a.length c, .slice B b.length d] w fun e w' => e = .returned (.bool (decide (a = b))) ∧ ∃ n, w' = w.drewN n := by
  by_cases hl : a.length = b.length
  · have q1 : ((a.length : Int) != (b.length : Int)) = false := by simp [hl]
    have HA := Lib.hid ha
    have HB := Lib.hid hb
    have HL := Lib.hid hl
    clear ha hb hl
    go_enter Try.func19, Try.ntmps19
    go_wp2_with fail
    go_loopw [5] (fun i wr => ∃ j n : Nat, j ≤ a.length ∧ i = .int .i64 (j : Int) ∧ Hid (∀ x (h : x < a.length) (h2 : x < b.length), x < j → a[x] = b[x]) ∧ wr = w.drewN n) (fun i _ => a.length - (intOf i).toNat)
    case atStart => exact ⟨0, 0, by omega, rfl, fun x _ _ h => absurd h (by omega), rfl⟩
    case round =>
      obtain ⟨j, n, hj, rfl, heq, rfl⟩ := hrel
      by_cases hlt : j < a.length
      · have hltb : j < b.length := by rw [← HL.out]; exact hlt
        obtain ⟨ad, rfl, _, hca⟩ := HA.out (by omega)
        obtain ⟨bd, rfl, _, hcb⟩ := HB.out (by omega)
        have c1 := hca j hlt
        have c2 := hcb j hltb
        have p1 : (j : Int) < (a.length : Int) := by omega
        have p2 : (j : Int) < (b.length : Int) := by omega
        clear hca hcb
        generalize hW : w.drewN n = W
        have HW := Lib.hid hW
        have c1' : W.cell? (ad.add j) = some (.string a[j]) := by rw [← hW]; exact c1
        have c2' : W.cell? (bd.add j) = some (.string b[j]) := by rw [← hW]; exact c2
        clear hW c1 c2
        by_cases hx : a[j] = b[j]
        · have q2 : (a[j].toList == b[j].toList) = true := by rw [hx]; simp
          have HX := Lib.hid hx
          clear hx
          go_wp2_with fail
          go_quiet (fail)
          go_wp2
          go_roundw
          case rel => exact ⟨j + 1, _, by omega, by go_num, (fun x h h2 hxj => by
            by_cases e : x = j
            · subst e; exact HX.out
            · exact heq.out x h h2 (by omega)), by rw [← HW.out, World.drewN_drewN]⟩
          case measure => simp [intOf]; omega
        · have q2 : (a[j].toList == b[j].toList) = false := text_ne hx
          have E := Lib.hid (show decide (a = b) = false by rw [decide_eq_false_iff_not]; intro e; exact hx (by simp only [e]))
          clear hx
          go_wp2_with fail
          go_quiet (fail)
          go_wp2
          go_ret
          exact ⟨by rw [E.out]; rfl, _, by rw [← HW.out, World.drewN_drewN]⟩
      · have E := Lib.hid (show decide (a = b) = true by
          rw [decide_eq_true_eq]
          exact List.ext_getElem HL.out fun x h h2 => heq.out x h h2 (by omega))
        go_wp2_with fail
        go_ret
        exact ⟨by rw [E.out]; rfl, _, rfl⟩
  · have q1 : ((a.length : Int) != (b.length : Int)) = true := by simp; omega
    have E := Lib.hid (show decide (a = b) = false by rw [decide_eq_false_iff_not]; intro e; exact hl (by rw [e]))
    clear hl ha hb
    go_enter Try.func19, Try.ntmps19
    go_wp2_with fail
    go_ret
    exact ⟨by rw [E.out]; rfl, 0, rfl⟩

theorem abc_shards : St.shards 2 ⟨#[97, 98, 99]⟩ = [⟨#[0, 0, 0, 3]⟩, ⟨#[97, 98, 99, 0]⟩] := by decide +kernel

theorem abc_all : (allS 2 1 ⟨#[97, 98, 99]⟩).map (·.size) = [4, 4, 4] := by decide +kernel

theorem abc_join : joinV [⟨#[0, 0, 0, 3]⟩, ⟨#[97, 98, 99, 0]⟩] = .tuple #[.string ⟨#[97, 98, 99]⟩, .int .i64 0] := by
  have : St.joinAns [⟨#[0, 0, 0, 3]⟩, ⟨#[97, 98, 99, 0]⟩] = (⟨#[97, 98, 99]⟩, 0) := by decide +kernel
  unfold joinV
  rw [this]; rfl

end Go.Proofs.Ytemcjnbgcecinaa
