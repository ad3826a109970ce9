/- Parts of the proof, joined: MpChgW; their conditions stand with each. -/
import Derived.Test.YtemcjnbgcecinaaA21

/- The walk of the law that shards of two objects, mixed, go together all the same; no condition but the form's reach. -/
namespace Go.Proofs.Ytemcjnbgcecinaa
open Go.RowKit

attribute [local go_sem ↓] Go.wp_at_zero Go.wp_at_succ
attribute [local go_sem] floatUpon pick

/-- of the first k numbers each shard that is made is the one that was given -/
theorem first_ans {k m : Nat} {L : List (Int × ByteArray)} (hck : CkOk k m L) (hv : ckV (k : Int) (m : Int) L = (0, 0)) {i : Nat} (hi : i < k) (hn : nI L i = i) : oneAns (k : Int) (m : Int) L (i : Int) = .tuple #[.string (sS L i), .int .i64 0] := by
  obtain ⟨R, hR1, hR2⟩ := hck.inv
  have h := shard_there hck hR1 hR2 hi
  rw [hn] at h
  unfold oneAns
  rw [hv, if_pos rfl, if_pos (by omega), Int.toNat_natCast, Int.toNat_natCast, Int.toNat_natCast, h]

theorem range_getD {k i : Nat} (h : i < k) : (List.range k).getD i 0 = i := by
  rw [List.getD_eq_getElem?_getD, List.getElem?_range h]; rfl

theorem pickL_range (all : List ByteArray) (i : Nat) : pickL all (List.range i) ++ [((i : Int), all.getD i ⟨#[]⟩)] = pickL all (List.range (i + 1)) := by
  rw [List.range_succ]; exact pickL_snoc all (List.range i) i

set_option maxRecDepth 20000 in
set_option maxHeartbeats 4000000 in
theorem changes_whole (c1 c2 : Int) (s : ByteArray) (hs : s.size ≤ reachBytes) (at_ : Int) (w : World) :
    Calls Try.prog 8 #[.agg #[.int .i64 c1, .int .i64 c2], .string s, .int .i64 at_] w fun e w' => e = .returned (.bool true) ∧ Below w.heap.size w w' := by
  obtain ⟨i1, hi', hz0', hz1', hz2'⟩ := info_parts Try.infoShard
  have hka := amongV_lt c1 4 (by omega)
  have hma := amongV_lt c2 4 (by omega)
  have HA1 := Lib.hid (fun w => among_any c1 4 w (by omega) (by omega))
  have HA2 := Lib.hid (fun w => among_any c2 4 w (by omega) (by omega))
  generalize amongV c1 4 = ka at *
  generalize amongV c2 4 = m at *
  obtain ⟨k, hk⟩ : ∃ k, k = 2 + ka := ⟨_, rfl⟩
  have k1 : 1 ≤ k := by omega
  have k2 : k ≤ 5 := by omega
  have HK : (2 : Int) + ((ka : Nat) : Int) = (k : Int) := by omega
  have hwk : IntKind.i64.wrap (k : Int) = (k : Int) := i64_wrap (by omega) (by omega)
  have hrs : (s.size : Int) ≤ 9223372036854775807 := by unfold reachBytes at hs; omega
  clear hk hs
  go_enter Try.func8, Try.ntmps8
  go_wp2_with fail
  obtain ⟨s0, bZ⟩ := blk1 w (.cells #[.int .i64 c1, .int .i64 c2] 31)
  have BW : Hid (Below w.heap.size w (w.alloc (.cells #[.int .i64 c1, .int .i64 c2] 31))) := (Below.refl _ w).alloc (Nat.le_refl _) _
  have P0 : Hid (PairAt (w.alloc (.cells #[.int .i64 c1, .int .i64 c2] 31)) w.heap.size c1 c2) := ⟨blk_cell (j := 0) bZ rfl, blk_cell (j := 1) bZ rfl, by omega⟩
  generalize w.alloc (.cells #[.int .i64 c1, .int .i64 c2] 31) = w0 at s0 bZ BW P0 ⊢
  refine (mdworks_true _).mono ?_
  rintro e w1 ⟨rfl, hb⟩
  have P1 := Lib.hid (P0.out.below hb)
  have B1 : Hid (Below w.heap.size w w1) := BW.out.trans (hb.mono BW.out.size)
  clear BW hb bZ s0 P0
  generalize hB : w.heap.size = B at P1 ⊢
  have HB := Lib.hid hB
  clear hB
  go_upto_region 3 with fail
  refine wp_region_said 9 [23, 24, 25, 26, 27, 28, 29, 7, 8]
    [.is (.pointer (some ⟨B, 0, none⟩)), .is (.int .i64 c1), .is (.int .i64 (ka : Int)), .is (.int .i64 (k : Int)), .is (.pointer (some ⟨B, 1, none⟩)), .is (.int .i64 c2), .is (.int .i64 (m : Int)), .is (.int .i64 (k : Int)), .is (.int .i64 (m : Int))]
    (fun W => PairAt W B c1 c2) (by kernel_rfl) (by kernel_rfl) (by kernel_rfl) (by kernel_rfl) (by kernel_rfl) (fun W W' h hb => h.below hb) P1.out ?steps ?last
  case steps =>
    simp only [List.take_succ_cons, List.take_zero]
    refine ⟨?_, ?_, ?_, ?_, ?_, ?_, ?_, ?_, ?_, trivial⟩
    all_goals
      intro vs W ρ hρ hc hf hg hI hH hd R' hR
      obtain ⟨d1, d2, _⟩ := hI
      have HR := Lib.hid hR
      simp [depsOf, Region.binds, sayAt, Say.holds] at hd
      clear hR
      go_simp
    · exact HR.out _ _ (by simp [sayAt, Say.holds]) (Below.refl _ _) (by simp [sayAt, Say.isBlk])
    · exact HR.out _ _ (by simp [sayAt, Say.holds]) (Below.refl _ _) (by simp [sayAt, Say.isBlk])
    · (refine (HA1.out _).mono ?_; rintro e w' ⟨rfl, rfl⟩; exact ⟨_, rfl, HR.out _ _ (by simp [sayAt, Say.holds]) (Below.refl _ _) (by simp [sayAt, Say.isBlk])⟩)
    · exact HR.out _ _ (by simp [sayAt, Say.holds]) (Below.refl _ _) (by simp [sayAt, Say.isBlk])
    · exact HR.out _ _ (by simp [sayAt, Say.holds]) (Below.refl _ _) (by simp [sayAt, Say.isBlk])
    · exact HR.out _ _ (by simp [sayAt, Say.holds]) (Below.refl _ _) (by simp [sayAt, Say.isBlk])
    · (refine (HA2.out _).mono ?_; rintro e w' ⟨rfl, rfl⟩; exact ⟨_, rfl, HR.out _ _ (by simp [sayAt, Say.holds]) (Below.refl _ _) (by simp [sayAt, Say.isBlk])⟩)
    · exact HR.out _ _ (by simp [sayAt, Say.holds]) (Below.refl _ _) (by simp [sayAt, Say.isBlk])
    · exact HR.out _ _ (by simp [sayAt, Say.holds]) (Below.refl _ _) (by simp [sayAt, Say.isBlk])
  case last =>
    intro vs W hI hb hg hd
    have g7 := hg 7 (by omega)
    have g8 := hg 8 (by omega)
    simp only [sayAt, Say.holds, List.getD_cons_succ, List.getD_cons_zero] at g7 g8
    simp only [List.take_succ_cons, List.take_zero, List.drop_succ_cons, List.drop_zero, putAll, Act.put, List.setIfInBounds_toArray, List.set_cons_succ, List.set_cons_zero, Nat.zero_add, Nat.reduceAdd]
    rw [g7, g8]
    have B2 := Lib.hid (B1.out.trans (hb.mono B1.out.size))
    clear g7 g8 hg hd hb hI P1 B1 HA1 HA2 hka HK hwk
    by_cases hemp : s = ⟨#[]⟩
    · subst hemp
      go_wp2_with fail
      go_ret
      exact ⟨rfl, B2.out⟩
    · have qn : ¬ s.toList = [] := fun e => hemp (by
        rw [ByteArray.toList_eq] at e
        apply ByteArray.ext
        exact Array.toList_eq_nil_iff.1 e)
      have qe : s.toList.isEmpty = false := by cases h : s.toList with | nil => exact absurd h qn | cons => rfl
      have hpos : 1 ≤ s.size := by
        refine Nat.pos_of_ne_zero fun z => hemp ?_
        apply ByteArray.ext
        exact Array.eq_empty_of_size_eq_zero z
      clear hemp
      by_cases hbig : 200 < s.size
      · have hbig' : (200 : Int) < (s.size : Int) := by omega
        go_wp2_with fail
        go_ret
        exact ⟨rfl, B2.out⟩
      · have hbig' : (s.size : Int) ≤ 200 := by omega
        have h200 : s.size ≤ 200 := by omega
        clear hbig
        have hkm : k + m ≤ 255 := by omega
        have hbs := run_bytes_of_string (P := Try.prog) W 9 48 5 s Try.underlying9 Try.underlying48 Try.underlying5
        have hge := grownCap_ge W s.size 0 5
        obtain ⟨rest, hr⟩ := bytesRow_list s (grownCap W s.size 0 5)
        rw [hr] at hbs
        have hC := Lib.hid (show CelM (W.drew.alloc (.cells (Lib.byteCells s.data.toList ++ rest).toArray 5 ((Lib.byteCells s.data.toList ++ rest).toArray.size, (Lib.byteCells s.data.toList ++ rest).toArray.size + 1))) W.heap.size 5 (Lib.byteCells s.data.toList ++ rest) from ⟨_, _, by simp, heap_alloc_new W.drew _⟩)
        have hBB : Hid (Below W.heap.size W (W.drew.alloc (.cells (Lib.byteCells s.data.toList ++ rest).toArray 5 ((Lib.byteCells s.data.toList ++ rest).toArray.size, (Lib.byteCells s.data.toList ++ rest).toArray.size + 1)))) := (Below.refl _ W).drew.alloc (Nat.le_refl _) _
        generalize (W.drew.alloc (.cells (Lib.byteCells s.data.toList ++ rest).toArray 5 ((Lib.byteCells s.data.toList ++ rest).toArray.size, (Lib.byteCells s.data.toList ++ rest).toArray.size + 1))) = w8 at hbs hC hBB
        generalize grownCap W s.size 0 5 = bcap at hbs hge
        have B8 := Lib.hid (B2.out.trans (hBB.out.mono B2.out.size))
        have hlow : w.heap.size ≤ W.heap.size := B2.out.size
        clear hr B2
        generalize W.heap.size = bb at hbs hC hBB hlow ⊢
        go_wp2_with fail
        clear hbs
        have hap := among_any at_ s.size w8 hpos (by omega)
        have hpl := amongV_lt at_ s.size hpos
        obtain ⟨p, hpa⟩ : ∃ p, p = amongV at_ s.size := ⟨_, rfl⟩
        rw [← hpa] at hap hpl
        have HAp := Lib.hid hap
        clear hap hpa
        refine HAp.out.mono ?_
        rintro e w9 ⟨rfl, rfl⟩
        have hold := hC.out.cell (bytes_at s p rest hpl)
        have hfree := hC.out.free (i := p) (by rw [List.length_append, Lib.byteCells_length, Array.length_toList]; exact Nat.lt_of_lt_of_le hpl (Nat.le_add_right _ _))
        have hx8 : bits .xor .u8 ((byteAt s p).toNat : Int) 1 = ((byteAt s p ^^^ 1).toNat : Int) := by
          have h := u8_xor_nat (byteAt s p).toNat 1 (by have := GfU.toNat_le (byteAt s p); omega) (by omega)
          rw [show ((byteAt s p).toNat ^^^ 1) = (byteAt s p ^^^ 1).toNat by rw [UInt8.toNat_xor]; rfl] at h
          exact h
        have hset := hC.out.set (i := p) (v := .int .u8 ((byteAt s p ^^^ 1).toNat : Int))
        rw [bytes_set s p rest hpl] at hset
        generalize (byteAt s p ^^^ 1).toNat = vb at hx8 hset
        have HSET := Lib.hid hset
        have ppx : (p : Int) < (s.size : Int) := by omega
        have BA := Lib.hid (B8.out.setCell (p := ⟨bb, p, none⟩) hlow (.int .u8 (vb : Int)))
        clear hset
        go_upto_region 8 with fail
        clear hold hfree hx8 B8 hC hBB HAp
        generalize (w9.setCell ⟨bb, p, none⟩ (.int .u8 (vb : Int))) = wA at BA HSET ⊢
        have HEn := Lib.hid (fun W => encode_any (k : Int) (m : Int) s W (by omega))
        have HEy := Lib.hid (enc_yes (k := k) (m := m) (s := s) k1 hkm (by omega))
        have HEn2 := Lib.hid (fun W => encode_any (k : Int) (m : Int) (turnS s p) W (by rw [turnS_size]; omega))
        have HEy2 := Lib.hid (enc_yes (k := k) (m := m) (s := turnS s p) k1 hkm (by rw [turnS_size]; omega))
        have HLen := Lib.hid (allS_len k m s)
        have HLen2 := Lib.hid (allS_len k m (turnS s p))
        go_wp2_with fail
        refine (HEn.out _).mono ?_
        rintro e w3 ⟨hans, hb⟩
        obtain ⟨g, cap, rfl, hown⟩ := HEy.out _ _ _ hans
        have hst : StrsAt w3 (some ⟨g, 0, none⟩) (allS k m s) := StrsAt.own hown HLen.out.symm
        have ST := Lib.hid hst
        have B3 := Lib.hid (BA.out.trans (hb.mono BA.out.size))
        have hbk := turn_back (cap := bcap) (HSET.out.below hb)
        clear hans hb hown hst HEn HEy BA
        go_wp2_with fail
        refine (HEn2.out _).mono ?_
        rintro e w4 ⟨hans, hb⟩
        obtain ⟨g2, cap2, rfl, hown⟩ := HEy2.out _ _ _ hans
        have hst2 : StrsAt w4 (some ⟨g2, 0, none⟩) (allS k m (turnS s p)) := StrsAt.own hown HLen2.out.symm
        have ST2 := Lib.hid hst2
        have ST4 := Lib.hid (ST.out.below hb)
        have B4 := Lib.hid (B3.out.trans (hb.mono B3.out.size))
        clear hans hb hown hst2 HEn2 HEy2 B3 ST hbk
        go_wp2_with fail
        generalize hX : allS k m s = X at ST4 HLen
        have HX := Lib.hid hX
        generalize hY : allS k m (turnS s p) = Y at ST2 HLen2
        have HY := Lib.hid hY
        clear hX hY
        go_loopw [14, 86] (fun u c wr => ∃ i : Nat, i ≤ k ∧ c = .int .i64 (i : Int) ∧ Hid (wr.ownsRow w4.heap.size 50 2 u i (shV (pickL X (List.range i)))) ∧ Hid (Below w4.heap.size w4 wr)) (fun _ c _ => k - (intOf c).toNat)
        case atStart => exact ⟨0, by omega, rfl, World.ownsRow_nil _ _ _ _, Below.refl _ _⟩
        case round =>
          obtain ⟨i, hik, rfl, hown, hbel⟩ := hrel
          by_cases hlt : i < k
          · have pi : (i : Int) < (k : Int) := by omega
            have pim : (i : Int) < (k : Int) + (m : Int) := by omega
            have pim2 : i < k + m := by omega
            have hcx := strs_getD (ST4.out.below hbel.out) (i := i) (by rw [HLen.out]; omega)
            rw [addr_head] at hcx
            have hsn := pickL_range X i
            generalize X.getD i ⟨#[]⟩ = xs at hcx hsn
            have HSn := Lib.hid hsn
            clear hsn
            go_wp2_with (at_builtin; refine wpList_append_own _ rfl _ _ 22 rfl w4.heap.size 50 i1 (.agg #[.int .i64 0, .string ⟨#[]⟩]) 2 24 Try.underlying22 hi' hz0' hz1' hz2' rfl (by decide) _ _ _ rfl (hown.out.alloc _) ⟨wr.heap.size, 0, none⟩ 1 1 [.int .i64 (i : Int), .string xs] rfl rfl ?c1 ?c2 ?c3 ?c4 ?c5 ?_)
            case c1 =>
              intro jj u hu
              rw [addr_head]
              exact blk_cell (heap_alloc_new _ _) (by rw [← hu]; match jj with | 0 => rfl | 1 => rfl | _ + 2 => rfl)
            case c2 => intro u hu; simp at hu; rcases hu with rfl | rfl <;> rfl
            case c3 => unfold maxLen; omega
            case c4 => omega
            case c5 => have := hbel.out.size; simp; omega
            intro v' w5 hown' hgrow _
            have HB5 := Lib.hid (below_append' hown.out hbel.out (Nat.le_refl _) hgrow)
            rw [shV_snoc, HSn.out] at hown'
            have HO5 := Lib.hid hown'
            clear hown' hgrow hcx
            go_wp2_with fail
            go_roundw
            case rel => exact ⟨i + 1, by omega, by go_num, HO5.out, HB5.out⟩
            case measure => simp [intOf]; omega
          · obtain rfl : i = k := by omega
            obtain ⟨lg, lcap, rfl, _, _⟩ := World.ownsRow.form hown.out (by omega)
            obtain ⟨hsh, hlc, hlg⟩ := own_shards (by rw [pickL_len, List.length_range]) hown.out
            have SH := Lib.hid hsh
            have HO := Lib.hid hown.out
            have hlw : w.heap.size ≤ lg := Nat.le_trans B4.out.size (hown.out.lt lg rfl).1
            have B5 := Lib.hid (B4.out.trans (hbel.out.mono B4.out.size))
            have ST5 := Lib.hid (ST2.out.below hbel.out)
            clear hsh hown hbel B4 ST2 ST4
            go_wp2_with fail
            have han := among_any at_ i wr k1 (by omega)
            have hnk := amongV_lt at_ i k1
            obtain ⟨nn, hna⟩ : ∃ nn, nn = amongV at_ i := ⟨_, rfl⟩
            rw [← hna] at han hnk
            have HAn := Lib.hid han
            clear han hna
            refine HAn.out.mono ?_
            rintro e w6 ⟨rfl, rfl⟩
            have pnk : (nn : Int) < (i : Int) := by omega
            have pnm : (nn : Int) < (i : Int) + (m : Int) := by omega
            have pnm2 : nn < i + m := by omega
            have hcy := strs_getD ST5.out (i := nn) (by rw [HLen2.out]; omega)
            rw [addr_head] at hcy
            have hysz : (Y.getD nn ⟨#[]⟩).size = St.szN i s.size := by
              rw [← HY.out, allS_size k1 (by omega), turnS_size]
            generalize Y.getD nn ⟨#[]⟩ = y at hcy hysz
            have hN : (List.range i).length = i := List.length_range
            have hrl : ∀ x ∈ List.range i, x < i + m := fun x hx => by have := List.mem_range.1 hx; omega
            obtain ⟨⟨hck, hv⟩, hz⟩ := set_ck (m := m) (s := s) (N := List.range i) k1 hkm (by omega) (by rw [hN]; exact Nat.le_refl _) hrl List.nodup_range nn (by rw [hN]; exact hnk) y hysz
            rw [HX.out] at hck hv hz
            have hni : ∀ t, t < i → nI (setS (pickL X (List.range i)) nn y) t = t := fun t ht => by rw [setS_N, pickL_N (by rw [hN]; exact ht), range_getD ht]
            have hone := fun t (ht : t < i) A c W h hc => mone_any (i : Int) (m : Int) (t : Int) A c (setS (pickL X (List.range i)) nn y) W h hc (by rw [setS_len, pickL_len, hN]; omega) (fun t' ht' => by
              rw [setS_len, pickL_len] at ht'
              rw [hz t' ht']
              have := St.sz_bound1 (n := s.size) k1 (show s.size ≤ 2048 by omega)
              omega)
            have HOne : Hid (∀ t, t < i → ∀ W, ShardsAt W (some ⟨lg, 0, none⟩) (setS (pickL X (List.range i)) nn y) → Calls Try.prog 20 #[.int .i64 (i : Int), .int .i64 (m : Int), .slice (some ⟨lg, 0, none⟩) i lcap, .int .i64 (t : Int)] W fun e w' => e = .returned (.tuple #[.string (sS (setS (pickL X (List.range i)) nn y) t), .int .i64 0]) ∧ Below W.heap.size W w') := fun t ht W h => by
              have h1 := hone t ht (some ⟨lg, 0, none⟩) lcap W h (by rw [setS_len, pickL_len, hN]; exact hlc)
              rw [setS_len, pickL_len, hN, first_ans hck hv ht (hni t ht)] at h1
              exact h1
            have HNi := Lib.hid hni
            clear hone hck hv hz hysz hni HAn
            have hcl : w6.cell? ⟨lg, nn * 2 + 1, none⟩ = some (.string (sS (pickL X (List.range i)) nn)) := by
              obtain ⟨ad, had, _, hcl⟩ := SH.out (by rw [pickL_len, hN]; omega)
              obtain rfl := Option.some.inj had
              have h := (hcl nn (by rw [pickL_len, hN]; exact hnk)).2
              rw [addr_head] at h
              exact h
            have hfr := World.ownsRow.frozenAt HO.out (nn * 2 + 1)
            have S7 := Lib.hid (shards_set (x := y) SH.out (i := nn) (by rw [pickL_len, hN]; exact hnk))
            have B7 := Lib.hid (B5.out.setCell (p := ⟨lg, nn * 2 + 1, none⟩) hlw (.string y))
            go_upto_region 20 with fail
            clear hcl hfr hcy SH HO B5 ST5
            generalize (w6.setCell ⟨lg, nn * 2 + 1, none⟩ (.string y)) = w7 at S7 B7 ⊢
            have hLl : (setS (pickL X (List.range i)) nn y).length = i := by rw [setS_len, pickL_len, hN]
            generalize setS (pickL X (List.range i)) nn y = L at S7 HOne HNi hLl
            go_wp2_with fail
            go_loopw [112] (fun c wr => ∃ t : Nat, t ≤ i ∧ c = .int .i64 (t : Int) ∧ Hid (Below w7.heap.size w7 wr)) (fun c _ => i - (intOf c).toNat)
            case atStart => exact ⟨0, by omega, rfl, Below.refl _ _⟩
            case round =>
              obtain ⟨t, hti, rfl, hbel⟩ := hrel
              by_cases hlt : t < i
              · have pt : (t : Int) < (i : Int) := by omega
                obtain ⟨ad, had, _, hcl⟩ := (S7.out.below hbel.out) (by omega)
                obtain rfl := Option.some.inj had
                obtain ⟨x1, x2⟩ := hcl t (by omega)
                rw [addr_head] at x1 x2
                clear hcl had
                go_upto_region 23 with fail
                clear x1 x2
                obtain ⟨s1, b1⟩ := blk1 wr (.cells #[.int .i64 (sI L t), .string (sS L t)] 50)
                have hb0 : Below wr.heap.size wr (wr.alloc (.cells #[.int .i64 (sI L t), .string (sS L t)] 50)) := (Below.refl _ wr).alloc (Nat.le_refl _) _
                have B9 := Lib.hid (hbel.out.trans (hb0.mono hbel.out.size))
                have S9 := Lib.hid ((S7.out.below hbel.out).below hb0)
                generalize wr.alloc (.cells #[.int .i64 (sI L t), .string (sS L t)] 50) = w9' at s1 b1 B9 S9 ⊢
                have hgl : wr.heap.size < w9'.heap.size := by omega
                have Z1 := Lib.hid b1
                generalize wr.heap.size = q at s1 b1 hgl Z1 ⊢
                clear hb0 b1 hbel
                go_wp2_with fail
                refine (HOne.out t hlt _ S9.out).mono ?_
                rintro e w10 ⟨rfl, hb⟩
                have B10 := Lib.hid (B9.out.trans (hb.mono B9.out.size))
                have z1 := blk_cell (j := 1) ((hb.block q hgl).trans Z1.out) rfl
                have qx := text_eq (sS L t)
                generalize sS L t = xt at z1 qx ⊢
                clear hb
                go_wp2_with fail
                go_roundw
                case rel => exact ⟨t + 1, by omega, by go_num, B10.out⟩
                case measure => simp [intOf]; omega
              · obtain rfl : t = i := by omega
                go_wp2_with fail
                go_ret
                exact ⟨rfl, B7.out.trans (hbel.out.mono B7.out.size)⟩

end Go.Proofs.Ytemcjnbgcecinaa
