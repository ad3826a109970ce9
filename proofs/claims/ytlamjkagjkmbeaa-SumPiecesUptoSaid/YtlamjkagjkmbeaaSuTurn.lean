/- Laws over what is asked of the landed package: Turned. -/
import Derived.Test.YtlamjkagjkmbeaaSuLaw2
namespace Go.Proofs.Ytlamjkagjkmbeaa
namespace Su
open Go.RowKit Bk

attribute [local go_sem ↓] Go.wp_at_zero Go.wp_at_succ
attribute [local go_sem] floatUpon pick

theorem bytesRow_cells (a : ByteArray) (cap : Nat) : ∃ rest : List Value, bytesRow a cap = (Lib.byteCells a.data.toList ++ rest).toArray := bytesRow_list a cap

/-- what is turned so far -/
structure Turn (L F : List UInt8) (first i : Nat) : Prop where
  len : F.length = L.length
  two : F.take 2 = L.take 2
  num : ∃ q, q < 2 ^ i ∧ num L ^^^ num F = q * 2 ^ first

theorem Turn.start (L : List UInt8) (first : Nat) : Turn L L first 0 := ⟨rfl, rfl, 0, by omega, by rw [Nat.xor_self, Nat.zero_mul]⟩

theorem Turn.skip {L F : List UInt8} {first i : Nat} (h : Turn L F first i) : Turn L F first (i + 1) := by
  obtain ⟨q, h1, h2⟩ := h.num
  exact ⟨h.len, h.two, q, by rw [Nat.pow_succ]; omega, h2⟩

theorem Turn.flip {L F : List UInt8} {first i j : Nat} (h : Turn L F first i) (hf : 16 ≤ first) (hj : j = (first + i) / 8) (hjl : j < F.length) (v : UInt8) (hv : v.toNat = 2 ^ ((first + i) % 8)) : Turn L (F.set j (F[j] ^^^ v)) first (i + 1) := by
  obtain ⟨q, h1, h2⟩ := h.num
  refine ⟨by rw [List.length_set]; exact h.len, ?_, q ^^^ 2 ^ i, ?_, ?_⟩
  · rw [List.take_set, List.set_eq_of_length_le (by rw [List.length_take]; omega)]
    exact h.two
  · rw [Nat.pow_succ]
    have := Nat.xor_lt_two_pow (n := i + 1) (x := q) (y := 2 ^ i) (by rw [Nat.pow_succ]; omega) (Nat.pow_lt_pow_right (by omega) (by omega))
    rwa [Nat.pow_succ] at this
  · have e : v.toNat * 256 ^ j = 2 ^ i * 2 ^ first := by
      rw [hv, pow256, ← Nat.pow_add, ← Nat.pow_add]
      congr 1
      omega
    have h3 := Nat.shiftLeft_xor_distrib (a := q) (b := 2 ^ i) (i := first)
    simp only [Nat.shiftLeft_eq] at h3
    rw [num_set_xor, ← Nat.xor_assoc, h2, e, h3]

theorem flip_cells (F : List UInt8) (rest : List Value) (j : Nat) (u : UInt8) (h : j < F.length) : (Lib.byteCells F ++ rest).set j (.int .u8 (u.toNat : Int)) = Lib.byteCells (F.set j u) ++ rest := by
  rw [List.set_append_left _ _ (by rw [Lib.byteCells_length]; exact h)]
  congr 1
  unfold Lib.byteCells
  rw [List.map_set]

theorem cell_at (F : List UInt8) (rest : List Value) (j : Nat) (h : j < F.length) : (Lib.byteCells F ++ rest)[j]? = some (.int .u8 (F[j].toNat : Int)) := by
  rw [List.getElem?_append_left (by rw [Lib.byteCells_length]; exact h)]
  unfold Lib.byteCells
  rw [List.getElem?_map, List.getElem?_eq_getElem h]; rfl

theorem celm_string {w : World} {g : Nat} {F : List UInt8} {rest : List Value} (h : CelM w g 5 (Lib.byteCells F ++ rest)) (n cap : Nat) (hn : n = F.length) :
    (convert 41 9 (.slice (some ⟨g, 0, none⟩) n cap)).run Try.prog w = .ok (.string ⟨F.toArray⟩) w := by
  subst hn
  exact run_convert_bytes_back (P := Try.prog) w 41 9 5 ⟨g, 0, none⟩ cap F Try.underlying41 Try.underlying5 Try.underlying9 (fun j hj => by
    rw [addr_head]
    exact h.cell (cell_at F rest j hj))

theorem next_turned {t : ByteArray} {F : List UInt8} {first : Nat} (ht : t.size ≤ 4096) (h : Turn (frameL t.data.toList) F first 32) (hne : F ≠ frameL t.data.toList) : nextV ⟨F.toArray⟩ 0 = .tuple #[.string ⟨#[]⟩, .int .i64 0, .int .i64 51] := by
  obtain ⟨q, h1, h2⟩ := h.num
  have e := nextV_at (s := ⟨F.toArray⟩) (a := 0) (Nat.zero_le _)
  rw [show (⟨F.toArray⟩ : ByteArray).data.toList.drop 0 = F from rfl, restR_turned (t := t.data.toList) (by rw [list_size]; exact ht) (by rw [h.len, frameL_len]) h.two (by simpa using h1) h2 hne] at e
  exact e

theorem u8_xor_nat' (a b : Nat) (ha : a < 256) (hb : b < 256) : bits .xor .u8 (a : Int) (b : Int) = ((a ^^^ b : Nat) : Int) := by
  have h : a ^^^ b < 2 ^ 8 := Nat.xor_lt_two_pow (n := 8) ha hb
  have e : ∀ c : Nat, c < 256 → (BitVec.ofInt 8 (c : Int)).toNat = c := fun c hc => by rw [BitVec.ofInt_natCast, BitVec.toNat_ofNat]; exact Nat.mod_eq_of_lt hc
  show IntKind.u8.wrap ((BitVec.ofInt 8 (a : Int) ^^^ BitVec.ofInt 8 (b : Int)).toNat : Int) = _
  rw [BitVec.toNat_xor, e a ha, e b hb]
  show ((a ^^^ b : Nat) : Int) % 256 = _
  omega

set_option maxRecDepth 20000 in
set_option maxHeartbeats 4000000 in
theorem turned_walk (HO : OfAll) (HF : FrameAll) (HN : NextAll) (t : ByteArray) (hreach : t.size ≤ reachBytes) (x by_ : Int) (w : World) :
    Calls Try.prog 8 #[.string t, .int .i64 x, .int .i64 by_] w fun e w' => e = .returned (.bool true) ∧ Below w.heap.size w w' := by
  have ht : t.size ≤ 140737488351232 := by unfold reachBytes at hreach; omega
  have hF := fun W => HF t W ht
  have HW := Lib.hid (suworks HO)
  by_cases hlong : 4096 < t.size
  · rw [frame_long hlong] at hF
    have F1 := Lib.hid hF
    have pl : (4096 : Int) < (t.size : Int) := by omega
    clear hF HF HN HO hreach ht hlong
    go_enter Try.func8, Try.ntmps8
    go_wp2_with fail
    refine (HW.out _).mono ?_
    rintro e w1 ⟨rfl, hb⟩
    have B1 := Lib.hid hb
    clear hb
    go_wp2_with fail
    refine (F1.out _).mono ?_
    rintro e w2 ⟨rfl, hb⟩
    have B2 := Lib.hid (B1.out.trans (hb.mono B1.out.size))
    clear hb B1 F1
    go_wp2_with fail
    go_ret
    exact ⟨rfl, B2.out⟩
  · have hfit : t.size ≤ 4096 := by omega
    rw [frame_fits hfit] at hF
    have F1 := Lib.hid hF
    have hz := frameB_size t
    have hA := fun W => among_any x (8 * (t.size + 4)) W (by omega) (by omega)
    have hlt := amongV_lt x (8 * (t.size + 4)) (by omega)
    generalize amongV x (8 * (t.size + 4)) = n at hA hlt
    have HA := Lib.hid hA
    have HT := Lib.hid (fun F first => next_turned (t := t) (F := F) (first := first) hfit)
    have HNn := Lib.hid (fun (F : List UInt8) W (h : F.length ≤ 5000) => HN ⟨F.toArray⟩ 0 W (by rw [cat_size]; omega) (by decide))
    have hL : (frameB t).data.toList = frameL t.data.toList := rfl
    have hLl : (frameL t.data.toList).length = t.size + 6 := by rw [frameL_len, list_size]
    have hm8 : (8 : Int) * ((t.size : Int) + 6 - 2) = ((8 * (t.size + 4) : Nat) : Int) := by omega
    clear hA hF HF HN HO hreach ht hlong
    go_enter Try.func8, Try.ntmps8
    go_wp2_with fail
    refine (HW.out _).mono ?_
    rintro e w1 ⟨rfl, hb⟩
    have B1 := Lib.hid hb
    clear hb
    go_wp2_with fail
    refine (F1.out _).mono ?_
    rintro e w2 ⟨rfl, hb⟩
    have B2 := Lib.hid (B1.out.trans (hb.mono B1.out.size))
    clear hb B1 F1
    go_upto_if 32 with fail
    go_cut [9] (fun s9 wx => (∃ P : Int, s9 = .int .u32 P ∧ 0 ≤ P ∧ P < 4294967296) ∧ wx = w2)
    case first =>
      by_cases hp : by_ % 4294967296 = 0
      · have hp2 : (by_ % 4294967296 == 0) = true := by simp [hp]
        go_wp2_with fail
        go_meet
        exact ⟨⟨1, rfl, by omega, by omega⟩, rfl⟩
      · have hp2 : (by_ % 4294967296 == 0) = false := by simp [hp]
        go_wp2_with fail
        go_meet
        exact ⟨⟨by_ % 4294967296, rfl, by omega, by omega⟩, rfl⟩
    case rest =>
      obtain ⟨⟨P, rfl, hP0, hP1⟩, rfl⟩ := hcut
      have hcv := run_bytes_of_string (P := Try.prog) wc 9 41 5 (frameB t) Try.underlying9 Try.underlying41 Try.underlying5
      have hge := grownCap_ge wc (frameB t).size 0 5
      have hle := grownCap_le_maxLen wc (frameB t).size 0 5 (by rw [hz]; unfold maxLen; omega)
      obtain ⟨rest, hr⟩ := bytesRow_list (frameB t) (grownCap wc (frameB t).size 0 5)
      rw [hr, hL] at hcv
      obtain ⟨L, hLL⟩ : ∃ L, L = frameL t.data.toList := ⟨_, rfl⟩
      rw [← hLL] at hcv
      have hC := Lib.hid (show CelM (wc.drew.alloc (.cells (Lib.byteCells L ++ rest).toArray 5 ((Lib.byteCells L ++ rest).toArray.size, (Lib.byteCells L ++ rest).toArray.size + 1))) wc.heap.size 5 (Lib.byteCells L ++ rest) from ⟨_, _, by simp, heap_alloc_new wc.drew _⟩)
      have hB : Hid (Below w.heap.size w (wc.drew.alloc (.cells (Lib.byteCells L ++ rest).toArray 5 ((Lib.byteCells L ++ rest).toArray.size, (Lib.byteCells L ++ rest).toArray.size + 1)))) := B2.out.drew.alloc B2.out.size _
      have hgH : w.heap.size ≤ wc.heap.size := B2.out.size
      generalize (wc.drew.alloc (.cells (Lib.byteCells L ++ rest).toArray 5 ((Lib.byteCells L ++ rest).toArray.size, (Lib.byteCells L ++ rest).toArray.size + 1))) = W2 at hcv hC hB
      generalize grownCap wc (frameB t).size 0 5 = cap at hcv hge hle
      have HG := Lib.hid hgH
      generalize wc.heap.size = g at hcv hC HG
      have HLE := Lib.hid hle
      rw [← hLL] at HT hLl
      have HLL := Lib.hid hLL
      clear hr hle hgH hLL hL B2
      have HFB : Hid (frameB t = ⟨L.toArray⟩) := by show _ = _; rw [HLL.out]; rfl
      generalize frameB t = FB at *
      generalize hN : t.size + 6 = N at *
      have hN0 : N ≤ 4102 := by omega
      have hm : 8 * (t.size + 4) = 8 * (N - 2) := by omega
      have hm2 : (8 : Int) * ((N : Int) - 2) = ((8 * (t.size + 4) : Nat) : Int) := by omega
      generalize 8 * (t.size + 4) = M at *
      obtain ⟨N2, hN2⟩ : ∃ N2 : Nat, N = N2 + 2 := ⟨N - 2, by omega⟩
      have hsub : (N : Int) - 2 = (N2 : Int) := by omega
      have hmul : (8 : Int) * (N2 : Int) = (M : Int) := by omega
      have hnM : n + 16 < 8 * N := by omega
      clear hm hm2 hm8 hlt hN
      subst hN2
      go_wp2_with fail
      refine (HA.out _).mono ?_
      rintro e w3 ⟨rfl, he3⟩
      obtain rfl := he3
      clear HA hcv
      obtain ⟨F0, hF0⟩ : ∃ F0 : Nat, F0 = 16 + n := ⟨_, rfl⟩
      have hfst : (16 : Int) + (n : Int) = (F0 : Int) := by omega
      have hF0M : F0 < 8 * (N2 + 2) := by omega
      have hF16 : 16 ≤ F0 := by omega
      have HF0 := Lib.hid hF0
      clear hF0
      go_wp2_with fail
      clear hfst hnM hsub hmul
      go_loopw [42] (fun iv wr => ∃ (i : Nat) (F : List UInt8), i ≤ 32 ∧ iv = .int .i64 (i : Int) ∧ Hid (Turn L F F0 i) ∧ Hid (CelM wr g 5 (Lib.byteCells F ++ rest)) ∧ Hid (Below w.heap.size w wr)) (fun iv _ => 32 - (intOf iv).toNat)
      case atStart => exact ⟨0, L, by omega, rfl, Turn.start L F0, hC.out, hB.out⟩
      case round =>
        obtain ⟨i, F, hi32, rfl, hT, hcel, hbel⟩ := hrel
        clear hC hB
        by_cases hilt : i < 32
        · have pi : (i : Int) < 32 := by omega
          obtain ⟨B, hB⟩ : ∃ B : Nat, B = F0 + i := ⟨_, rfl⟩
          have hbit : (F0 : Int) + (i : Int) = (B : Int) := by omega
          have HBB := Lib.hid hB
          clear hB
          by_cases hbt : bits BinOp.and IntKind.u32 (P / 2 ^ i) 1 = 1
          · by_cases hin : B < 8 * (N2 + 2)
            · have pin : (B : Int) < 8 * ((N2 : Int) + 2) := by omega
              obtain ⟨j, hj⟩ : ∃ j, j = B / 8 := ⟨_, rfl⟩
              obtain ⟨r, hr⟩ : ∃ r, r = B % 8 := ⟨_, rfl⟩
              have hr8 : r < 8 := by omega
              have hjF : j < F.length := by rw [hT.out.len, hLl]; omega
              have hq1 : (B : Int).tdiv 8 = (j : Int) := by rw [Int.tdiv_eq_ediv_of_nonneg (by omega)]; omega
              have hq2 : (B : Int).tmod 8 = (r : Int) := by rw [Int.tmod_eq_emod_of_nonneg (by omega)]; omega
              have hjN : (j : Int) < (N2 : Int) + 2 := by omega
              obtain ⟨v, hv⟩ : ∃ v : UInt8, v.toNat = 2 ^ r := ⟨UInt8.ofNat (2 ^ r), by
                rw [UInt8.toNat_ofNat_of_lt']
                exact Nat.lt_of_lt_of_le (Nat.pow_lt_pow_right (by omega) hr8) (by decide)⟩
              have hflip := hT.out.flip hF16 (j := j) (by rw [hj, HBB.out]) hjF v (by rw [hv, hr, HBB.out])
              have hcl := hcel.out.cell (cell_at F rest j hjF)
              have hfc := flip_cells F rest j (F[j] ^^^ v) hjF
              have hx8 := u8_xor_nat' F[j].toNat v.toNat F[j].toNat_lt v.toNat_lt
              rw [show F[j].toNat ^^^ v.toNat = (F[j] ^^^ v).toNat from rfl] at hx8
              generalize hF2 : F.set j (F[j] ^^^ v) = F2 at hflip hfc
              generalize F[j] ^^^ v = y at hx8 hfc
              generalize F[j].toNat = av at hx8 hcl
              have HFl := Lib.hid hflip
              have HFc := Lib.hid hfc
              have HLt := Lib.hid hcel.out.lt
              have HJF := Lib.hid hjF
              have HCl := Lib.hid hcl
              have hwj : IntKind.i64.wrap (j : Int) = (j : Int) := Bk.i64_wrap (by omega) (by omega)
              have hwv : IntKind.u8.wrap ((2 : Int) ^ r) = (v.toNat : Int) := by
                have h1 := v.toNat_lt
                rw [hv] at h1
                rw [hv, show ((2 : Int) ^ r) = ((2 ^ r : Nat) : Int) by simp]
                show ((2 ^ r : Nat) : Int) % 256 = _
                omega
              have hjr : j < (Lib.byteCells F ++ rest).length := by rw [List.length_append, Lib.byteCells_length]; omega
              have HJr := Lib.hid hjr
              clear hF2 hflip hfc hj hr hjF hcl hv hjr
              go_upto_region 16 with fail
              refine wp_region_said 9 [60, 61, 62, 63, 64, 65, 66, 67, 68]
                [.is (.slice (some ⟨g, 0, none⟩) (N2 + 2) cap), .is (.int .i64 (B : Int)), .is (.int .i64 (j : Int)), .is (.pointer (some ⟨g, j, none⟩)), .is (.int .u8 (av : Int)), .is (.int .i64 (B : Int)), .is (.int .i64 (r : Int)), .is (.int .u8 (v.toNat : Int)), .is (.int .u8 (y.toNat : Int))]
                (fun W => CelM W g 5 (Lib.byteCells F ++ rest) ∧ W.cell? ⟨g, j, none⟩ = some (.int .u8 (av : Int)) ∧ g < W.heap.size) (by kernel_rfl) (by kernel_rfl) (by kernel_rfl) (by kernel_rfl) (by kernel_rfl)
                (fun W W' h hb => ⟨h.1.below hb, (hb.cell (p := ⟨g, j, none⟩) h.2.2).trans h.2.1, Nat.lt_of_lt_of_le h.2.2 hb.size⟩) ⟨hcel.out, HCl.out, HLt.out⟩ ?steps ?last
              case steps =>
                simp only [List.take_succ_cons, List.take_zero]
                refine ⟨?_, ?_, ?_, ?_, ?_, ?_, ?_, ?_, ?_, trivial⟩
                all_goals
                  intro vs W ρ hρ hc hf hg hI hH hd R' hR
                  obtain ⟨_, hcp, _⟩ := hI
                  have HR := Lib.hid hR
                  simp [depsOf, Region.binds, sayAt, Say.holds] at hd
                  clear hR
                  go_simp
                  first
                    | exact HR.out _ _ (by simp [sayAt, Say.holds]) (Below.refl _ _) (by simp [sayAt, Say.isBlk])
                    | trace_state
              case last =>
                intro vs W hI hb hg hd
                have g0 := hg 0 (by omega)
                have g2 := hg 2 (by omega)
                have g8 := hg 8 (by omega)
                simp only [sayAt, Say.holds, List.getD_cons_succ, List.getD_cons_zero] at g0 g2 g8
                simp only [List.take_succ_cons, List.take_zero, List.drop_succ_cons, List.drop_zero, putAll, Act.put, List.setIfInBounds_toArray, List.set_cons_succ, List.set_cons_zero, Nat.zero_add, Nat.reduceAdd]
                rw [g0, g2, g8]
                obtain ⟨hc1, hc2, _⟩ := hI
                have hfree := hc1.free (i := j) HJr.out
                have hset := hc1.set (i := j) (v := .int .u8 (y.toNat : Int))
                rw [HFc.out] at hset
                have HS := Lib.hid hset
                have B4 := Lib.hid (hbel.out.trans (hb.mono hbel.out.size))
                clear g0 g2 g8 hg hd hb hc1 hset hcel hbel
                go_wp2_with fail
                go_roundw
                case rel => exact ⟨i + 1, F2, by omega, by go_num, HFl.out, HS.out, B4.out.setCell HG.out _⟩
                case measure => simp [intOf]; omega
            · have pin : 8 * ((N2 : Int) + 2) ≤ (B : Int) := by omega
              go_wp2_with fail
              go_roundw
              case rel => exact ⟨i + 1, F, by omega, by go_num, hT.out.skip, hcel.out, hbel.out⟩
              case measure => simp [intOf]; omega
          · go_wp2_with fail
            go_roundw
            case rel => exact ⟨i + 1, F, by omega, by go_num, hT.out.skip, hcel.out, hbel.out⟩
            case measure => simp [intOf]; omega
        · obtain rfl : i = 32 := by omega
          have hFl : F.length = N2 + 2 := by rw [hT.out.len, hLl]
          have hcv := celm_string hcel.out (N2 + 2) cap hFl.symm
          by_cases hsame : F = L
          · have e : FB = ⟨F.toArray⟩ := by rw [HFB.out, hsame]
            rw [← e] at hcv
            have hq := text_eq FB
            clear e hsame hFl hLl
            go_wp2_with fail
            go_ret
            exact ⟨rfl, hbel.out⟩
          · have hq : ((⟨F.toArray⟩ : ByteArray).toList == FB.toList) = false := text_ne (by
              rw [HFB.out]
              intro h
              have := congrArg (fun z : ByteArray => z.data.toList) h
              exact hsame (by simpa using this))
            have hnx := HNn.out F wr (by omega)
            rw [HT.out F F0 hT.out hsame] at hnx
            have HX := Lib.hid hnx
            clear hnx hsame hFl hLl
            generalize (⟨F.toArray⟩ : ByteArray) = S at hcv hq HX
            go_wp2_with fail
            refine HX.out.mono ?_
            rintro e w4 ⟨rfl, hb⟩
            have B5 := Lib.hid (hbel.out.trans (hb.mono hbel.out.size))
            clear hb hcel hbel hcv HX
            go_wp2_with fail
            go_ret
            exact ⟨rfl, B5.out⟩

end Su
end Go.Proofs.Ytlamjkagjkmbeaa
