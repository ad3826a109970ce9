/- The document's own parity: what a matrix makes of shards; no condition but the range. -/
import Derived.Test.YtmnciipfepeccaaStRef3
namespace Go.Proofs.Ytmnciipfepeccaa
open Go.RowKit

attribute [local go_sem ↓] Go.wp_at_zero Go.wp_at_succ
attribute [local go_sem] floatUpon pick

/-- byte p of row i, over the first j columns -/
def accB (G : Nat → Nat → UInt8) (l : List ByteArray) (j i p : Nat) : UInt8 := GfU.sum j fun x => GfU.ml (G i x) (byteAt (l.getD x ⟨#[]⟩) p)

def undS (k : Nat) (G : Nat → Nat → UInt8) (l : List ByteArray) (n i : Nat) : ByteArray := ⟨((List.range n).map (accB G l k i)).toArray⟩

def undL (k R : Nat) (G : Nat → Nat → UInt8) (l : List ByteArray) (n : Nat) : List ByteArray := (List.range R).map (undS k G l n)

theorem undL_len (k R : Nat) (G : Nat → Nat → UInt8) (l : List ByteArray) (n : Nat) : (undL k R G l n).length = R := by simp [undL]

theorem undL_drop (k m : Nat) (l : List ByteArray) (n : Nat) : (undL k (k + m) (GfU.gen k) l n).drop k = parL k m l n := by
  apply List.ext_getElem?
  intro i
  unfold undL parL
  rw [List.getElem?_drop, List.getElem?_map, List.getElem?_map]
  by_cases h : i < m
  · rw [List.getElem?_range (by omega), List.getElem?_range h]; rfl
  · rw [List.getElem?_eq_none (by simp; omega), List.getElem?_eq_none (by simp; omega)]; rfl

/-- the bytes when p of them have column j, too -/
def rowJ (G : Nat → Nat → UInt8) (l : List ByteArray) (n i j p : Nat) : List UInt8 := (List.range n).map fun q => if q < p then accB G l (j + 1) i q else accB G l j i q

theorem rowJ_len (G : Nat → Nat → UInt8) (l : List ByteArray) (n i j p : Nat) : (rowJ G l n i j p).length = n := by simp [rowJ]

theorem rowJ_at (G : Nat → Nat → UInt8) (l : List ByteArray) (n i j p : Nat) (h : p < n) : (Lib.byteCells (rowJ G l n i j p))[p]? = some (.int .u8 ((accB G l j i p).toNat : Int)) := by
  unfold Lib.byteCells rowJ
  rw [List.getElem?_map, List.getElem?_map, List.getElem?_range h]
  simp

theorem rowJ_set (G : Nat → Nat → UInt8) (l : List ByteArray) (n i j p : Nat) (h : p < n) (v : Int) (hv : v = ((accB G l (j + 1) i p).toNat : Int)) :
    (Lib.byteCells (rowJ G l n i j p)).set p (.int .u8 v) = Lib.byteCells (rowJ G l n i j (p + 1)) := by
  subst hv
  apply List.ext_getElem?
  intro q
  rw [List.getElem?_set]
  by_cases hq : p = q
  · subst hq
    rw [if_pos rfl, if_pos (by rw [Lib.byteCells_length, rowJ_len]; exact h)]
    unfold Lib.byteCells rowJ
    rw [List.getElem?_map, List.getElem?_map, List.getElem?_range h]
    simp
  · rw [if_neg hq]
    unfold Lib.byteCells rowJ
    rw [List.getElem?_map, List.getElem?_map, List.getElem?_map, List.getElem?_map]
    by_cases hqn : q < n
    · rw [List.getElem?_range hqn]
      simp only [Option.map_some]
      by_cases h2 : q < p
      · rw [if_pos h2, if_pos (by omega)]
      · rw [if_neg h2, if_neg (by omega)]
    · rw [List.getElem?_eq_none (by simp; omega)]; rfl

theorem rowJ_end (G : Nat → Nat → UInt8) (l : List ByteArray) (n i j : Nat) : rowJ G l n i j n = rowJ G l n i (j + 1) 0 := by
  unfold rowJ
  apply List.map_congr_left
  intro q hq
  rw [if_pos (List.mem_range.1 hq), if_neg (by omega)]

theorem rowJ_zero (G : Nat → Nat → UInt8) (l : List ByteArray) (n i : Nat) : List.replicate n (0 : UInt8) = rowJ G l n i 0 0 := by
  apply List.ext_getElem?
  intro q
  unfold rowJ
  rw [List.getElem?_map]
  by_cases hq : q < n
  · rw [List.getElem?_replicate, if_pos hq, List.getElem?_range hq]; rfl
  · rw [List.getElem?_eq_none (by simp; omega), List.getElem?_eq_none (by simp; omega)]; rfl

theorem rowJ_last (k : Nat) (G : Nat → Nat → UInt8) (l : List ByteArray) (n i : Nat) : (⟨(rowJ G l n i k 0).toArray⟩ : ByteArray) = undS k G l n i := by
  unfold rowJ undS
  congr 2

theorem und_take (k R : Nat) (G : Nat → Nat → UInt8) (l : List ByteArray) (n i : Nat) (h : i < R) : strV ((undL k R G l n).take i) ++ [.string (undS k G l n i)] = strV ((undL k R G l n).take (i + 1)) := by
  have e : (undL k R G l n)[i]? = some (undS k G l n i) := by unfold undL; rw [List.getElem?_map, List.getElem?_range h]; rfl
  unfold strV
  rw [List.take_add_one, e, List.map_append]; rfl

theorem st_lower {w : World} {H H' n : Nat} {v : Value} {e : TypeId} {xs : List Value} (h : w.ownsRow H e 1 v n xs) (hH : H' ≤ H) : w.ownsRow H' e 1 v n xs := by
  refine ⟨h.1, ?_⟩
  rcases h.2 with h' | ⟨g, cap, cur, hv, h1, h2⟩
  · exact .inl h'
  · exact .inr ⟨g, cap, cur, hv, Nat.le_trans hH h1, h2⟩

set_option maxRecDepth 100000 in
set_option maxHeartbeats 4000000 in
theorem under_any (k R n : Nat) (G : Nat → Nat → UInt8) (A : Option Addr) (c : Nat) (l : List ByteArray) (w : World) (h : StrsAt w A l) (h1 : 1 ≤ k) (h2 : R ≤ 255) (h3 : k ≤ 255) (hl : l.length = k) (hs : ∀ s ∈ l, s.size = n) (hn : n ≤ 100000) :
    Calls Try.prog 55 #[.agg #[.int .i64 (R : Int), .int .i64 (k : Int), .string ⟨(tabL R k G).toArray⟩], .slice A l.length c] w fun e w' =>
      ∃ v, e = .returned v ∧ w'.ownsRow w.heap.size 9 1 v R (strV (undL k R G l n)) ∧ Below w.heap.size w w' := by
  obtain ⟨i0, hi, hz0, hz1, hz2⟩ := info_parts Try.infoStr
  obtain ⟨i1, hi', hz0', hz1', hz2'⟩ := info_parts Try.infoU8
  have HSS := Lib.hid (size_tab R k G)
  have HCel := Lib.hid (fun i j hi hj => cel_tab R k G i j hi hj)
  have HTk := Lib.hid (fun i h => und_take k R G l n i h)
  have HLk := Lib.hid hl
  have HSz := Lib.hid hs
  have hUL := undL_len k R G l n
  have HUL := Lib.hid hUL
  generalize (⟨(tabL R k G).toArray⟩ : ByteArray) = S at HSS HCel ⊢
  have lpos : 0 < l.length := by omega
  have p0 : (0 : Int) < (l.length : Int) := by omega
  have hkl : l.length ≤ 255 := by omega
  clear hs hl hUL
  go_enter Try.func55, Try.ntmps55
  go_wp2_with fail
  have M1 := Lib.hid (matAt_new w (R : Int) (k : Int) S 26)
  have A1 := Lib.hid (h.alloc (.cells #[.int .i64 (R : Int), .int .i64 (k : Int), .string S] 26))
  have B1 : Hid (Below w.heap.size w (w.alloc (.cells #[.int .i64 (R : Int), .int .i64 (k : Int), .string S] 26))) := (Below.refl _ w).alloc (Nat.le_refl _) _
  clear h
  generalize hmb : w.heap.size = mb at M1 B1 ⊢
  generalize (w.alloc (.cells #[.int .i64 (R : Int), .int .i64 (k : Int), .string S] 26)) = w1 at M1 A1 B1 ⊢
  have HMb := Lib.hid hmb
  have hmb1 : mb ≤ w1.heap.size := by have := M1.out.2.2.2; omega
  have HB1 := Lib.hid (show Below w.heap.size w w1 by rw [HMb.out]; exact B1.out)
  clear B1
  clear hmb
  go_loopw [5, 6] (fun u x wr => ∃ i : Nat, i ≤ R ∧ x = .int .i64 (i : Int) ∧ Hid (wr.ownsRow w1.heap.size 9 1 u i (strV ((undL k R G l n).take i))) ∧ Hid (Below w1.heap.size w1 wr)) (fun _ x _ => R - (intOf x).toNat)
  case atStart => exact ⟨0, by omega, rfl, World.ownsRow_nil _ _ _ _, Below.refl _ _⟩
  case round =>
    obtain ⟨i, hiR, rfl, hown, hbel⟩ := hrel
    have hmat := Lib.hid (matAt_below M1.out hbel.out)
    have hst := Lib.hid (A1.out.below hbel.out)
    obtain ⟨m0, m1, m2, m3⟩ := hmat.out
    by_cases hlt : i < R
    · have pi : (i : Int) < (R : Int) := by omega
      obtain ⟨ad, rfl, hab, hc⟩ := hst.out lpos
      have c0 : wr.cell? ad = some (.string (l[0]'lpos)) := by have := hc 0 lpos; rwa [add_zero'] at this
      have hk0 : Hid ((l[0]'lpos).size = n) := HSz.out _ (List.getElem_mem _)
      obtain ⟨wo, rfl⟩ : ∃ wo : World, wo = wr := ⟨_, rfl⟩
      clear hc
      go_upto_region 6 with (at_make; refine wpList_make_full _ rfl (.tmp 20) (.tmp 20) 61 rfl wo.heap.size 5 i1 (.int .u8 0) 1 Try.underlying61 hi' hz0' hz1' .i64 .i64 _ _ n rfl rfl (by rw [hk0.out]) (by rw [hk0.out]) (by rw [hz2']; omega) (by unfold maxLen; omega) (by simp) ?_; intro w2 hmk hgrow)
      have hCB : Cel w2 wo.heap.size 5 (Lib.byteCells (rowJ G l n i 0 0)) := by
        rw [Nat.mul_one, show (Value.int .u8 0).cells = #[.int .u8 0] from rfl, toList_madeCells_one] at hmk
        have := owns_blk0 hmk
        rw [← rowJ_zero]
        unfold Cel Lib.byteCells
        rw [List.map_replicate]
        exact this
      have CB := Lib.hid hCB
      have B2 : Hid (Below wo.heap.size wo w2) := (Below.refl _ _).grown hgrow (Nat.le_refl _) (fun k hk => by cases hk)
      clear hmk hgrow hCB m0 m1 m2 m3 c0
      go_wp2_with fail
      go_loopw [8] (fun x wr => ∃ j : Nat, j ≤ k ∧ x = .int .i64 (j : Int) ∧ Hid (Cel wr wo.heap.size 5 (Lib.byteCells (rowJ G l n i j 0))) ∧ Hid (Below wo.heap.size wo wr)) (fun x _ => k - (intOf x).toNat)
      case atStart => exact ⟨0, by omega, rfl, CB.out, B2.out⟩
      case round =>
        obtain ⟨j, hjk, rfl, hcel, hbel2⟩ := hrel
        clear CB B2
        obtain ⟨m0, m1, m2, m3⟩ := matAt_below hmat.out hbel2.out
        by_cases hltj : j < k
        · have pj : (j : Int) < (k : Int) := by omega
          have hjl : j < l.length := by rw [HLk.out]; exact hltj
          obtain ⟨ad2, had, hab2, hc2⟩ := (hst.out.below hbel2.out) lpos
          obtain rfl := Option.some.inj had
          have hcj := hc2 j hjl
          have hszj := HSz.out l[j] (List.getElem_mem hjl)
          have HOK : Hid (MatAt wr mb (R : Int) (k : Int) S ∧ wr.cell? (ad.add j) = some (.string l[j]) ∧ ad.block < wr.heap.size) := ⟨⟨m0, m1, m2, m3⟩, hcj, hab2⟩
          have e1 : (i : Int) * (k : Int) = ((i * k : Nat) : Int) := by rw [Int.natCast_mul]
          have hik : i * k + j < S.size := by
            rw [HSS.out]
            have := Nat.mul_le_mul_right k (show i + 1 ≤ R from hlt)
            rw [Nat.succ_mul] at this
            omega
          have hS2 : S.size ≤ 255 * 255 := by rw [HSS.out]; exact Nat.mul_le_mul h2 h3
          have q1 : (0 : Int) ≤ (i : Int) * (k : Int) := by rw [e1]; omega
          have q2 : (i : Int) * (k : Int) ≤ 65025 := by rw [e1]; omega
          have q3 : (i : Int) * (k : Int) + (j : Int) ≤ 130050 := by omega
          have hix : ∀ W, (Instr.index 9 (.string S) (.int .i64 ((i : Int) * (k : Int) + (j : Int)))).run Try.prog W = .ok (.int .u8 ((G i j).toNat : Int)) W := fun W => by
            rw [run_index_string W 9 S .i64 _ Try.underlying9, dif_pos (by rw [e1]; omega)]
            have e2 : ((i : Int) * (k : Int) + (j : Int)).toNat = i * k + j := by rw [e1]; omega
            have e3 := HCel.out i j hlt hltj
            unfold cel at e3
            have hik' : i * k + j < S.data.size := hik
            rw [Array.getElem?_eq_getElem hik', Option.getD_some] at e3
            congr 3
            simp only [e2]
            exact congrArg UInt8.toNat e3
          have pjl : (j : Int) < (l.length : Int) := by omega
          have wm1 : IntKind.i64.wrap ((i : Int) * (k : Int)) = (i : Int) * (k : Int) := i64_wrap (by omega) (by omega)
          have wm2 : IntKind.i64.wrap ((i : Int) * (k : Int) + (j : Int)) = (i : Int) * (k : Int) + (j : Int) := i64_wrap (by omega) (by omega)
          have HSc := Lib.hid (fun w => rscale_any (G i j).toNat l[j] w (GfU.toNat_le _) (by omega))
          clear e1 hik hS2 hcj hc2
          go_upto_region 9 with fail
          clear m0 m1 m2 m3
          refine wp_region_said 14 [28, 29, 30, 31, 32, 33, 34, 35, 36, 37, 38, 39, 40, 41]
            [.is (.pointer (some ⟨mb, 2, none⟩)), .is (.string S), .is (.int .i64 (i : Int)), .is (.pointer (some ⟨mb, 1, none⟩)), .is (.int .i64 (k : Int)), .is (.int .i64 ((i : Int) * (k : Int))), .is (.int .i64 (j : Int)), .is (.int .i64 ((i : Int) * (k : Int) + (j : Int))), .is (.int .u8 ((G i j).toNat : Int)),
             .is (.slice (some ad) l.length c), .is (.int .i64 (j : Int)), .is (.pointer (some (ad.add j))), .is (.string l[j]), .is (.string ⟨(scl (G i j).toNat l[j]).toArray⟩)]
            (fun W => MatAt W mb (R : Int) (k : Int) S ∧ W.cell? (ad.add j) = some (.string l[j]) ∧ ad.block < W.heap.size) (by kernel_rfl) (by kernel_rfl) (by kernel_rfl) (by kernel_rfl) (by kernel_rfl)
            (fun W W' h hb => ⟨matAt_below h.1 hb, (cell_kept hb (ad.add j) (by rw [st_block]; exact h.2.2)).trans h.2.1, Nat.lt_of_lt_of_le h.2.2 hb.size⟩) HOK.out ?steps ?last
          case steps =>
            simp only [List.take_succ_cons, List.take_zero]
            refine ⟨?_, ?_, ?_, ?_, ?_, ?_, ?_, ?_, ?_, ?_, ?_, ?_, ?_, ?_, trivial⟩
            all_goals
              intro vs W ρ hρ hc hf hg hI hH hd R' hR
              obtain ⟨⟨m0, m1, m2, m3⟩, hcj, hcb⟩ := hI
              have HR := Lib.hid hR
              simp [depsOf, Region.binds, sayAt, Say.holds] at hd
              clear hR
              go_simp
              first
                | exact HR.out _ _ (by simp [sayAt, Say.holds]) (Below.refl _ _) (by simp [sayAt, Say.isBlk])
                | (refine (HSc.out _).mono ?_; rintro e w' ⟨rfl, hb⟩; exact ⟨_, rfl, HR.out _ _ (by simp [sayAt, Say.holds]) hb (by simp [sayAt, Say.isBlk])⟩)
                | trace_state
          case last =>
            intro vs W hI hb hg hd
            have g13 := hg 13 (by omega)
            simp only [sayAt, Say.holds, List.getD_cons_succ, List.getD_cons_zero] at g13
            simp only [List.take_succ_cons, List.take_zero, List.drop_succ_cons, List.drop_zero, putAll, Act.put, List.setIfInBounds_toArray, List.set_cons_succ, List.set_cons_zero, Nat.zero_add, Nat.reduceAdd]
            rw [g13]
            have HC3 := Lib.hid (hcel.out.below hb)
            have B3 := Lib.hid (hbel2.out.trans (hb.mono hbel2.out.size))
            obtain ⟨sc, hsc⟩ : ∃ sc : ByteArray, sc = ⟨(scl (G i j).toNat l[j]).toArray⟩ := ⟨_, rfl⟩
            have hscs : sc.size = n := by
              rw [hsc]
              show (scl (G i j).toNat l[j]).toArray.size = n
              rw [List.size_toArray, scl_length, hszj]
            have hscv : ∀ p (h : p < sc.size), ((accB G l j i p).toNat ^^^ (sc[p]'h).toNat) = (accB G l (j + 1) i p).toNat := fun p h => by
              subst hsc
              have hp : p < l[j].size := by rw [hszj]; rw [hscs] at h; exact h
              have e1 : ((⟨(scl (G i j).toNat l[j]).toArray⟩ : ByteArray)[p]'h) = (scl (G i j).toNat l[j])[p]'(by rw [scl_length]; exact hp) := rfl
              have e2 : (l.getD j ⟨#[]⟩) = l[j] := by rw [List.getD_eq_getElem?_getD, List.getElem?_eq_getElem hjl, Option.getD_some]
              rw [e1, scl_at _ _ _ hp]
              unfold accB
              rw [GfU.sum_succ, UInt8.toNat_xor, GfU.ml_toNat, e2, ← byteAt_get _ _ hp]
            have HScs := Lib.hid hscs
            have HScv := Lib.hid hscv
            rw [← hsc]
            clear g13 hg hd hI hb hsc hscs hscv hix HSc HOK hcel hbel2
            go_wp2_with fail
            go_loopw [10] (fun x wr => ∃ p : Nat, p ≤ n ∧ x = .int .i64 (p : Int) ∧ Hid (Cel wr wo.heap.size 5 (Lib.byteCells (rowJ G l n i j p))) ∧ Hid (Below wo.heap.size wo wr)) (fun x _ => n - (intOf x).toNat)
            case atStart => exact ⟨0, by omega, rfl, HC3.out, B3.out⟩
            case round =>
              obtain ⟨p, hp, rfl, hcel, hbel2⟩ := hrel
              clear HC3 B3
              by_cases hltp : p < n
              · have pp : (p : Int) < (n : Int) := by omega
                have hps : p < sc.size := by rw [HScs.out]; exact hltp
                have pps : (p : Int) < (sc.size : Int) := by omega
                have hxv := HScv.out p hps
                have hx8 := u8_xor_nat (accB G l j i p).toNat (sc[p]'hps).toNat (by have := GfU.toNat_le (accB G l j i p); omega) (by have := GfU.toNat_le (sc[p]'hps); omega)
                rw [hxv] at hx8
                have HX := Lib.hid hx8
                have HK := Lib.hid (hcel.out.cell (rowJ_at G l n i j p hltp))
                have hset := hcel.out.set (i := p) (v := .int .u8 ((accB G l (j + 1) i p).toNat : Int))
                rw [rowJ_set G l n i j p hltp _ rfl] at hset
                have HSET := Lib.hid hset
                have bp : (sc[p]'hps).toNat ≤ 255 := GfU.toNat_le _
                have ba : (accB G l j i p).toNat ≤ 255 := GfU.toNat_le _
                generalize hav : (accB G l j i p).toNat = av at HK HX ba
                generalize hbv : (sc[p]'hps).toNat = bv at HX bp
                have HBv := Lib.hid hbv
                have hixp : ∀ W, (Instr.index 9 (.string sc) (.int .i64 (p : Int))).run Try.prog W = .ok (.int .u8 (bv : Int)) W := fun W => by
                  rw [run_index_string W 9 sc .i64 _ Try.underlying9, dif_pos (by omega)]
                  simp only [Int.toNat_natCast, HBv.out]
                clear hxv hx8 hset hav hbv
                go_upto_region 13 with fail
                refine wp_region_said 11 [48, 49, 50, 51, 52, 53, 54, 55, 56, 57, 58]
                  [.is (.slice (some ⟨wo.heap.size, 0, none⟩) n n), .is (.int .i64 (p : Int)), .is (.slice (some ⟨wo.heap.size, 0, none⟩) n n), .is (.int .i64 (p : Int)), .is (.pointer (some ⟨wo.heap.size, p, none⟩)), .is (.int .u8 (av : Int)), .is (.string sc), .is (.int .i64 (p : Int)), .is (.int .u8 (bv : Int)), .is (.int .u8 ((accB G l (j + 1) i p).toNat : Int)), .is (.pointer (some ⟨wo.heap.size, p, none⟩))]
                  (fun W => Cel W wo.heap.size 5 (Lib.byteCells (rowJ G l n i j p)) ∧ W.cell? ⟨wo.heap.size, p, none⟩ = some (.int .u8 (av : Int)) ∧ wo.heap.size < W.heap.size) (by kernel_rfl) (by kernel_rfl) (by kernel_rfl) (by kernel_rfl) (by kernel_rfl)
                  (fun W W' h hb => ⟨h.1.below hb, (hb.cell (p := ⟨wo.heap.size, p, none⟩) h.2.2).trans h.2.1, Nat.lt_of_lt_of_le h.2.2 hb.size⟩) ⟨hcel.out, HK.out, hcel.out.lt⟩ ?steps ?last
                case steps =>
                  simp only [List.take_succ_cons, List.take_zero]
                  refine ⟨?_, ?_, ?_, ?_, ?_, ?_, ?_, ?_, ?_, ?_, ?_, trivial⟩
                  all_goals
                    intro vs W ρ hρ hc hf hg hI hH hd R' hR
                    obtain ⟨_, hcp, _⟩ := hI
                    have HR := Lib.hid hR
                    have hxx := HX.out
                    simp [depsOf, Region.binds, sayAt, Say.holds] at hd
                    clear hR
                    go_simp
                    first
                      | exact HR.out _ _ (by simp [sayAt, Say.holds]) (Below.refl _ _) (by simp [sayAt, Say.isBlk])
                      | trace_state
                case last =>
                  intro vs W hI hb hg hd
                  have g9 := hg 9 (by omega)
                  have g10 := hg 10 (by omega)
                  simp only [sayAt, Say.holds, List.getD_cons_succ, List.getD_cons_zero] at g9 g10
                  simp only [List.take_succ_cons, List.take_zero, List.drop_succ_cons, List.drop_zero, putAll, Act.put, List.setIfInBounds_toArray, List.set_cons_succ, List.set_cons_zero, Nat.zero_add, Nat.reduceAdd]
                  rw [g9, g10]
                  obtain ⟨hc1, hc2, _⟩ := hI
                  have hfree := hc1.free (i := p)
                  have hset := hc1.set (i := p) (v := .int .u8 ((accB G l (j + 1) i p).toNat : Int))
                  rw [rowJ_set G l n i j p hltp _ rfl] at hset
                  have HSET2 := Lib.hid hset
                  have B4 := Lib.hid (hbel2.out.trans (hb.mono hbel2.out.size))
                  clear g9 g10 hg hd hb hc1 hset HSET hcel hbel2 hixp
                  go_wp2_with fail
                  go_roundw
                  case rel => exact ⟨p + 1, by omega, by go_num, HSET2.out, B4.out.setCell (Nat.le_refl _) _⟩
                  case measure => simp [intOf]; omega
              · obtain rfl : p = n := by omega
                have hcel2 : Hid (Cel wr wo.heap.size 5 (Lib.byteCells (rowJ G l p i (j + 1) 0))) := by
                  have h := hcel.out; rw [rowJ_end] at h; exact h
                clear hcel
                go_wp2_with fail
                go_roundw
                case rel => exact ⟨j + 1, by omega, by go_num, hcel2.out, hbel2.out⟩
                case measure => simp [intOf]; omega
        · obtain rfl : j = k := by omega
          have hcv := bytes_string hcel.out 0 n n (by rw [rowJ_len]; omega)
          rw [List.drop_zero, List.take_of_length_le (by rw [rowJ_len]; exact Nat.le_refl _), rowJ_last] at hcv
          have hown2 := st_keep hown.out hbel2.out
          have HO2 := Lib.hid hown2
          have B4 := Lib.hid (hbel.out.trans (hbel2.out.mono hbel.out.size))
          have HT := Lib.hid (HTk.out i hlt)
          clear hown2 hcel
          go_wp2_with (at_builtin; refine wpList_append_own _ rfl _ _ 40 rfl w1.heap.size 9 i0 (.string ⟨#[]⟩) 1 16 Try.underlying40 hi hz0 hz1 hz2 rfl (by decide) _ _ _ rfl (HO2.out.alloc _) ⟨wr.heap.size, 0, none⟩ 1 1 [.string (undS j G l n i)] rfl rfl ?c1 ?c2 ?c3 ?c4 ?c5 ?_)
          case c1 => exact cell_one_new _ _ _
          case c2 => intro q hq; simp at hq; subst hq; rfl
          case c3 => unfold maxLen; omega
          case c4 => omega
          case c5 => have := B4.out.size; simp; omega
          intro v' w5 hown' hgrow _
          have HB := Lib.hid (below_append HO2.out B4.out (Nat.le_refl _) hgrow)
          rw [HT.out] at hown'
          have HO := Lib.hid hown'
          clear hown' hgrow hcv m0 m1 m2 m3
          go_wp2_with fail
          go_roundw
          case rel => exact ⟨i + 1, by omega, by go_num, HO.out, HB.out⟩
          case measure => simp [intOf]; omega
    · obtain rfl : i = R := by omega
      have HO : Hid (wr.ownsRow w1.heap.size 9 1 u5 i (strV (undL k i G l n))) := by
        have h := hown.out
        rw [List.take_of_length_le (by rw [HUL.out]; exact Nat.le_refl _)] at h
        exact h
      have HB := Lib.hid (HB1.out.trans (hbel.out.mono HB1.out.size))
      have hge := HB1.out.size
      clear hown
      go_wp2_with fail
      go_ret
      exact ⟨_, rfl, st_lower HO.out hge, HB.out⟩

end Go.Proofs.Ytmnciipfepeccaa
