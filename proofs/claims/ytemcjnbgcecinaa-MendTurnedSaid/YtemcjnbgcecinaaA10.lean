/- Parts of the proof, joined: StUnder, MdMath; their conditions stand with each. -/
import Derived.Test.YtemcjnbgcecinaaA3
import Derived.Test.YtemcjnbgcecinaaA9

/- The document's own parity: what a matrix makes of shards; no condition but the range. -/
namespace Go.Proofs.Ytemcjnbgcecinaa
open Go.RowKit

attribute [local go_sem ↓] Go.wp_at_zero Go.wp_at_succ
attribute [local go_sem] floatUpon pick

/-- byte p of row i, over the first j columns -/
def accB (G : Nat → Nat → UInt8) (l : List ByteArray) (j i p : Nat) : UInt8 := GfU.sum j fun x => GfU.ml (G i x) (byteAt (l.getD x ⟨#[]⟩) p)

def undS (k : Nat) (G : Nat → Nat → UInt8) (l : List ByteArray) (n i : Nat) : ByteArray := ⟨((List.range n).map (accB G l k i)).toArray⟩

def undL (k R : Nat) (G : Nat → Nat → UInt8) (l : List ByteArray) (n : Nat) : List ByteArray := (List.range R).map (undS k G l n)

theorem undL_len (k R : Nat) (G : Nat → Nat → UInt8) (l : List ByteArray) (n : Nat) : (undL k R G l n).length = R := by simp [undL]

theorem undL_drop (k m : Nat) (l : List ByteArray) (n : Nat) : (undL k (k + m) (GfU.gen k) l n).drop k = parL k m l n := by
  apply List.ext_getElem?
  intro i
  unfold undL parL
  rw [List.getElem?_drop, List.getElem?_map, List.getElem?_map]
  by_cases h : i < m
  · rw [List.getElem?_range (by omega), List.getElem?_range h]; rfl
  · rw [List.getElem?_eq_none (by simp; omega), List.getElem?_eq_none (by simp; omega)]; rfl

/-- the bytes when p of them have column j, too -/
def rowJ (G : Nat → Nat → UInt8) (l : List ByteArray) (n i j p : Nat) : List UInt8 := (List.range n).map fun q => if q < p then accB G l (j + 1) i q else accB G l j i q

theorem rowJ_len (G : Nat → Nat → UInt8) (l : List ByteArray) (n i j p : Nat) : (rowJ G l n i j p).length = n := by simp [rowJ]

theorem rowJ_at (G : Nat → Nat → UInt8) (l : List ByteArray) (n i j p : Nat) (h : p < n) : (Lib.byteCells (rowJ G l n i j p))[p]? = some (.int .u8 ((accB G l j i p).toNat : Int)) := by
  unfold Lib.byteCells rowJ
  rw [List.getElem?_map, List.getElem?_map, List.getElem?_range h]
  simp

theorem rowJ_set (G : Nat → Nat → UInt8) (l : List ByteArray) (n i j p : Nat) (h : p < n) (v : Int) (hv : v = ((accB G l (j + 1) i p).toNat : Int)) :
    (Lib.byteCells (rowJ G l n i j p)).set p (.int .u8 v) = Lib.byteCells (rowJ G l n i j (p + 1)) := by
  subst hv
  apply List.ext_getElem?
  intro q
  rw [List.getElem?_set]
  by_cases hq : p = q
  · subst hq
    rw [if_pos rfl, if_pos (by rw [Lib.byteCells_length, rowJ_len]; exact h)]
    unfold Lib.byteCells rowJ
    rw [List.getElem?_map, List.getElem?_map, List.getElem?_range h]
    simp
  · rw [if_neg hq]
    unfold Lib.byteCells rowJ
    rw [List.getElem?_map, List.getElem?_map, List.getElem?_map, List.getElem?_map]
    by_cases hqn : q < n
    · rw [List.getElem?_range hqn]
      simp only [Option.map_some]
      by_cases h2 : q < p
      · rw [if_pos h2, if_pos (by omega)]
      · rw [if_neg h2, if_neg (by omega)]
    · rw [List.getElem?_eq_none (by simp; omega)]; rfl

theorem rowJ_end (G : Nat → Nat → UInt8) (l : List ByteArray) (n i j : Nat) : rowJ G l n i j n = rowJ G l n i (j + 1) 0 := by
  unfold rowJ
  apply List.map_congr_left
  intro q hq
  rw [if_pos (List.mem_range.1 hq), if_neg (by omega)]

theorem rowJ_zero (G : Nat → Nat → UInt8) (l : List ByteArray) (n i : Nat) : List.replicate n (0 : UInt8) = rowJ G l n i 0 0 := by
  apply List.ext_getElem?
  intro q
  unfold rowJ
  rw [List.getElem?_map]
  by_cases hq : q < n
  · rw [List.getElem?_replicate, if_pos hq, List.getElem?_range hq]; rfl
  · rw [List.getElem?_eq_none (by simp; omega), List.getElem?_eq_none (by simp; omega)]; rfl

theorem rowJ_last (k : Nat) (G : Nat → Nat → UInt8) (l : List ByteArray) (n i : Nat) : (⟨(rowJ G l n i k 0).toArray⟩ : ByteArray) = undS k G l n i := by
  unfold rowJ undS
  congr 2

theorem und_take (k R : Nat) (G : Nat → Nat → UInt8) (l : List ByteArray) (n i : Nat) (h : i < R) : strV ((undL k R G l n).take i) ++ [.string (undS k G l n i)] = strV ((undL k R G l n).take (i + 1)) := by
  have e : (undL k R G l n)[i]? = some (undS k G l n i) := by unfold undL; rw [List.getElem?_map, List.getElem?_range h]; rfl
  unfold strV
  rw [List.take_add_one, e, List.map_append]; rfl

theorem st_lower {w : World} {H H' n : Nat} {v : Value} {e : TypeId} {xs : List Value} (h : w.ownsRow H e 1 v n xs) (hH : H' ≤ H) : w.ownsRow H' e 1 v n xs := by
  refine ⟨h.1, ?_⟩
  rcases h.2 with h' | ⟨g, cap, cur, hv, h1, h2⟩
  · exact .inl h'
  · exact .inr ⟨g, cap, cur, hv, Nat.le_trans hH h1, h2⟩

set_option maxRecDepth 100000 in
set_option maxHeartbeats 4000000 in
theorem under_any (k R n : Nat) (G : Nat → Nat → UInt8) (A : Option Addr) (c : Nat) (l : List ByteArray) (w : World) (h : StrsAt w A l) (h1 : 1 ≤ k) (h2 : R ≤ 255) (h3 : k ≤ 255) (hl : l.length = k) (hs : ∀ s ∈ l, s.size = n) (hn : n ≤ 100000) :
    Calls Try.prog 35 #[.agg #[.int .i64 (R : Int), .int .i64 (k : Int), .string ⟨(tabL R k G).toArray⟩], .slice A l.length c] w fun e w' =>
      ∃ v, e = .returned v ∧ w'.ownsRow w.heap.size 9 1 v R (strV (undL k R G l n)) ∧ Below w.heap.size w w' := by
  obtain ⟨i0, hi, hz0, hz1, hz2⟩ := info_parts Try.infoStr
  obtain ⟨i1, hi', hz0', hz1', hz2'⟩ := info_parts Try.infoU8
  have HSS := Lib.hid (size_tab R k G)
  have HCel := Lib.hid (fun i j hi hj => cel_tab R k G i j hi hj)
  have HTk := Lib.hid (fun i h => und_take k R G l n i h)
  have HLk := Lib.hid hl
  have HSz := Lib.hid hs
  have hUL := undL_len k R G l n
  have HUL := Lib.hid hUL
  generalize (⟨(tabL R k G).toArray⟩ : ByteArray) = S at HSS HCel ⊢
  have lpos : 0 < l.length := by omega
  have p0 : (0 : Int) < (l.length : Int) := by omega
  have hkl : l.length ≤ 255 := by omega
  clear hs hl hUL
  go_enter Try.func35, Try.ntmps35
  go_wp2_with fail
  have M1 := Lib.hid (matAt_new w (R : Int) (k : Int) S 59)
  have A1 := Lib.hid (h.alloc (.cells #[.int .i64 (R : Int), .int .i64 (k : Int), .string S] 59))
  have B1 : Hid (Below w.heap.size w (w.alloc (.cells #[.int .i64 (R : Int), .int .i64 (k : Int), .string S] 59))) := (Below.refl _ w).alloc (Nat.le_refl _) _
  clear h
  generalize hmb : w.heap.size = mb at M1 B1 ⊢
  generalize (w.alloc (.cells #[.int .i64 (R : Int), .int .i64 (k : Int), .string S] 59)) = w1 at M1 A1 B1 ⊢
  have HMb := Lib.hid hmb
  have hmb1 : mb ≤ w1.heap.size := by have := M1.out.2.2.2; omega
  have HB1 := Lib.hid (show Below w.heap.size w w1 by rw [HMb.out]; exact B1.out)
  clear B1
  clear hmb
  go_loopw [5, 6] (fun u x wr => ∃ i : Nat, i ≤ R ∧ x = .int .i64 (i : Int) ∧ Hid (wr.ownsRow w1.heap.size 9 1 u i (strV ((undL k R G l n).take i))) ∧ Hid (Below w1.heap.size w1 wr)) (fun _ x _ => R - (intOf x).toNat)
  case atStart => exact ⟨0, by omega, rfl, World.ownsRow_nil _ _ _ _, Below.refl _ _⟩
  case round =>
    obtain ⟨i, hiR, rfl, hown, hbel⟩ := hrel
    have hmat := Lib.hid (matAt_below M1.out hbel.out)
    have hst := Lib.hid (A1.out.below hbel.out)
    obtain ⟨m0, m1, m2, m3⟩ := hmat.out
    by_cases hlt : i < R
    · have pi : (i : Int) < (R : Int) := by omega
      obtain ⟨ad, rfl, hab, hc⟩ := hst.out lpos
      have c0 : wr.cell? ad = some (.string (l[0]'lpos)) := by have := hc 0 lpos; rwa [add_zero'] at this
      have hk0 : Hid ((l[0]'lpos).size = n) := HSz.out _ (List.getElem_mem _)
      obtain ⟨wo, rfl⟩ : ∃ wo : World, wo = wr := ⟨_, rfl⟩
      clear hc
      go_upto_region 6 with (at_make; refine wpList_make_full _ rfl (.tmp 20) (.tmp 20) 48 rfl wo.heap.size 5 i1 (.int .u8 0) 1 Try.underlying48 hi' hz0' hz1' .i64 .i64 _ _ n rfl rfl (by rw [hk0.out]) (by rw [hk0.out]) (by rw [hz2']; omega) (by unfold maxLen; omega) (by simp) ?_; intro w2 hmk hgrow)
      have hCB : Cel w2 wo.heap.size 5 (Lib.byteCells (rowJ G l n i 0 0)) := by
        rw [Nat.mul_one, show (Value.int .u8 0).cells = #[.int .u8 0] from rfl, toList_madeCells_one] at hmk
        have := owns_blk0 hmk
        rw [← rowJ_zero]
        unfold Cel Lib.byteCells
        rw [List.map_replicate]
        exact this
      have CB := Lib.hid hCB
      have B2 : Hid (Below wo.heap.size wo w2) := (Below.refl _ _).grown hgrow (Nat.le_refl _) (fun k hk => by cases hk)
      clear hmk hgrow hCB m0 m1 m2 m3 c0
      go_wp2_with fail
      go_loopw [8] (fun x wr => ∃ j : Nat, j ≤ k ∧ x = .int .i64 (j : Int) ∧ Hid (Cel wr wo.heap.size 5 (Lib.byteCells (rowJ G l n i j 0))) ∧ Hid (Below wo.heap.size wo wr)) (fun x _ => k - (intOf x).toNat)
      case atStart => exact ⟨0, by omega, rfl, CB.out, B2.out⟩
      case round =>
        obtain ⟨j, hjk, rfl, hcel, hbel2⟩ := hrel
        clear CB B2
        obtain ⟨m0, m1, m2, m3⟩ := matAt_below hmat.out hbel2.out
        by_cases hltj : j < k
        · have pj : (j : Int) < (k : Int) := by omega
          have hjl : j < l.length := by rw [HLk.out]; exact hltj
          obtain ⟨ad2, had, hab2, hc2⟩ := (hst.out.below hbel2.out) lpos
          obtain rfl := Option.some.inj had
          have hcj := hc2 j hjl
          have hszj := HSz.out l[j] (List.getElem_mem hjl)
          have HOK : Hid (MatAt wr mb (R : Int) (k : Int) S ∧ wr.cell? (ad.add j) = some (.string l[j]) ∧ ad.block < wr.heap.size) := ⟨⟨m0, m1, m2, m3⟩, hcj, hab2⟩
          have e1 : (i : Int) * (k : Int) = ((i * k : Nat) : Int) := by rw [Int.natCast_mul]
          have hik : i * k + j < S.size := by
            rw [HSS.out]
            have := Nat.mul_le_mul_right k (show i + 1 ≤ R from hlt)
            rw [Nat.succ_mul] at this
            omega
          have hS2 : S.size ≤ 255 * 255 := by rw [HSS.out]; exact Nat.mul_le_mul h2 h3
          have q1 : (0 : Int) ≤ (i : Int) * (k : Int) := by rw [e1]; omega
          have q2 : (i : Int) * (k : Int) ≤ 65025 := by rw [e1]; omega
          have q3 : (i : Int) * (k : Int) + (j : Int) ≤ 130050 := by omega
          have hix : ∀ W, (Instr.index 9 (.string S) (.int .i64 ((i : Int) * (k : Int) + (j : Int)))).run Try.prog W = .ok (.int .u8 ((G i j).toNat : Int)) W := fun W => by
            rw [run_index_string W 9 S .i64 _ Try.underlying9, dif_pos (by rw [e1]; omega)]
            have e2 : ((i : Int) * (k : Int) + (j : Int)).toNat = i * k + j := by rw [e1]; omega
            have e3 := HCel.out i j hlt hltj
            unfold cel at e3
            have hik' : i * k + j < S.data.size := hik
            rw [Array.getElem?_eq_getElem hik', Option.getD_some] at e3
            congr 3
            simp only [e2]
            exact congrArg UInt8.toNat e3
          have pjl : (j : Int) < (l.length : Int) := by omega
          have wm1 : IntKind.i64.wrap ((i : Int) * (k : Int)) = (i : Int) * (k : Int) := i64_wrap (by omega) (by omega)
          have wm2 : IntKind.i64.wrap ((i : Int) * (k : Int) + (j : Int)) = (i : Int) * (k : Int) + (j : Int) := i64_wrap (by omega) (by omega)
          have HSc := Lib.hid (fun w => rscale_any (G i j).toNat l[j] w (GfU.toNat_le _) (by omega))
          clear e1 hik hS2 hcj hc2
          go_upto_region 9 with fail
          clear m0 m1 m2 m3
          refine wp_region_said 14 [28, 29, 30, 31, 32, 33, 34, 35, 36, 37, 38, 39, 40, 41]
            [.is (.pointer (some ⟨mb, 2, none⟩)), .is (.string S), .is (.int .i64 (i : Int)), .is (.pointer (some ⟨mb, 1, none⟩)), .is (.int .i64 (k : Int)), .is (.int .i64 ((i : Int) * (k : Int))), .is (.int .i64 (j : Int)), .is (.int .i64 ((i : Int) * (k : Int) + (j : Int))), .is (.int .u8 ((G i j).toNat : Int)),
             .is (.slice (some ad) l.length c), .is (.int .i64 (j : Int)), .is (.pointer (some (ad.add j))), .is (.string l[j]), .is (.string ⟨(scl (G i j).toNat l[j]).toArray⟩)]
            (fun W => MatAt W mb (R : Int) (k : Int) S ∧ W.cell? (ad.add j) = some (.string l[j]) ∧ ad.block < W.heap.size) (by kernel_rfl) (by kernel_rfl) (by kernel_rfl) (by kernel_rfl) (by kernel_rfl)
            (fun W W' h hb => ⟨matAt_below h.1 hb, (cell_kept hb (ad.add j) (by rw [st_block]; exact h.2.2)).trans h.2.1, Nat.lt_of_lt_of_le h.2.2 hb.size⟩) HOK.out ?steps ?last
          case steps =>
            simp only [List.take_succ_cons, List.take_zero]
            refine ⟨?_, ?_, ?_, ?_, ?_, ?_, ?_, ?_, ?_, ?_, ?_, ?_, ?_, ?_, trivial⟩
            all_goals
              intro vs W ρ hρ hc hf hg hI hH hd R' hR
              obtain ⟨⟨m0, m1, m2, m3⟩, hcj, hcb⟩ := hI
              have HR := Lib.hid hR
              simp [depsOf, Region.binds, sayAt, Say.holds] at hd
              clear hR
              go_simp
              first
                | exact HR.out _ _ (by simp [sayAt, Say.holds]) (Below.refl _ _) (by simp [sayAt, Say.isBlk])
                | (refine (HSc.out _).mono ?_; rintro e w' ⟨rfl, hb⟩; exact ⟨_, rfl, HR.out _ _ (by simp [sayAt, Say.holds]) hb (by simp [sayAt, Say.isBlk])⟩)
                | trace_state
          case last =>
            intro vs W hI hb hg hd
            have g13 := hg 13 (by omega)
            simp only [sayAt, Say.holds, List.getD_cons_succ, List.getD_cons_zero] at g13
            simp only [List.take_succ_cons, List.take_zero, List.drop_succ_cons, List.drop_zero, putAll, Act.put, List.setIfInBounds_toArray, List.set_cons_succ, List.set_cons_zero, Nat.zero_add, Nat.reduceAdd]
            rw [g13]
            have HC3 := Lib.hid (hcel.out.below hb)
            have B3 := Lib.hid (hbel2.out.trans (hb.mono hbel2.out.size))
            obtain ⟨sc, hsc⟩ : ∃ sc : ByteArray, sc = ⟨(scl (G i j).toNat l[j]).toArray⟩ := ⟨_, rfl⟩
            have hscs : sc.size = n := by
              rw [hsc]
              show (scl (G i j).toNat l[j]).toArray.size = n
              rw [List.size_toArray, scl_length, hszj]
            have hscv : ∀ p (h : p < sc.size), ((accB G l j i p).toNat ^^^ (sc[p]'h).toNat) = (accB G l (j + 1) i p).toNat := fun p h => by
              subst hsc
              have hp : p < l[j].size := by rw [hszj]; rw [hscs] at h; exact h
              have e1 : ((⟨(scl (G i j).toNat l[j]).toArray⟩ : ByteArray)[p]'h) = (scl (G i j).toNat l[j])[p]'(by rw [scl_length]; exact hp) := rfl
              have e2 : (l.getD j ⟨#[]⟩) = l[j] := by rw [List.getD_eq_getElem?_getD, List.getElem?_eq_getElem hjl, Option.getD_some]
              rw [e1, scl_at _ _ _ hp]
              unfold accB
              rw [GfU.sum_succ, UInt8.toNat_xor, GfU.ml_toNat, e2, ← byteAt_get _ _ hp]
            have HScs := Lib.hid hscs
            have HScv := Lib.hid hscv
            rw [← hsc]
            clear g13 hg hd hI hb hsc hscs hscv hix HSc HOK hcel hbel2
            go_wp2_with fail
            go_loopw [10] (fun x wr => ∃ p : Nat, p ≤ n ∧ x = .int .i64 (p : Int) ∧ Hid (Cel wr wo.heap.size 5 (Lib.byteCells (rowJ G l n i j p))) ∧ Hid (Below wo.heap.size wo wr)) (fun x _ => n - (intOf x).toNat)
            case atStart => exact ⟨0, by omega, rfl, HC3.out, B3.out⟩
            case round =>
              obtain ⟨p, hp, rfl, hcel, hbel2⟩ := hrel
              clear HC3 B3
              by_cases hltp : p < n
              · have pp : (p : Int) < (n : Int) := by omega
                have hps : p < sc.size := by rw [HScs.out]; exact hltp
                have pps : (p : Int) < (sc.size : Int) := by omega
                have hxv := HScv.out p hps
                have hx8 := u8_xor_nat (accB G l j i p).toNat (sc[p]'hps).toNat (by have := GfU.toNat_le (accB G l j i p); omega) (by have := GfU.toNat_le (sc[p]'hps); omega)
                rw [hxv] at hx8
                have HX := Lib.hid hx8
                have HK := Lib.hid (hcel.out.cell (rowJ_at G l n i j p hltp))
                have hset := hcel.out.set (i := p) (v := .int .u8 ((accB G l (j + 1) i p).toNat : Int))
                rw [rowJ_set G l n i j p hltp _ rfl] at hset
                have HSET := Lib.hid hset
                have bp : (sc[p]'hps).toNat ≤ 255 := GfU.toNat_le _
                have ba : (accB G l j i p).toNat ≤ 255 := GfU.toNat_le _
                generalize hav : (accB G l j i p).toNat = av at HK HX ba
                generalize hbv : (sc[p]'hps).toNat = bv at HX bp
                have HBv := Lib.hid hbv
                have hixp : ∀ W, (Instr.index 9 (.string sc) (.int .i64 (p : Int))).run Try.prog W = .ok (.int .u8 (bv : Int)) W := fun W => by
                  rw [run_index_string W 9 sc .i64 _ Try.underlying9, dif_pos (by omega)]
                  simp only [Int.toNat_natCast, HBv.out]
                clear hxv hx8 hset hav hbv
                go_upto_region 13 with fail
                refine wp_region_said 11 [48, 49, 50, 51, 52, 53, 54, 55, 56, 57, 58]
                  [.is (.slice (some ⟨wo.heap.size, 0, none⟩) n n), .is (.int .i64 (p : Int)), .is (.slice (some ⟨wo.heap.size, 0, none⟩) n n), .is (.int .i64 (p : Int)), .is (.pointer (some ⟨wo.heap.size, p, none⟩)), .is (.int .u8 (av : Int)), .is (.string sc), .is (.int .i64 (p : Int)), .is (.int .u8 (bv : Int)), .is (.int .u8 ((accB G l (j + 1) i p).toNat : Int)), .is (.pointer (some ⟨wo.heap.size, p, none⟩))]
                  (fun W => Cel W wo.heap.size 5 (Lib.byteCells (rowJ G l n i j p)) ∧ W.cell? ⟨wo.heap.size, p, none⟩ = some (.int .u8 (av : Int)) ∧ wo.heap.size < W.heap.size) (by kernel_rfl) (by kernel_rfl) (by kernel_rfl) (by kernel_rfl) (by kernel_rfl)
                  (fun W W' h hb => ⟨h.1.below hb, (hb.cell (p := ⟨wo.heap.size, p, none⟩) h.2.2).trans h.2.1, Nat.lt_of_lt_of_le h.2.2 hb.size⟩) ⟨hcel.out, HK.out, hcel.out.lt⟩ ?steps ?last
                case steps =>
                  simp only [List.take_succ_cons, List.take_zero]
                  refine ⟨?_, ?_, ?_, ?_, ?_, ?_, ?_, ?_, ?_, ?_, ?_, trivial⟩
                  all_goals
                    intro vs W ρ hρ hc hf hg hI hH hd R' hR
                    obtain ⟨_, hcp, _⟩ := hI
                    have HR := Lib.hid hR
                    have hxx := HX.out
                    simp [depsOf, Region.binds, sayAt, Say.holds] at hd
                    clear hR
                    go_simp
                    first
                      | exact HR.out _ _ (by simp [sayAt, Say.holds]) (Below.refl _ _) (by simp [sayAt, Say.isBlk])
                      | trace_state
                case last =>
                  intro vs W hI hb hg hd
                  have g9 := hg 9 (by omega)
                  have g10 := hg 10 (by omega)
                  simp only [sayAt, Say.holds, List.getD_cons_succ, List.getD_cons_zero] at g9 g10
                  simp only [List.take_succ_cons, List.take_zero, List.drop_succ_cons, List.drop_zero, putAll, Act.put, List.setIfInBounds_toArray, List.set_cons_succ, List.set_cons_zero, Nat.zero_add, Nat.reduceAdd]
                  rw [g9, g10]
                  obtain ⟨hc1, hc2, _⟩ := hI
                  have hfree := hc1.free (i := p)
                  have hset := hc1.set (i := p) (v := .int .u8 ((accB G l (j + 1) i p).toNat : Int))
                  rw [rowJ_set G l n i j p hltp _ rfl] at hset
                  have HSET2 := Lib.hid hset
                  have B4 := Lib.hid (hbel2.out.trans (hb.mono hbel2.out.size))
                  clear g9 g10 hg hd hb hc1 hset HSET hcel hbel2 hixp
                  go_wp2_with fail
                  go_roundw
                  case rel => exact ⟨p + 1, by omega, by go_num, HSET2.out, B4.out.setCell (Nat.le_refl _) _⟩
                  case measure => simp [intOf]; omega
              · obtain rfl : p = n := by omega
                have hcel2 : Hid (Cel wr wo.heap.size 5 (Lib.byteCells (rowJ G l p i (j + 1) 0))) := by
                  have h := hcel.out; rw [rowJ_end] at h; exact h
                clear hcel
                go_wp2_with fail
                go_roundw
                case rel => exact ⟨j + 1, by omega, by go_num, hcel2.out, hbel2.out⟩
                case measure => simp [intOf]; omega
        · obtain rfl : j = k := by omega
          have hcv := bytes_string hcel.out 0 n n (by rw [rowJ_len]; omega)
          rw [List.drop_zero, List.take_of_length_le (by rw [rowJ_len]; exact Nat.le_refl _), rowJ_last] at hcv
          have hown2 := st_keep hown.out hbel2.out
          have HO2 := Lib.hid hown2
          have B4 := Lib.hid (hbel.out.trans (hbel2.out.mono hbel.out.size))
          have HT := Lib.hid (HTk.out i hlt)
          clear hown2 hcel
          go_wp2_with (at_builtin; refine wpList_append_own _ rfl _ _ 32 rfl w1.heap.size 9 i0 (.string ⟨#[]⟩) 1 16 Try.underlying32 hi hz0 hz1 hz2 rfl (by decide) _ _ _ rfl (HO2.out.alloc _) ⟨wr.heap.size, 0, none⟩ 1 1 [.string (undS j G l n i)] rfl rfl ?c1 ?c2 ?c3 ?c4 ?c5 ?_)
          case c1 => exact cell_one_new _ _ _
          case c2 => intro q hq; simp at hq; subst hq; rfl
          case c3 => unfold maxLen; omega
          case c4 => omega
          case c5 => have := B4.out.size; simp; omega
          intro v' w5 hown' hgrow _
          have HB := Lib.hid (below_append HO2.out B4.out (Nat.le_refl _) hgrow)
          rw [HT.out] at hown'
          have HO := Lib.hid hown'
          clear hown' hgrow hcv m0 m1 m2 m3
          go_wp2_with fail
          go_roundw
          case rel => exact ⟨i + 1, by omega, by go_num, HO.out, HB.out⟩
          case measure => simp [intOf]; omega
    · obtain rfl : i = R := by omega
      have HO : Hid (wr.ownsRow w1.heap.size 9 1 u5 i (strV (undL k i G l n))) := by
        have h := hown.out
        rw [List.take_of_length_le (by rw [HUL.out]; exact Nat.le_refl _)] at h
        exact h
      have HB := Lib.hid (HB1.out.trans (hbel.out.mono HB1.out.size))
      have hge := HB1.out.size
      clear hown
      go_wp2_with fail
      go_ret
      exact ⟨_, rfl, st_lower HO.out hge, HB.out⟩

end Go.Proofs.Ytemcjnbgcecinaa

/- Shards that go together, and what is made of them: the numbers; no condition but that they go together. -/
namespace Go.Proofs.Ytemcjnbgcecinaa
open Go.RowKit

/-- the shards L go together under the code of k and m, and k of them are there -/
structure CkOk (k m : Nat) (L : List (Int × ByteArray)) : Prop where
  k1 : 1 ≤ k
  km : k + m ≤ 255
  all : ∀ i, i < L.length → badE ((k : Int) + (m : Int)) L i = 0
  len : k ≤ L.length

section
variable {k m i j : Nat} {L : List (Int × ByteArray)}

theorem CkOk.rng (h : CkOk k m L) (hi : i < L.length) : 0 ≤ sI L i ∧ sI L i < (k : Int) + (m : Int) := by
  have h1 := h.all i hi
  by_cases h2 : sI L i < 0 ∨ (k : Int) + (m : Int) ≤ sI L i
  · rw [bad_rng h2] at h1; cases h1
  · omega

theorem CkOk.ne (h : CkOk k m L) (hi : i < L.length) (hj : j < i) : sI L j ≠ sI L i := fun e => by
  have h1 := h.all i hi
  have h2 := h.rng hi
  rw [bad_there (by omega) ⟨j, hj, e⟩] at h1
  cases h1

theorem CkOk.size (h : CkOk k m L) (hi : i < L.length) : (sS L i).size = (sS L 0).size ∧ (sS L 0).size ≤ 2052 := by
  have h1 := h.all i hi
  have h2 := h.rng hi
  have h3 : ¬ ∃ j, j < i ∧ sI L j = sI L i := fun ⟨j, hj, e⟩ => h.ne hi hj e
  by_cases h4 : 2052 < (sS L i).size
  · rw [bad_long (by omega) h3 h4] at h1; cases h1
  · by_cases h5 : (sS L i).size = (sS L 0).size
    · exact ⟨h5, by omega⟩
    · rw [bad_shape (by omega) h3 h4 h5] at h1; cases h1

/-- the number of shard i -/
def nI (L : List (Int × ByteArray)) (i : Nat) : Nat := (sI L i).toNat

theorem CkOk.nat (h : CkOk k m L) (hi : i < L.length) : sI L i = (nI L i : Int) ∧ nI L i < k + m := by
  have := h.rng hi
  unfold nI
  omega

theorem CkOk.inj (h : CkOk k m L) (hi : i < L.length) (hj : j < L.length) (e : nI L i = nI L j) : i = j := by
  have h1 := (h.nat hi).1
  have h2 := (h.nat hj).1
  rcases Nat.lt_trichotomy i j with h3 | h3 | h3
  · exact absurd (by rw [h1, h2, e]) (h.ne hj h3)
  · exact h3
  · exact absurd (by rw [h1, h2, e]) (h.ne hi h3)
end

/-- the rows of the generator with the shards' numbers -/
def gR (k : Nat) (L : List (Int × ByteArray)) (i j : Nat) : UInt8 := GfU.gen k (nI L i) j

theorem rows_not_sing {k : Nat} (N : Nat → Nat) (hk : k ≤ 255) (hN : ∀ i, i < k → N i < 256) (hi : ∀ i j, i < k → j < k → N i = N j → i = j) : ¬ GfU.Sing k (fun i j => GfU.gen k (N i) j) := fun hs => by
  refine GfU.gen_not_sing k ((List.range k).map N) ?_ (by simp) ?_ (by omega) ?_
  · refine List.pairwise_map.2 ((List.pairwise_lt_range).imp_of_mem fun {a b} ha hb hab e => ?_)
    have := hi a b (List.mem_range.1 ha) (List.mem_range.1 hb) e
    omega
  · intro i hi'
    obtain ⟨j, hj, rfl⟩ := List.mem_map.1 hi'
    exact hN j (List.mem_range.1 hj)
  · obtain ⟨v, c, hc, hv, h⟩ := hs
    refine ⟨v, c, hc, hv, fun i hi' => ?_⟩
    have e : ((List.range k).map N).getD i 0 = N i := by rw [List.getD_eq_getElem?_getD, List.getElem?_map, List.getElem?_range hi']; rfl
    simp only [e]
    exact h i hi'

theorem CkOk.not_sing {k m : Nat} {L : List (Int × ByteArray)} (h : CkOk k m L) : ¬ GfU.Sing k (gR k L) :=
  rows_not_sing (nI L) (by have := h.km; omega) (fun i hi => by have := (h.nat (i := i) (Nat.lt_of_lt_of_le hi h.len)).2; have := h.km; omega)
    (fun i j hi hj e => h.inj (Nat.lt_of_lt_of_le hi h.len) (Nat.lt_of_lt_of_le hj h.len) e)

open Classical in
/-- an inverse of those rows, if there is one -/
noncomputable def invF (k : Nat) (L : List (Int × ByteArray)) : Nat → Nat → UInt8 :=
  if h : ∃ R, GfU.sq k (GfU.mm k R (gR k L)) GfU.one then h.choose else fun _ _ => 0

theorem invF_of {k : Nat} {L : List (Int × ByteArray)} {R : Nat → Nat → UInt8} (h1 : GfU.sq k (GfU.mm k R (gR k L)) GfU.one) (h2 : GfU.sq k (GfU.mm k (gR k L) R) GfU.one) :
    GfU.sq k (invF k L) R ∧ GfU.sq k (GfU.mm k (invF k L) (gR k L)) GfU.one := by
  have hx : ∃ R, GfU.sq k (GfU.mm k R (gR k L)) GfU.one := ⟨R, h1⟩
  have h3 : GfU.sq k (GfU.mm k (invF k L) (gR k L)) GfU.one := by
    unfold invF
    rw [dif_pos hx]
    exact hx.choose_spec
  exact ⟨GfU.inv_alike k h3 h2, h3⟩

/-- the first k texts -/
def haveL (k : Nat) (L : List (Int × ByteArray)) : List ByteArray := (List.range k).map (sS L)

theorem haveL_len (k : Nat) (L : List (Int × ByteArray)) : (haveL k L).length = k := by simp [haveL]

theorem haveL_at (k : Nat) (L : List (Int × ByteArray)) (i : Nat) (h : i < k) : (haveL k L).getD i ⟨#[]⟩ = sS L i := by
  unfold haveL
  rw [List.getD_eq_getElem?_getD, List.getElem?_map, List.getElem?_range h]; rfl

theorem haveL_take (k : Nat) (L : List (Int × ByteArray)) (i : Nat) (h : i < k) : strV ((haveL k L).take i) ++ [.string (sS L i)] = strV ((haveL k L).take (i + 1)) := by
  have e : (haveL k L)[i]? = some (sS L i) := by unfold haveL; rw [List.getElem?_map, List.getElem?_range h]; rfl
  unfold strV
  rw [List.take_add_one, e, List.map_append]; rfl

theorem CkOk.have_size {k m : Nat} {L : List (Int × ByteArray)} (h : CkOk k m L) : ∀ s ∈ haveL k L, s.size = (sS L 0).size := fun s hs => by
  unfold haveL at hs
  obtain ⟨i, hi, rfl⟩ := List.mem_map.1 hs
  exact (h.size (Nat.lt_of_lt_of_le (List.mem_range.1 hi) h.len)).1

/-- the data shards that are made -/
noncomputable def dataL (k : Nat) (L : List (Int × ByteArray)) : List ByteArray := undL k k (invF k L) (haveL k L) (sS L 0).size

/-- all shards that are made -/
noncomputable def allL (k m : Nat) (L : List (Int × ByteArray)) : List ByteArray := undL k (k + m) (GfU.gen k) (dataL k L) (sS L 0).size

theorem undS_size (k : Nat) (G : Nat → Nat → UInt8) (l : List ByteArray) (n i : Nat) : (undS k G l n i).size = n := by
  show ((List.range n).map _).toArray.size = n
  simp

theorem undL_size (k R : Nat) (G : Nat → Nat → UInt8) (l : List ByteArray) (n : Nat) : ∀ s ∈ undL k R G l n, s.size = n := fun s hs => by
  unfold undL at hs
  obtain ⟨i, _, rfl⟩ := List.mem_map.1 hs
  exact undS_size k G l n i

theorem undL_at (k R : Nat) (G : Nat → Nat → UInt8) (l : List ByteArray) (n i : Nat) (h : i < R) : (undL k R G l n).getD i ⟨#[]⟩ = undS k G l n i := by
  unfold undL
  rw [List.getD_eq_getElem?_getD, List.getElem?_map, List.getElem?_range h]; rfl

theorem undS_at (k : Nat) (G : Nat → Nat → UInt8) (l : List ByteArray) (n i p : Nat) (h : p < n) : byteAt (undS k G l n i) p = accB G l k i p := by
  unfold byteAt undS
  simp only [List.getElem?_toArray]
  rw [List.getElem?_map, List.getElem?_range h]
  rfl

theorem undL_ext {k R : Nat} {G G' : Nat → Nat → UInt8} {l l' : List ByteArray} {n : Nat} (h : ∀ i p, i < R → p < n → accB G l k i p = accB G' l' k i p) : undL k R G l n = undL k R G' l' n := by
  unfold undL
  apply List.map_congr_left
  intro i hi
  unfold undS
  congr 2
  apply List.map_congr_left
  intro p hp
  exact h i p (List.mem_range.1 hi) (List.mem_range.1 hp)

theorem undL_alike {k : Nat} {A B : Nat → Nat → UInt8} (h : GfU.sq k A B) (l : List ByteArray) (n : Nat) : undL k k A l n = undL k k B l n :=
  undL_ext fun i p hi _ => GfU.sum_congr k fun x hx => by rw [h i x hi hx]

/-- what is made of what was made -/
theorem undL_mm (k R : Nat) (G A : Nat → Nat → UInt8) (l : List ByteArray) (n : Nat) : undL k R G (undL k k A l n) n = undL k R (GfU.mm k G A) l n :=
  undL_ext fun i p _ hp => by
    unfold accB
    have e : (GfU.sum k fun x => GfU.ml (G i x) (byteAt ((undL k k A l n).getD x ⟨#[]⟩) p)) = GfU.sum k fun x => GfU.ml (G i x) (GfU.sum k fun y => GfU.ml (A x y) (byteAt (l.getD y ⟨#[]⟩) p)) :=
      GfU.sum_congr k fun x hx => by rw [undL_at k k A l n x hx, undS_at k A l n x p hp]; rfl
    rw [e]
    have e2 : (GfU.sum k fun x => GfU.ml (G i x) (GfU.sum k fun y => GfU.ml (A x y) (byteAt (l.getD y ⟨#[]⟩) p))) = GfU.sum k fun x => GfU.sum k fun y => GfU.ml (GfU.ml (G i x) (A x y)) (byteAt (l.getD y ⟨#[]⟩) p) :=
      GfU.sum_congr k fun x _ => by rw [GfU.ml_sum]; exact GfU.sum_congr k fun y _ => (GfU.ml_assoc _ _ _).symm
    rw [e2, GfU.sum_swap]
    exact GfU.sum_congr k fun y _ => by unfold GfU.mm; rw [GfU.sum_ml]

theorem undL_list (l l' : List ByteArray) (n : Nat) (hl : l.length = l'.length) (hs : ∀ s ∈ l, s.size = n) (hs' : ∀ s ∈ l', s.size = n) (h : ∀ i p, i < l.length → p < n → byteAt (l.getD i ⟨#[]⟩) p = byteAt (l'.getD i ⟨#[]⟩) p) : l = l' := by
  apply List.ext_getElem hl
  intro i h1 h2
  have e1 : l.getD i ⟨#[]⟩ = l[i] := by rw [List.getD_eq_getElem?_getD, List.getElem?_eq_getElem h1, Option.getD_some]
  have e2 : l'.getD i ⟨#[]⟩ = l'[i] := by rw [List.getD_eq_getElem?_getD, List.getElem?_eq_getElem h2, Option.getD_some]
  have z1 := hs l[i] (List.getElem_mem h1)
  have z2 := hs' l'[i] (List.getElem_mem h2)
  have h3 : ∀ p, p < n → byteAt l[i] p = byteAt l'[i] p := fun p hp => by have := h i p h1 hp; rwa [e1, e2] at this
  apply ByteArray.ext
  apply Array.ext
  · exact z1.trans z2.symm
  · intro p hp1 hp2
    have hp : p < n := by rw [← z1]; exact hp1
    have h4 := h3 p hp
    unfold byteAt at h4
    rw [Array.getElem?_eq_getElem hp1, Array.getElem?_eq_getElem hp2, Option.getD_some, Option.getD_some] at h4
    exact h4

theorem undL_one {k : Nat} (l : List ByteArray) (n : Nat) (hl : l.length = k) (hs : ∀ s ∈ l, s.size = n) : undL k k GfU.one l n = l := by
  refine undL_list _ _ n (by rw [undL_len, hl]) (undL_size _ _ _ _ _) hs fun i p hi hp => ?_
  rw [undL_len] at hi
  rw [undL_at k k GfU.one l n i hi, undS_at _ _ _ _ _ _ hp]
  unfold accB
  rw [GfU.sum_single k i (f := fun x => GfU.ml (GfU.one i x) (byteAt (l.getD x ⟨#[]⟩) p)) hi (fun x _ hx => by unfold GfU.one; rw [if_neg (fun e => hx e.symm)]; exact GfU.zero_ml _)]
  unfold GfU.one
  rw [if_pos rfl, GfU.one_ml]

/-- of a code's shards any k make its data -/
theorem data_back {k : Nat} {L : List (Int × ByteArray)} {D : List ByteArray} {n : Nat} (hR : ∃ R, GfU.sq k (GfU.mm k R (gR k L)) GfU.one ∧ GfU.sq k (GfU.mm k (gR k L) R) GfU.one)
    (hn : (sS L 0).size = n) (hD : D.length = k) (hs : ∀ s ∈ D, s.size = n) (hh : ∀ i, i < k → sS L i = undS k (GfU.gen k) D n (nI L i)) : dataL k L = D := by
  obtain ⟨R, h1, h2⟩ := hR
  obtain ⟨_, h3⟩ := invF_of h1 h2
  have e : haveL k L = undL k k (gR k L) D n := by
    apply List.ext_getElem?
    intro i
    unfold haveL undL
    rw [List.getElem?_map, List.getElem?_map]
    by_cases hi : i < k
    · rw [List.getElem?_range hi]
      simp only [Option.map_some]
      rw [hh i hi]; rfl
    · rw [List.getElem?_eq_none (by simp; omega)]; rfl
  unfold dataL
  rw [e, hn, undL_mm, undL_alike h3, undL_one D n hD hs]

/-- the generator over data: the data, and the parity -/
theorem md_gen_all {k m : Nat} {D : List ByteArray} {n : Nat} (hD : D.length = k) (hs : ∀ s ∈ D, s.size = n) : undL k (k + m) (GfU.gen k) D n = D ++ parL k m D n := by
  have h1 := undL_drop k m D n
  have h2 : (undL k (k + m) (GfU.gen k) D n).take k = D := by
    have e : (undL k (k + m) (GfU.gen k) D n).take k = undL k k GfU.one D n := by
      apply List.ext_getElem?
      intro i
      rw [List.getElem?_take]
      by_cases hi : i < k
      · rw [if_pos hi]
        unfold undL
        rw [List.getElem?_map, List.getElem?_map, List.getElem?_range (by omega), List.getElem?_range hi]
        simp only [Option.map_some, Option.some.injEq]
        unfold undS
        congr 2
        apply List.map_congr_left
        intro p _
        unfold accB
        exact GfU.sum_congr k fun x _ => by unfold GfU.gen; rw [if_pos hi]
      · rw [if_neg hi, List.getElem?_eq_none (by rw [undL_len]; omega)]
    rw [e, undL_one D n hD hs]
  rw [← List.take_append_drop k (undL k (k + m) (GfU.gen k) D n), h1, h2]

end Go.Proofs.Ytemcjnbgcecinaa
