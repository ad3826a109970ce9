/- What the document's own Bytes and Encode of packs answer; contracts; no condition but the range. -/
import Derived.Test.YtmllaighjhpbmaaPkRef2
namespace Go.Proofs.Ytmllaighjhpbmaa
namespace Pk
open Go.RowKit Bk

attribute [local go_sem ↓] Go.wp_at_zero Go.wp_at_succ
attribute [local go_sem] floatUpon pick

theorem cat_size (L : List UInt8) : (⟨L.toArray⟩ : ByteArray).size = L.length := by
  show L.toArray.size = _
  simp

theorem text_cat (L M : List UInt8) : (⟨L.toArray⟩ : ByteArray) ++ ⟨M.toArray⟩ = ⟨(L ++ M).toArray⟩ := by rw [← ByteArray.mk_append_mk]

theorem numsL_succ {ns : List Int} {j : Nat} (h : j < ns.length) : numsL (ns.take (j + 1)) = numsL (ns.take j) ++ signed ns[j] := by
  unfold numsL
  rw [List.take_add_one, List.getElem?_eq_getElem h, List.flatMap_append]
  simp

theorem textsL_succ {ts : List ByteArray} {j : Nat} (h : j < ts.length) : textsL (ts.take (j + 1)) = textsL (ts.take j) ++ textL ts[j] := by
  unfold textsL
  rw [List.take_add_one, List.getElem?_eq_getElem h, List.flatMap_append]
  simp

theorem bytesL_at {ns : List Int} {ts : List ByteArray} (h : MayBe ns ts) (j k : Nat) : (plain ns.length ++ numsL (ns.take j)).length ≤ 5000000 ∧ (plain ns.length ++ (numsL ns ++ (plain ts.length ++ textsL (ts.take k)))).length ≤ 5000000 := by
  obtain ⟨h1, h2, h3, h4⟩ := h
  have b1 : MayBe (ns.take j) [] := ⟨by rw [List.length_take]; omega, by simp, fun n hn => h3 n (List.mem_of_mem_take hn), by simp⟩
  have a1 := plain_len 9 ns.length (by show _ < 9223372036854775808; omega) (by omega)
  have a2 := plain_len 9 ts.length (by show _ < 9223372036854775808; omega) (by omega)
  have a3 := numsL_le ns h3
  have a4 := numsL_le (ns.take j) (fun n hn => h3 n (List.mem_of_mem_take hn))
  have a5 := textsL_le (ts.take k) (fun n hn => h4 n (List.mem_of_mem_take hn))
  rw [List.length_take] at a4 a5
  simp only [List.length_append]
  omega

/-- what a walk over a pack keeps: its lists, its two cells, what was there -/
def PkEnv (w W : World) (g : Nat) (A B : Option Addr) (c d : Nat) (ns : List Int) (ts : List ByteArray) : Prop :=
  IntsAt W A ns ∧ StrsAt W B ts ∧ Cel W g 48 [.slice A ns.length c, .slice B ts.length d] ∧ Below w.heap.size w W

theorem PkEnv.step {w W W' : World} {g : Nat} {A B : Option Addr} {c d : Nat} {ns : List Int} {ts : List ByteArray} (h : PkEnv w W g A B c d ns ts) (hb : Below W.heap.size W W') : PkEnv w W' g A B c d ns ts :=
  ⟨h.1.below hb, h.2.1.below hb, h.2.2.1.below hb, h.2.2.2.trans (hb.mono h.2.2.2.size)⟩

theorem PkEnv.start {w : World} {A B : Option Addr} {c d : Nat} {ns : List Int} {ts : List ByteArray} (ha : IntsAt w A ns) (hb : StrsAt w B ts) :
    PkEnv w (w.alloc (.cells #[.slice A ns.length c, .slice B ts.length d] 48)) w.heap.size A B c d ns ts :=
  ⟨ha.alloc _, hb.alloc _, (blk1 w _).2, (Below.refl _ w).alloc (Nat.le_refl _) _⟩

theorem PkEnv.c0 {w W : World} {g : Nat} {A B : Option Addr} {c d : Nat} {ns : List Int} {ts : List ByteArray} (h : PkEnv w W g A B c d ns ts) : W.cell? ⟨g, 0, none⟩ = some (.slice A ns.length c) := h.2.2.1.cell rfl
theorem PkEnv.c1 {w W : World} {g : Nat} {A B : Option Addr} {c d : Nat} {ns : List Int} {ts : List ByteArray} (h : PkEnv w W g A B c d ns ts) : W.cell? ⟨g, 1, none⟩ = some (.slice B ts.length d) := h.2.2.1.cell rfl

set_option maxRecDepth 20000 in
set_option maxHeartbeats 1000000 in
theorem bytes_any (A B : Option Addr) (c d : Nat) (ns : List Int) (ts : List ByteArray) (w : World) (ha : IntsAt w A ns) (hb : StrsAt w B ts) (hm : MayBe ns ts) :
    Calls Try.prog 48 #[packV A B c d ns ts] w fun e w' => e = .returned (.string ⟨(bytesL ns ts).toArray⟩) ∧ Below w.heap.size w w' := by
  unfold packV
  have HM := Lib.hid hm
  have p1 : (ns.length : Int) ≤ 1024 := by have := hm.1; omega
  have p2 : (ts.length : Int) ≤ 1024 := by have := hm.2.1; omega
  have HP1 := Lib.hid (fun W => plain_any ns.length W (by omega))
  have HP2 := Lib.hid (fun W => plain_any ts.length W (by omega))
  have HE := Lib.hid (PkEnv.start (c := c) (d := d) ha hb)
  clear ha hb hm
  go_enter Try.func48, Try.ntmps48
  go_upto_region 1 with fail
  generalize w.alloc (.cells #[.slice A ns.length c, .slice B ts.length d] 48) = W1 at *
  have c0 := HE.out.c0
  go_wp2_with fail
  refine (HP1.out _).mono ?_
  rintro e w2 ⟨rfl, hb⟩
  have HE2 := Lib.hid (HE.out.step hb)
  clear hb HE c0
  go_wp2_with fail
  go_loopw [3, 4] (fun x i wr => ∃ j : Nat, j ≤ ns.length ∧ i = .int .i64 (j : Int) ∧ x = .string ⟨(plain ns.length ++ numsL (ns.take j)).toArray⟩ ∧ Hid (PkEnv w wr w.heap.size A B c d ns ts)) (fun _ i _ => ns.length - (intOf i).toNat)
  case atStart => exact ⟨0, by omega, rfl, by rw [List.take_zero]; simp [numsL], HE2.out⟩
  case round =>
    obtain ⟨j, hj, rfl, rfl, hE⟩ := hrel
    have c0 := hE.out.c0
    by_cases hlt : j < ns.length
    · have pj : (j : Int) < (ns.length : Int) := by omega
      obtain ⟨ad, rfl, hab, hcl⟩ := hE.out.1 (by omega)
      have x1 := hcl j hlt
      have hz := HM.out.2.2.1 _ (List.getElem_mem hlt)
      have HS := Lib.hid (fun W => signed_any ns[j] W hz)
      have hsz1 := (bytesL_at HM.out j 0).1
      have hsl := (signed_len hz).2
      have hadd := fun W => run_string_add_sum (P := Try.prog) W ⟨(plain ns.length ++ numsL (ns.take j)).toArray⟩ ⟨(signed ns[j]).toArray⟩ (by rw [cat_size, cat_size]; omega)
      rw [text_cat, List.append_assoc, ← numsL_succ hlt] at hadd
      have HA := Lib.hid (show (plain ns.length ++ numsL (ns.take (j + 1))) = plain ns.length ++ numsL (ns.take (j + 1)) from rfl)
      clear hcl hz hsz1 hsl
      generalize (⟨(signed ns[j]).toArray⟩ : ByteArray) = Sg at HS hadd
      generalize (⟨(plain ns.length ++ numsL (ns.take j)).toArray⟩ : ByteArray) = S0 at hadd
      generalize ns[j] = z at x1 HS
      obtain ⟨S1, hS1⟩ : ∃ S1 : ByteArray, S1 = ⟨(plain ns.length ++ numsL (ns.take (j + 1))).toArray⟩ := ⟨_, rfl⟩
      rw [← hS1] at hadd
      have HS1 := Lib.hid hS1
      clear hS1 HA
      go_wp2_with fail
      refine (HS.out _).mono ?_
      rintro e w3 ⟨rfl, hb⟩
      have HE3 := Lib.hid (hE.out.step hb)
      clear hb hE c0
      go_wp2_with fail
      go_roundw
      case rel => exact ⟨j + 1, by omega, by go_num, by rw [HS1.out], HE3.out⟩
      case measure => simp [intOf]; omega
    · obtain rfl : j = ns.length := by omega
      rw [List.take_length]
      have c1 := hE.out.c1
      have hsz1 := (bytesL_at HM.out ns.length 0).1
      rw [List.take_length] at hsz1
      have hsl := plain_len 9 ts.length (by show _ < 9223372036854775808; omega) (by omega)
      have hadd := fun W => run_string_add_sum (P := Try.prog) W ⟨(plain ns.length ++ numsL ns).toArray⟩ ⟨(plain ts.length).toArray⟩ (by rw [cat_size, cat_size]; omega)
      rw [text_cat, List.append_assoc] at hadd
      generalize (⟨(plain ns.length ++ numsL ns).toArray⟩ : ByteArray) = S0 at hadd
      obtain ⟨S1, hS1⟩ : ∃ S1 : ByteArray, S1 = ⟨(plain ns.length ++ (numsL ns ++ plain ts.length)).toArray⟩ := ⟨_, rfl⟩
      rw [← hS1] at hadd
      have HS1 := Lib.hid hS1
      clear hS1 hsz1 hsl HP1
      generalize (⟨(plain ts.length).toArray⟩ : ByteArray) = Sg at HP2 hadd
      go_wp2_with fail
      refine (HP2.out _).mono ?_
      rintro e w3 ⟨rfl, hb⟩
      have HE3 := Lib.hid (hE.out.step hb)
      clear hb hE c0 c1 HP2
      go_wp2_with fail
      go_loopw [3, 5] (fun x i wr => ∃ j : Nat, j ≤ ts.length ∧ i = .int .i64 (j : Int) ∧ x = .string ⟨(plain ns.length ++ (numsL ns ++ (plain ts.length ++ textsL (ts.take j)))).toArray⟩ ∧ Hid (PkEnv w wr w.heap.size A B c d ns ts)) (fun _ i _ => ts.length - (intOf i).toNat)
      case atStart => exact ⟨0, by omega, rfl, by rw [List.take_zero, HS1.out]; simp [textsL], HE3.out⟩
      case round =>
        obtain ⟨j, hj, rfl, rfl, hE⟩ := hrel
        have c1 := hE.out.c1
        by_cases hlt : j < ts.length
        · have pj : (j : Int) < (ts.length : Int) := by omega
          obtain ⟨bd, rfl, hbb, hcl⟩ := hE.out.2.1 (by omega)
          have x1 := hcl j hlt
          have hz := HM.out.2.2.2 _ (List.getElem_mem hlt)
          have HS := Lib.hid (fun W => plain_any ts[j].size W (by omega))
          have hsz1 := (bytesL_at HM.out 0 j).2
          have htl := textL_le hz
          have hpl := plain_len 9 ts[j].size (by show _ < 9223372036854775808; omega) (by omega)
          have hadd1 := fun W => run_string_add_sum (P := Try.prog) W ⟨(plain ts[j].size).toArray⟩ ts[j] (by rw [cat_size]; omega)
          have e1 : (⟨(plain ts[j].size).toArray⟩ : ByteArray) ++ ts[j] = ⟨(textL ts[j]).toArray⟩ := by unfold textL; rw [← text_cat]
          rw [e1] at hadd1
          have hadd2 := fun W => run_string_add_sum (P := Try.prog) W ⟨(plain ns.length ++ (numsL ns ++ (plain ts.length ++ textsL (ts.take j)))).toArray⟩ ⟨(textL ts[j]).toArray⟩ (by rw [cat_size, cat_size]; omega)
          rw [text_cat, List.append_assoc, List.append_assoc, List.append_assoc, ← textsL_succ hlt] at hadd2
          obtain ⟨S1, hS1⟩ : ∃ S1 : ByteArray, S1 = ⟨(plain ns.length ++ (numsL ns ++ (plain ts.length ++ textsL (ts.take (j + 1))))).toArray⟩ := ⟨_, rfl⟩
          rw [← hS1] at hadd2
          have HS1' := Lib.hid hS1
          have zb : (ts[j].size : Int) ≤ 4096 := by omega
          have HI : Hid (StrsAt wr (some bd) ts) := hE.out.2.1
          clear hS1 hcl hz hsz1 htl hpl e1 HS1
          generalize (⟨(plain ns.length ++ (numsL ns ++ (plain ts.length ++ textsL (ts.take j)))).toArray⟩ : ByteArray) = S0 at hadd2
          generalize (⟨(plain ts[j].size).toArray⟩ : ByteArray) = Pz at HS hadd1
          generalize (⟨(textL ts[j]).toArray⟩ : ByteArray) = Tz at hadd1 hadd2
          generalize ts[j] = t at x1 HS hadd1 zb
          go_upto_region 10 with fail
          refine wp_region_said 15 [38, 39, 40, 41, 42, 43, 44, 45, 46, 47, 48, 49, 50, 51, 52]
            [.is (.string S0), .is (.pointer (some ⟨w.heap.size, 1, none⟩)), .is (.slice (some bd) ts.length d), .is (.int .i64 (j : Int)), .is (.pointer (some (bd.add j))), .is (.string t), .is (.int .i64 (t.size : Int)), .is (.string Pz),
             .is (.pointer (some ⟨w.heap.size, 1, none⟩)), .is (.slice (some bd) ts.length d), .is (.int .i64 (j : Int)), .is (.pointer (some (bd.add j))), .is (.string t), .is (.string Tz), .is (.string S1)]
            (fun W => PkEnv w W w.heap.size A (some bd) c d ns ts ∧ (W.cell? (bd.add j) = some (.string t) ∧ bd.block < W.heap.size)) (by kernel_rfl) (by kernel_rfl) (by kernel_rfl) (by kernel_rfl) (by kernel_rfl)
            (fun W W' h hb => ⟨h.1.step hb, (cell_kept hb _ (by rw [st_block]; exact h.2.2)).trans h.2.1, Nat.lt_of_lt_of_le h.2.2 hb.size⟩) ⟨hE.out, x1, hbb⟩ ?steps ?last
          case steps =>
            simp only [List.take_succ_cons, List.take_zero]
            refine ⟨?_, ?_, ?_, ?_, ?_, ?_, ?_, ?_, ?_, ?_, ?_, ?_, ?_, ?_, ?_, trivial⟩
            all_goals
              intro vs W ρ hρ hc hf hg hI hH hd R' hR
              have k1 := hI.1.c1
              have k2 := hI.2.1
              have HR := Lib.hid hR
              simp [depsOf, Region.binds, sayAt, Say.holds] at hd
              clear hR hI c1 x1
              go_simp
              first
                | exact HR.out _ _ (by simp [sayAt, Say.holds]) (Below.refl _ _) (by simp [sayAt, Say.isBlk])
                | (refine (HS.out _).mono ?_; rintro e w' ⟨rfl, hb⟩; exact ⟨_, rfl, HR.out _ _ (by simp [sayAt, Say.holds]) hb (by simp [sayAt, Say.isBlk])⟩)
                | trace_state
          case last =>
            intro vs W hI hb hg hd
            have g := hg 14 (by omega)
            simp only [sayAt, Say.holds, List.getD_cons_succ, List.getD_cons_zero] at g
            simp only [List.take_succ_cons, List.take_zero, List.drop_succ_cons, List.drop_zero, putAll, Act.put, List.setIfInBounds_toArray, List.set_cons_succ, List.set_cons_zero, Nat.zero_add, Nat.reduceAdd]
            rw [g]
            have HE4 := Lib.hid hI.1
            clear g hg hd hb hI hE c1 x1 HI HE3 HE2
            go_wp2_with fail
            go_roundw
            case rel => exact ⟨j + 1, by omega, by go_num, by rw [HS1'.out], HE4.out⟩
            case measure => simp [intOf]; omega
        · obtain rfl : j = ts.length := by omega
          rw [List.take_length]
          have HBl := Lib.hid hE.out.2.2.2
          go_wp2_with fail
          go_ret
          exact ⟨rfl, HBl.out⟩

/-- what Encode answers -/
def encV (ns : List Int) (ts : List ByteArray) : Value := if ckE ns ts = 0 then .tuple #[.string ⟨(bytesL ns ts).toArray⟩, .int .i64 0] else .tuple #[.string ⟨#[]⟩, .int .i64 (ckE ns ts : Int)]

theorem encV_ok {ns : List Int} {ts : List ByteArray} (h : MayBe ns ts) : encV ns ts = .tuple #[.string ⟨(bytesL ns ts).toArray⟩, .int .i64 0] := by unfold encV; rw [if_pos (ckE_zero.2 h)]
theorem encV_bad {ns : List Int} {ts : List ByteArray} (h : ckE ns ts ≠ 0) : encV ns ts = .tuple #[.string ⟨#[]⟩, .int .i64 (ckE ns ts : Int)] := by unfold encV; rw [if_neg h]

theorem ckE_le (ns : List Int) (ts : List ByteArray) : ckE ns ts ≤ 2 := by
  unfold ckE
  split
  · omega
  · split
    · omega
    · split <;> omega

/-- the range of what a pack as an argument holds -/
def InRange (ns : List Int) (ts : List ByteArray) : Prop :=
  ns.length ≤ 9223372036854775807 ∧ ts.length ≤ 9223372036854775807 ∧ (∀ n ∈ ns, -9223372036854775808 ≤ n ∧ n ≤ 9223372036854775807) ∧ ∀ t ∈ ts, t.size ≤ 9223372036854775807

end Pk
end Go.Proofs.Ytmllaighjhpbmaa
