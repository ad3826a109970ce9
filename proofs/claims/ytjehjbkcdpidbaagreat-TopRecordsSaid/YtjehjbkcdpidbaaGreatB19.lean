/- Parts of the proof, joined: RcPack, PkLaw, PkDone1, PkDone2, PkDone3; their conditions stand with each. -/
import Derived.Test.YtjehjbkcdpidbaaGreatB2
import Derived.Test.YtjehjbkcdpidbaaGreatB9
import Derived.Test.YtjehjbkcdpidbaaGreatB13
import Derived.Test.YtjehjbkcdpidbaaGreatB18

/- What the landed package's toPack answers: the numbers and texts of a record; contract; no condition but that the record may be. -/
namespace Go.Proofs.YtjehjbkcdpidbaaGreat
namespace Rc
open Go.RowKit Bk Lt

attribute [local go_sem ↓] Go.wp_at_zero Go.wp_at_succ
attribute [local go_sem] floatUpon pick

set_option maxRecDepth 20000 in
set_option maxHeartbeats 8000000 in
theorem toPack_any (A B : Option Addr) (c d : Nat) (r : Rec) (w : World) (ha : StrsAt w A r.keys) (hb : WrsAt w B r.ws) (hA : A = none → c = 0) (hok : RecOk r) :
    Calls Tryz.prog 44 #[recV r A B c d] w fun e w' => ∃ (A1 B1 : Option Addr) (c1 d1 : Nat), e = .returned (Pk.packV A1 B1 c1 d1 (numsOf r) (textsOf r)) ∧ IntsAt w' A1 (numsOf r) ∧ StrsAt w' B1 (textsOf r) ∧ (numsOf r).length ≤ c1 ∧ (textsOf r).length ≤ d1 ∧ c1 ≤ maxLen ∧ d1 ≤ maxLen ∧ Below w.heap.size w w' := by
  obtain ⟨i0, hi, hz0, hz1, hz2⟩ := info_parts Tryz.infoStr
  obtain ⟨i1, hi', hz0', hz1', hz2'⟩ := info_parts Pk.Tryz.infoInt
  have henv := RcEnv.start (c := c) (d := d) ha hb
  have hbd := hok.bounds
  have nk : r.keys.length ≤ 16 := hbd.1
  have nw : r.ws.length ≤ 16 := hbd.2.1
  have pk : (r.keys.length : Int) ≤ 16 := by omega
  have pw : (r.ws.length : Int) ≤ 16 := by omega
  have HAn := Lib.hid hA
  have HFb := Lib.hid (fun b W => fromBool_any b W)
  clear ha hb hbd hok hA
  unfold recV
  go_enter Tryz.func44, Tryz.ntmps44
  go_upto_region 1 with fail
  have hE1 := henv.step ((Below.refl _ _).alloc (Nat.le_refl _) (.cells #[.slice none 0 0, .slice none 0 0] 88))
  have hR1 : Cel ((w.alloc (.cells #[.int .i64 r.kind, .int .i64 r.txn, .int .i64 r.ts, .int .i64 r.coord, .string r.key, .string r.text, .bool r.dead, .slice A r.keys.length c, .slice B r.ws.length d] 49)).alloc (.cells #[.slice none 0 0, .slice none 0 0] 88)) (w.heap.size + 1) 88 [.slice none 0 0, .slice none 0 0] := (blk2 w _ _).2.2
  generalize (w.alloc (.cells #[.int .i64 r.kind, .int .i64 r.txn, .int .i64 r.ts, .int .i64 r.coord, .string r.key, .string r.text, .bool r.dead, .slice A r.keys.length c, .slice B r.ws.length d] 49)).alloc (.cells #[.slice none 0 0, .slice none 0 0] 88) = W1 at hE1 hR1 ⊢
  have HE := Lib.hid hE1
  have HR := Lib.hid hR1
  clear henv hE1 hR1
  refine wp_region_said 15 [7, 8, 9, 10, 11, 12, 13, 14, 15, 16, 17, 18, 19, 20, 21]
    [.is (.pointer (some ⟨w.heap.size, 0, none⟩)), .is (.int .i64 r.kind), .is (.pointer (some ⟨w.heap.size, 1, none⟩)), .is (.int .i64 r.txn), .is (.pointer (some ⟨w.heap.size, 2, none⟩)), .is (.int .i64 r.ts), .is (.pointer (some ⟨w.heap.size, 3, none⟩)), .is (.int .i64 r.coord), .is (.pointer (some ⟨w.heap.size, 6, none⟩)), .is (.bool r.dead), .is (.int .i64 (flag r.dead)), .is (.pointer (some ⟨w.heap.size, 7, none⟩)), .is (.slice A r.keys.length c), .is (.int .i64 (r.keys.length : Int)), .arr 3 #[.int .i64 r.kind, .int .i64 r.txn, .int .i64 r.ts, .int .i64 r.coord, .int .i64 (flag r.dead), .int .i64 (r.keys.length : Int)] 6 6]
    (fun W => RcEnv w W w.heap.size A B c d r ∧ Below W1.heap.size W1 W) (by kernel_rfl) (by kernel_rfl) (by kernel_rfl) (by kernel_rfl) (by kernel_rfl) (fun W W' h hb => ⟨h.1.step hb, h.2.trans (hb.mono h.2.size)⟩) ⟨HE.out, Below.refl _ _⟩ ?steps1 ?last1
  case steps1 =>
    simp only [List.take_succ_cons, List.take_zero]
    refine ⟨?_, ?_, ?_, ?_, ?_, ?_, ?_, ?_, ?_, ?_, ?_, ?_, ?_, ?_, ?_, trivial⟩
    all_goals
      intro vs W ρ hρ hc hf hg hI hH hd R' hR
      have k0 := hI.1.cel.cell (i := 0) rfl
      have k1 := hI.1.cel.cell (i := 1) rfl
      have k2 := hI.1.cel.cell (i := 2) rfl
      have k3 := hI.1.cel.cell (i := 3) rfl
      have k6 := hI.1.cel.cell (i := 6) rfl
      have k7 := hI.1.cel.cell (i := 7) rfl
      have HR := Lib.hid hR
      simp [depsOf, Region.binds, sayAt, Say.holds] at hd
      clear hR hI
      go_simp
      first
        | exact HR.out _ _ (by simp [sayAt, Say.holds]) (Below.refl _ _) (by simp [sayAt, Say.isBlk])
        | exact HR.out _ _ ⟨_, hH, by simp, rfl, heap_alloc_new _ _⟩ ((Below.refl _ _).alloc (Nat.le_refl _) _) (fun h => by cases h)
        | (refine (HFb.out _ _).mono ?_; rintro e w' ⟨rfl, rfl⟩; exact ⟨_, rfl, HR.out _ _ (by simp [sayAt, Say.holds]) (Below.refl _ _) (by simp [sayAt, Say.isBlk])⟩)
        | trace_state
  case last1 =>
  intro vs W hI hb hg hd
  obtain ⟨p, hp1, hp2, g14, hp4⟩ := hg 14 (by omega)
  simp only [List.take_succ_cons, List.take_zero, List.drop_succ_cons, List.drop_zero, putAll, Act.put, List.setIfInBounds_toArray, List.set_cons_succ, List.set_cons_zero, Nat.zero_add, Nat.reduceAdd]
  rw [g14]
  clear g14 hg hd hb
  go_upto_region 2 with fail
  have hE1 := hI.1
  have hB1 := hI.2
  have k4 := hE1.cel.cell (i := 4) rfl
  have k5 := hE1.cel.cell (i := 5) rfl
  have q7 := fun o : Obj => (hE1.step ((Below.refl _ W).alloc (Nat.le_refl _) o)).cel.cell (i := 7) rfl
  obtain ⟨s2, b2⟩ := blk1 W (.cells #[.string r.key, .string r.text] 9)
  have hrw : PkRows W1 (W.alloc (.cells #[.string r.key, .string r.text] 9)) W1.heap.size (.slice (some ⟨p, 0, none⟩) 6 6) (.slice (some ⟨W.heap.size, 0, none⟩) 2 2) (numsP r 0) [r.key, r.text] := by
    have hsz := hB1.size
    refine ⟨?_, ?_, ?_, hB1.alloc hsz _, by omega⟩
    · have : (numsP r 0).length = 6 := by simp [numsP]
      rw [this]
      exact ⟨by rw [intV_len, this], .inr ⟨p, 6, _, rfl, hp1, ((Below.refl _ W).alloc (Nat.le_refl _) _).block p hp2 |>.trans hp4, Nat.le_refl _, by unfold maxLen; omega, rfl, by simp [numsP, intV]⟩⟩
    · exact ⟨rfl, .inr ⟨W.heap.size, 2, _, rfl, hsz, b2, Nat.le_refl _, by unfold maxLen; omega, rfl, rfl⟩⟩
    · intro j h1 h2; simp [Value.ownBlock] at h1 h2; omega
  have HRw := Lib.hid hrw
  have HA2 := Lib.hid (show A = none → r.keys.length = 0 ∧ c = 0 from fun e => by
      refine ⟨?_, HAn.out e⟩
      rcases Nat.eq_zero_or_pos r.keys.length with h | h
      · exact h
      · obtain ⟨ad, h2, _⟩ := HE.out.ks h; rw [e] at h2; cases h2)
  clear s2 b2 hrw hp1 hp2 hp4 hI hE1 hB1
  go_upto_region 3 with (at_builtin; refine wpList_append_opt rfl _ _ 37 rfl W1.heap.size 9 i0 (.string ⟨#[]⟩) 16 Tryz.underlying37 hi hz0 hz1 hz2 rfl _ 2 _ rfl HRw.out.r1 A r.keys.length c (strV r.keys) rfl (strV_len _) HA2.out ?c1 ?c2 ?c3 ?c4 HRw.out.le ?_)
  case c1 => exact fun ad e => by subst e; exact (HE.out.step HRw.out.bel).ks.news
  case c2 => intro u hu; obtain ⟨s, _, rfl⟩ := List.mem_map.1 hu; rfl
  case c3 => unfold maxLen; omega
  case c4 => omega
  intro v' w3 ho hg hat
  have HR3 := Lib.hid (PkRows.grow2 (ts' := textsP r 0) HRw.out (by
    have e : strV [r.key, r.text] ++ strV r.keys = strV (textsP r 0) := by simp [strV, textsP]
    rw [← e]; exact ho) (by simp [textsP]; omega) hg (by rcases hat with h | h; exact .inl h; exact .inr (by rw [h]; simp)))
  clear ho hg hat HRw q7 k4 k5
  generalize (Value.slice (some ⟨p, 0, none⟩) 6 6) = vn at HR3 ⊢
  have k8 := (HE.out.step HR3.out.bel).cel.cell (i := 8) rfl
  go_wp2_with fail
  go_loopw [3, 4, 33] (fun v1 v2 i wr => ∃ (j : Nat), j ≤ r.ws.length ∧ i = .int .i64 (j : Int) ∧ Hid (PkRows W1 wr W1.heap.size v1 v2 (numsP r j) (textsP r j))) (fun _ _ i _ => r.ws.length - (intOf i).toNat)
  case atStart => exact ⟨0, by omega, rfl, HR3.out⟩
  case round =>
    obtain ⟨j, hj, rfl, hrw⟩ := hrel
    clear HR3 k8
    by_cases hlt : j < r.ws.length
    · have pj : (j : Int) < (r.ws.length : Int) := by omega
      have hle := HE.out.step hrw.out.bel
      obtain ⟨bd, rfl, _, hcb⟩ := hle.ws (by omega)
      obtain ⟨x0, x1, x2⟩ := hcb j hlt
      rw [← add_field _ _ _ (by omega)] at x1 x2
      have hns := numsP_succ hlt
      have hts := textsP_succ hlt
      have hnl := numsP_len r j
      have htl := textsP_len r j
      obtain ⟨X, hX⟩ : ∃ X, X = r.ws[j] := ⟨_, rfl⟩
      rw [← hX] at x0 x1 x2 hns hts
      clear hX hcb hle
      obtain ⟨xk, xs, xd⟩ := X
      simp only at *
      go_upto_region 6 with fail
      have hR2 := hrw.out.step ((Below.refl _ wr).alloc (Nat.le_refl _) (.cells #[.string xk, .string xs, .bool xd] 139))
      have hC2 : Cel (wr.alloc (.cells #[.string xk, .string xs, .bool xd] 139)) wr.heap.size 139 [.string xk, .string xs, .bool xd] := (blk1 _ _).2
      have hOn : ∀ k, u3.ownBlock = some k → k < wr.heap.size := fun k hk => (hrw.out.r0.lt k hk).2
      generalize wr.alloc (.cells #[.string xk, .string xs, .bool xd] 139) = W2 at hR2 hC2 ⊢
      have HR2 := Lib.hid hR2
      have HNs := Lib.hid (show numsP r (j + 1) = numsP r j ++ [flag xd] from hns)
      have HTs := Lib.hid hts
      have HOn := Lib.hid hOn
      have z0 := hC2.cell (i := 0) rfl
      have z1 := hC2.cell (i := 1) rfl
      have z2 := hC2.cell (i := 2) rfl
      have HC2 := Lib.hid hC2
      clear hR2 hns hts hOn hC2 hrw x0 x1 x2
      generalize wr.heap.size = g5 at *
      go_wp2_with fail
      refine (HFb.out _ _).mono ?_
      rintro e w' ⟨rfl, rfl⟩
      generalize flag xd = fx at HNs ⊢
      go_upto_region 7 with (at_builtin; refine wpList_append_own_at _ rfl _ _ 38 rfl W1.heap.size 3 i1 (.int .i64 0) 1 8 Tryz.underlying38 hi' hz0' hz1' hz2' rfl (by decide) _ _ _ rfl (HR2.out.step ((Below.refl _ w').alloc (Nat.le_refl _) _)).r0 ⟨w'.heap.size, 0, none⟩ 1 1 [.int .i64 fx] rfl rfl (cell_one_new _ _ _) ?a2 ?a3 ?a4 (HR2.out.step ((Below.refl _ w').alloc (Nat.le_refl _) _)).le ?_)
      case a2 => first | rfl | (intro u hu; simp at hu; subst hu; rfl)
      case a3 => unfold maxLen; omega
      case a4 => omega
      intro v' w5 hown' hgrow _ hat
      have hR5 := PkRows.grow1 (ns' := numsP r (j + 1)) (HR2.out.step ((Below.refl _ w').alloc (Nat.le_refl _) (.cells #[.int .i64 fx] 3))) (by rw [HNs.out, intV_snoc]; exact hown') (by rw [HNs.out, List.length_append]; rfl) hgrow (by rcases hat with h | h; exact .inl h; exact .inr (by rw [h]; simp))
      have hC5 : Cel w5 g5 139 [.string xk, .string xs, .bool xd] :=
        (hgrow.block g5 (by have := HC2.out.lt; simp; omega) (fun e => absurd (HOn.out _ e.symm) (Nat.lt_irrefl _))).trans (HC2.out.below ((Below.refl _ w').alloc (Nat.le_refl _) _))
      have HR5 := Lib.hid hR5
      have y0 := hC5.cell (i := 0) rfl
      have y1 := hC5.cell (i := 1) rfl
      clear hown' hgrow hat hR5 hC5 HR2 HC2 z0 z1 z2 HOn
      go_wp2_with (at_builtin; refine wpList_append_own_at _ rfl _ _ 37 rfl W1.heap.size 9 i0 (.string ⟨#[]⟩) 1 16 Tryz.underlying37 hi hz0 hz1 hz2 rfl (by decide) _ _ _ rfl (HR5.out.step ((Below.refl _ w5).alloc (Nat.le_refl _) _)).r1 ⟨w5.heap.size, 0, none⟩ 2 2 [.string xk, .string xs] rfl rfl (new_row (heap_alloc_new _ _)) ?b2 ?b3 ?b4 (HR5.out.step ((Below.refl _ w5).alloc (Nat.le_refl _) _)).le ?_)
      case b2 => intro u hu; simp at hu; rcases hu with rfl | rfl <;> rfl
      case b3 => unfold maxLen; omega
      case b4 => omega
      intro v2 w6 hown' hgrow _ hat
      have HR6 := Lib.hid (PkRows.grow2 (ts' := textsP r (j + 1)) (HR5.out.step ((Below.refl _ w5).alloc (Nat.le_refl _) (.cells #[.string xk, .string xs] 9))) (by rw [HTs.out, Pk.strV_snoc2, Pk.strV_snoc2, List.append_assoc]; exact hown') (by rw [HTs.out]; simp) hgrow (by rcases hat with h | h; exact .inl h; exact .inr (by rw [h]; simp)))
      clear hown' hgrow hat HR5 y0 y1
      go_wp2_with fail
      go_roundw
      case rel => exact ⟨j + 1, by omega, by go_num, HR6.out⟩
      case measure => simp [intOf]; omega
    · obtain rfl : j = r.ws.length := by omega
      have h2 := hrw.out
      rw [numsP_all, textsP_all] at h2
      obtain ⟨A1, c1, rfl, f1, f2⟩ := Pk.own_form h2.r0
      obtain ⟨B1, d1, rfl, f3, f4⟩ := Pk.own_form h2.r1
      have F := Lib.hid (And.intro f1 (And.intro f2 (And.intro f3 f4)))
      have hlt0 : w.heap.size + 1 < W1.heap.size := HR.out.lt
      have hN0 : (Value.slice A1 (numsOf r).length c1).ownBlock ≠ some (w.heap.size + 1) := fun e => by have := (h2.r0.lt _ e).1; omega
      have hN1 : (Value.slice B1 (textsOf r).length d1).ownBlock ≠ some (w.heap.size + 1) := fun e => by have := (h2.r1.lt _ e).1; omega
      have o0 := ownsRow_setCell_other (a := ⟨w.heap.size + 1, 1, none⟩) (ownsRow_setCell_other (a := ⟨w.heap.size + 1, 0, none⟩) h2.r0 hN0 (.slice A1 (numsOf r).length c1)) hN0 (.slice B1 (textsOf r).length d1)
      have o1 := ownsRow_setCell_other (a := ⟨w.heap.size + 1, 1, none⟩) (ownsRow_setCell_other (a := ⟨w.heap.size + 1, 0, none⟩) h2.r1 hN1 (.slice A1 (numsOf r).length c1)) hN1 (.slice B1 (textsOf r).length d1)
      have hRc := HR.out.below h2.bel
      have hF := (hRc.set (i := 0) (v := .slice A1 (numsOf r).length c1)).set (i := 1) (v := .slice B1 (textsOf r).length d1)
      have hBl : Below w.heap.size w ((wr.setCell ⟨w.heap.size + 1, 0, none⟩ (.slice A1 (numsOf r).length c1)).setCell ⟨w.heap.size + 1, 1, none⟩ (.slice B1 (textsOf r).length d1)) :=
        ((HE.out.bel.trans (h2.bel.mono HE.out.bel.size)).setCell (p := ⟨w.heap.size + 1, 0, none⟩) (by show w.heap.size ≤ w.heap.size + 1; omega) (.slice A1 (numsOf r).length c1)).setCell (p := ⟨w.heap.size + 1, 1, none⟩) (by show w.heap.size ≤ w.heap.size + 1; omega) (.slice B1 (textsOf r).length d1)
      have hI1 := ints_of_slice o0
      have hS1 := strs_of_slice o1
      have kq := fun i => hRc.free (i := i)
      have kq0 := hRc.cell (i := 0) rfl
      have kq1 := hRc.cell (i := 1) rfl
      have z0 := hF.cell (i := 0) rfl
      have z1 := hF.cell (i := 1) rfl
      have HBl := Lib.hid hBl
      have HI1 := Lib.hid hI1
      have HS1 := Lib.hid hS1
      clear hrw h2 hN0 hN1 o0 o1 hRc hF hBl hI1 hS1 f1 f2 f3 f4
      go_wp2_with fail
      exact bodyPost_ret (v := Pk.packV A1 B1 c1 d1 (numsOf r) (textsOf r)) (by simp [results, Tryz.results44, go_sem, Pk.packV, z0, z1]) rfl ⟨A1, B1, c1, d1, rfl, HI1.out, HS1.out, F.out.1, F.out.2.2.1, F.out.2.1, F.out.2.2.2, HBl.out⟩

end Rc
end Go.Proofs.YtjehjbkcdpidbaaGreat

/- What is asked of the landed package pack; the example, whether packs are the same, and the laws Reads and Numbers over it. -/
namespace Go.Proofs.YtjehjbkcdpidbaaGreat
namespace Pk
open Go.RowKit Bk

attribute [local go_sem ↓] Go.wp_at_zero Go.wp_at_succ
attribute [local go_sem] floatUpon pick

/-- what a pack as an argument is -/
structure ArgOk (c d : Nat) (ns : List Int) (ts : List ByteArray) : Prop where
  n8 : ns.length * 8 ≤ 140737488351232
  t16 : ts.length * 16 ≤ 140737488351232
  nr : ∀ n ∈ ns, -9223372036854775808 ≤ n ∧ n ≤ 9223372036854775807
  tr : ∀ t ∈ ts, t.size ≤ 140737488351232
  nc : ns.length ≤ c
  tc : ts.length ≤ d
  c63 : c ≤ maxLen
  d63 : d ≤ maxLen

theorem ArgOk.range {c d : Nat} {ns : List Int} {ts : List ByteArray} (h : ArgOk c d ns ts) : InRange ns ts :=
  ⟨by have := h.n8; omega, by have := h.t16; omega, h.nr, fun t ht => by have := h.tr t ht; omega⟩

/-- what is asked of pack.Check -/
def CheckAll : Prop := ∀ (A B : Option Addr) (c d : Nat) (ns : List Int) (ts : List ByteArray) (w : World), IntsAt w A ns → StrsAt w B ts → ArgOk c d ns ts →
  Calls Tryz.prog 80 #[packV A B c d ns ts] w fun e w' => e = .returned (.int .i64 (ckE ns ts : Int)) ∧ Below w.heap.size w w'

/-- what is asked of pack.Encode -/
def EncodeAll : Prop := ∀ (A B : Option Addr) (c d : Nat) (ns : List Int) (ts : List ByteArray) (w : World), IntsAt w A ns → StrsAt w B ts → ArgOk c d ns ts →
  Calls Tryz.prog 43 #[packV A B c d ns ts] w fun e w' => e = .returned (encV ns ts) ∧ Below w.heap.size w w'

/-- what the landed Decode answers: as the document's, and the lists fit their slices -/
def DecAns2 (s : ByteArray) (w : World) : Ending → World → Prop := fun e w' =>
  ∃ (A B : Option Addr) (c d : Nat), e = .returned (.tuple #[packV A B c d (decR s).1 (decR s).2.1, .int .i64 ((decR s).2.2.1 : Int), .int .i64 ((decR s).2.2.2 : Int)]) ∧ IntsAt w' A (decR s).1 ∧ StrsAt w' B (decR s).2.1 ∧ Below w.heap.size w w' ∧
    (decR s).1.length ≤ c ∧ (decR s).2.1.length ≤ d ∧ c ≤ maxLen ∧ d ≤ maxLen

/-- what is asked of pack.Decode -/
def DecodeAll : Prop := ∀ (s : ByteArray) (w : World), s.size ≤ 1000000000000000 → Calls Tryz.prog 55 #[.string s] w (DecAns2 s w)

theorem example_bytes : bytesL [1, -1, 300] [⟨#[97, 98]⟩] = [3, 2, 1, 216, 4, 1, 2, 97, 98] := by
  have h1 : plain 3 = [3] := plain_small (by omega)
  have h2 : signed 1 = [2] := plain_small (by show zig 1 < 128; decide)
  have h3 : signed (-1) = [1] := plain_small (by show zig (-1) < 128; decide)
  have h4 : signed 300 = [216, 4] := by
    show plain 600 = _
    rw [plain_big (by omega), plain_small (by omega)]; rfl
  have h5 : plain 1 = [1] := plain_small (by omega)
  have h6 : plain 2 = [2] := plain_small (by omega)
  show plain 3 ++ ((signed 1 ++ (signed (-1) ++ (signed 300 ++ []))) ++ (plain 1 ++ ((plain 2 ++ [97, 98]) ++ []))) = _
  rw [h1, h2, h3, h4, h5, h6]; rfl

theorem example_maybe : MayBe [1, -1, 300] [⟨#[97, 98]⟩] := ⟨by decide, by decide, by decide, by
  intro t ht
  rw [List.mem_singleton] at ht
  subst ht; decide⟩

/-- how long the lists of a decoding are -/
theorem decR_len (s : ByteArray) : (decR s).1.length ≤ 1024 ∧ (decR s).2.1.length ≤ 1024 := by
  unfold decR
  cases h : decL s.data.toList with
  | error e => exact ⟨by simp, by simp⟩
  | ok x =>
    obtain ⟨ns, ts⟩ := x
    have := (decL_ok h).1
    exact ⟨this.1, this.2.1⟩

theorem numV_ok {z : Int} (h : numOk z) : numV z = .tuple #[.string ⟨(signed z).toArray⟩, .int .i64 0] := by unfold numV; rw [if_pos h]

theorem half_ok {a : Int} (h : -9223372036854775808 ≤ a ∧ a ≤ 9223372036854775807) : numOk (a / 2) := by
  unfold numOk; omega

end Pk
end Go.Proofs.YtjehjbkcdpidbaaGreat

/- What the landed package writes of numbers: write, fold, isNumber, Number; contracts; no condition but the range. -/
namespace Go.Proofs.YtjehjbkcdpidbaaGreat
namespace Pk
open Go.RowKit Bk

attribute [local go_sem ↓] Go.wp_at_zero Go.wp_at_succ
attribute [local go_sem] floatUpon pick

theorem u64_wrap {x : Int} (h0 : 0 ≤ x) (h1 : x ≤ 18446744073709551615) : IntKind.u64.wrap x = x := by
  simp only [IntKind.wrap, IntKind.bits, IntKind.signed]; simp; omega

set_option maxRecDepth 20000 in
set_option maxHeartbeats 1000000 in
theorem writeInt_any (b n : Nat) (L : List UInt8) (w : World) (h : Bld b L w) (hn : n ≤ 9223372036854775807) (hL : L.length ≤ 1000000000000) :
    Calls Tryz.prog 81 #[.pointer (some ⟨b, 0, none⟩), .int .i64 (n : Int)] w fun e w' => e = .returned (.tuple #[]) ∧ Bld b (L ++ plain n) w' ∧ Below b w w' := by
  have H := Lib.hid h
  clear h
  go_enter Tryz.func81, Tryz.ntmps81
  go_wp2_with fail
  go_loopw [1] (fun c wr => ∃ (m : Nat) (O : List UInt8), m ≤ n ∧ Hid (plain n = O ++ plain m) ∧ c = .int .i64 (m : Int) ∧ Hid (Bld b (L ++ O) wr) ∧ Hid (Below b w wr)) (fun c _ => (intOf c).toNat)
  case atStart => exact ⟨n, [], Nat.le_refl _, rfl, rfl, by rw [List.append_nil]; exact H.out, Below.refl _ _⟩
  case round =>
    obtain ⟨m, O, hmn, hpl, rfl, hB, hbel⟩ := hrel
    have hOl : O.length ≤ 8 := by
      have h1 := plain_len 9 n (by show n < 9223372036854775808; omega) (by omega)
      have h2 := plain_pos m
      rw [hpl.out, List.length_append] at h1
      omega
    have hlen : (L ++ O).length + 1 ≤ 140737488355328 := by rw [List.length_append]; omega
    by_cases hlt : 128 ≤ m
    · have pm : (128 : Int) ≤ (m : Int) := by omega
      have hmod : (m : Int).tmod 128 = ((m % 128 : Nat) : Int) := by rw [Int.tmod_eq_emod_of_nonneg (by omega)]; omega
      have hdiv : (m : Int).tdiv 128 = ((m / 128 : Nat) : Int) := by rw [Int.tdiv_eq_ediv_of_nonneg (by omega)]; omega
      have hp2 : plain n = (O ++ [UInt8.ofNat (m % 128 + 128)]) ++ plain (m / 128) := by rw [hpl.out, plain_big hlt, List.append_assoc]; rfl
      have hx : m % 128 < 128 := by omega
      have hy : m / 128 + 1 ≤ m := by omega
      have hc1 := bld_byte (m % 128 + 128) hB.out (by omega) hlen
      rw [Int.natCast_add] at hc1
      generalize hxe : m % 128 = x at hmod hc1 hx hp2
      generalize hye : m / 128 = y at hdiv hy hp2
      have hxi : (x : Int) < 128 := by omega
      have hcv : IntKind.u8.wrap (x : Int) = (x : Int) := u8_wrap (by omega) (by omega)
      have hcv2 : IntKind.u8.wrap ((x : Int) + 128) = (x : Int) + 128 := u8_wrap (by omega) (by omega)
      have HC := Lib.hid hc1
      have HP := Lib.hid hp2
      clear hc1 hp2 hxe hye hpl hB hlen hOl
      go_wp2_with fail
      refine HC.out.mono ?_
      rintro e w2 ⟨rfl, h2, hb⟩
      have HB2 := Lib.hid h2
      have HL2 := Lib.hid (hbel.out.trans hb)
      clear h2 hb hbel HC
      go_wp2_with fail
      go_roundw
      case rel => exact ⟨y, O ++ [UInt8.ofNat (x + 128)], by omega, HP.out, rfl, by rw [← List.append_assoc]; exact HB2.out, HL2.out⟩
      case measure => simp [intOf]; omega
    · have pm : (m : Int) < 128 := by omega
      have hcv : IntKind.u8.wrap (m : Int) = (m : Int) := u8_wrap (by omega) (by omega)
      have hp2 : plain n = O ++ [UInt8.ofNat m] := by rw [hpl.out, plain_small (by omega)]
      have HC := Lib.hid (bld_byte m hB.out (by omega) hlen)
      have HP := Lib.hid hp2
      clear hp2 hpl hB hlen hOl
      go_wp2_with fail
      refine HC.out.mono ?_
      rintro e w2 ⟨rfl, h2, hb⟩
      have HB2 := Lib.hid h2
      have HL2 := Lib.hid (hbel.out.trans hb)
      clear h2 hb hbel HC
      go_wp2_with fail
      go_end0
      exact ⟨rfl, by rw [HP.out, ← List.append_assoc]; exact HB2.out, HL2.out⟩

set_option maxRecDepth 20000 in
set_option maxHeartbeats 1000000 in
theorem writeFolded_any (b n : Nat) (L : List UInt8) (w : World) (h : Bld b L w) (hn : n < 9223372036854775808) (hL : L.length ≤ 1000000000000) :
    Calls Tryz.prog 82 #[.pointer (some ⟨b, 0, none⟩), .int .u64 (n : Int)] w fun e w' => e = .returned (.tuple #[]) ∧ Bld b (L ++ plain n) w' ∧ Below b w w' := by
  have H := Lib.hid h
  clear h
  go_enter Tryz.func82, Tryz.ntmps82
  go_wp2_with fail
  go_loopw [1] (fun c wr => ∃ (m : Nat) (O : List UInt8), m ≤ n ∧ Hid (plain n = O ++ plain m) ∧ c = .int .u64 (m : Int) ∧ Hid (Bld b (L ++ O) wr) ∧ Hid (Below b w wr)) (fun c _ => (intOf c).toNat)
  case atStart => exact ⟨n, [], Nat.le_refl _, rfl, rfl, by rw [List.append_nil]; exact H.out, Below.refl _ _⟩
  case round =>
    obtain ⟨m, O, hmn, hpl, rfl, hB, hbel⟩ := hrel
    have hOl : O.length ≤ 8 := by
      have h1 := plain_len 9 n (by show n < 9223372036854775808; omega) (by omega)
      have h2 := plain_pos m
      rw [hpl.out, List.length_append] at h1
      omega
    have hlen : (L ++ O).length + 1 ≤ 140737488355328 := by rw [List.length_append]; omega
    by_cases hlt : 128 ≤ m
    · have pm : (128 : Int) ≤ (m : Int) := by omega
      have hmod : (m : Int).tmod 128 = ((m % 128 : Nat) : Int) := by rw [Int.tmod_eq_emod_of_nonneg (by omega)]; omega
      have hdiv : (m : Int).tdiv 128 = ((m / 128 : Nat) : Int) := by rw [Int.tdiv_eq_ediv_of_nonneg (by omega)]; omega
      have hp2 : plain n = (O ++ [UInt8.ofNat (m % 128 + 128)]) ++ plain (m / 128) := by rw [hpl.out, plain_big hlt, List.append_assoc]; rfl
      have hx : m % 128 < 128 := by omega
      have hy : m / 128 + 1 ≤ m := by omega
      have hc1 := bld_byte (m % 128 + 128) hB.out (by omega) hlen
      rw [Int.natCast_add] at hc1
      generalize hxe : m % 128 = x at hmod hc1 hx hp2
      generalize hye : m / 128 = y at hdiv hy hp2
      have hxi : (x : Int) < 128 := by omega
      have hcv : IntKind.u8.wrap (x : Int) = (x : Int) := u8_wrap (by omega) (by omega)
      have hcv2 : IntKind.u8.wrap ((x : Int) + 128) = (x : Int) + 128 := u8_wrap (by omega) (by omega)
      have HC := Lib.hid hc1
      have HP := Lib.hid hp2
      clear hc1 hp2 hxe hye hpl hB hlen hOl
      go_wp2_with fail
      refine HC.out.mono ?_
      rintro e w2 ⟨rfl, h2, hb⟩
      have HB2 := Lib.hid h2
      have HL2 := Lib.hid (hbel.out.trans hb)
      clear h2 hb hbel HC
      go_wp2_with fail
      go_roundw
      case rel => exact ⟨y, O ++ [UInt8.ofNat (x + 128)], by omega, HP.out, rfl, by rw [← List.append_assoc]; exact HB2.out, HL2.out⟩
      case measure => simp [intOf]; omega
    · have pm : (m : Int) < 128 := by omega
      have hcv : IntKind.u8.wrap (m : Int) = (m : Int) := u8_wrap (by omega) (by omega)
      have hp2 : plain n = O ++ [UInt8.ofNat m] := by rw [hpl.out, plain_small (by omega)]
      have HC := Lib.hid (bld_byte m hB.out (by omega) hlen)
      have HP := Lib.hid hp2
      clear hp2 hpl hB hlen hOl
      go_wp2_with fail
      refine HC.out.mono ?_
      rintro e w2 ⟨rfl, h2, hb⟩
      have HB2 := Lib.hid h2
      have HL2 := Lib.hid (hbel.out.trans hb)
      clear h2 hb hbel HC
      go_wp2_with fail
      go_end0
      exact ⟨rfl, by rw [HP.out, ← List.append_assoc]; exact HB2.out, HL2.out⟩

set_option maxRecDepth 20000 in
set_option maxHeartbeats 1000000 in
theorem fold_any (z : Int) (w : World) (hz : numOk z) :
    Calls Tryz.prog 83 #[.int .i64 z] w fun e w' => e = .returned (.int .u64 ((zig z : Nat) : Int)) ∧ w' = w := by
  obtain ⟨z1, z2⟩ := hz
  by_cases h0 : z < 0
  · have E := Lib.hid (show ((zig z : Nat) : Int) = 2 * -z - 1 by unfold zig; rw [if_pos h0]; omega)
    have c1 : IntKind.u64.wrap (-z) = -z := u64_wrap (by omega) (by omega)
    have c2 : IntKind.u64.wrap (2 * -z) = 2 * -z := u64_wrap (by omega) (by omega)
    have c3 : IntKind.u64.wrap (2 * -z - 1) = 2 * -z - 1 := u64_wrap (by omega) (by omega)
    go_enter Tryz.func83, Tryz.ntmps83
    go_wp2_with fail
    go_ret
    exact ⟨by rw [E.out]; rfl, rfl⟩
  · have hp : 0 ≤ z := by omega
    have E := Lib.hid (show ((zig z : Nat) : Int) = 2 * z by unfold zig; rw [if_neg h0]; omega)
    have c1 : IntKind.u64.wrap z = z := u64_wrap (by omega) (by omega)
    have c2 : IntKind.u64.wrap (2 * z) = 2 * z := u64_wrap (by omega) (by omega)
    clear h0
    go_enter Tryz.func83, Tryz.ntmps83
    go_wp2_with fail
    go_ret
    exact ⟨by rw [E.out]; rfl, rfl⟩

set_option maxRecDepth 20000 in
set_option maxHeartbeats 1000000 in
theorem isNumber_any (z : Int) (w : World) (_hz : -9223372036854775808 ≤ z ∧ z ≤ 9223372036854775807) :
    Calls Tryz.prog 117 #[.int .i64 z] w fun e w' => e = .returned (.bool (decide (numOk z))) ∧ w' = w := by
  by_cases h : numOk z
  · have E := Lib.hid (show decide (numOk z) = true by simpa using h)
    obtain ⟨h1, h2⟩ := h
    go_enter Tryz.func117, Tryz.ntmps117
    go_wp2_with fail
    go_ret
    exact ⟨by rw [E.out]; rfl, rfl⟩
  · have E := Lib.hid (show decide (numOk z) = false by simpa using h)
    by_cases h1 : -4611686018427387904 ≤ z
    · have h2 : 4611686018427387903 < z := by
        by_cases h2 : z ≤ 4611686018427387903
        · exact absurd ⟨h1, h2⟩ h
        · omega
      have H3 := Lib.hid (show decide (z ≤ 4611686018427387903) = false by rw [decide_eq_false_iff_not]; omega)
      clear h
      go_enter Tryz.func117, Tryz.ntmps117
      go_wp2_with fail
      go_ret
      exact ⟨by rw [E.out, ← H3.out]; rfl, rfl⟩
    · have h2 : z < -4611686018427387904 := by omega
      clear h h1
      go_enter Tryz.func117, Tryz.ntmps117
      go_wp2_with fail
      go_ret
      exact ⟨by rw [E.out]; rfl, rfl⟩

theorem numV_bad {z : Int} (h : ¬ numOk z) : numV z = .tuple #[.string ⟨#[]⟩, .int .i64 1] := by unfold numV; rw [if_neg h]

end Pk
end Go.Proofs.YtjehjbkcdpidbaaGreat

/- What the landed package's Check and Encode answer; contracts; no condition but the range. -/
namespace Go.Proofs.YtjehjbkcdpidbaaGreat
namespace Pk
open Go.RowKit Bk

attribute [local go_sem ↓] Go.wp_at_zero Go.wp_at_succ
attribute [local go_sem] floatUpon pick

set_option maxRecDepth 20000 in
set_option maxHeartbeats 1000000 in
theorem checkAll : CheckAll := by
  intro A B c d ns ts w ha hb hArg
  have hr := hArg.range
  obtain ⟨hn, ht, hnr, htr⟩ := hr
  clear hArg
  unfold packV
  have hbel : Below w.heap.size w (w.alloc (.cells #[.slice A ns.length c, .slice B ts.length d] 88)) := (Below.refl _ w).alloc (Nat.le_refl _) _
  have HBl := Lib.hid hbel
  by_cases hlong : 1024 < ns.length ∨ 1024 < ts.length
  · have E := Lib.hid (ckE_long hlong)
    clear hbel ha hb hnr htr
    by_cases h1 : 1024 < ns.length
    · have p1 : (1024 : Int) < (ns.length : Int) := by omega
      clear hlong
      go_enter Tryz.func80, Tryz.ntmps80
      go_wp2_with fail
      go_ret
      exact ⟨by rw [E.out]; rfl, HBl.out⟩
    · have p1 : (ns.length : Int) ≤ 1024 := by omega
      have p2 : (1024 : Int) < (ts.length : Int) := by omega
      clear hlong
      go_enter Tryz.func80, Tryz.ntmps80
      go_wp2_with fail
      go_ret
      exact ⟨by rw [E.out]; rfl, HBl.out⟩
  · have p1 : (ns.length : Int) ≤ 1024 := by omega
    have p2 : (ts.length : Int) ≤ 1024 := by omega
    have hblk := (blk1 w (.cells #[.slice A ns.length c, .slice B ts.length d] 88)).2
    have c0 : (w.alloc (.cells #[.slice A ns.length c, .slice B ts.length d] 88)).cell? ⟨w.heap.size, 0, none⟩ = some (.slice A ns.length c) := blk_cell hblk rfl
    have c1 : (w.alloc (.cells #[.slice A ns.length c, .slice B ts.length d] 88)).cell? ⟨w.heap.size, 1, none⟩ = some (.slice B ts.length d) := blk_cell hblk rfl
    have HA := Lib.hid (ha.alloc (.cells #[.slice A ns.length c, .slice B ts.length d] 88))
    have HB := Lib.hid (hb.alloc (.cells #[.slice A ns.length c, .slice B ts.length d] 88))
    have HNR := Lib.hid hnr
    have HTR := Lib.hid htr
    have HL := Lib.hid hlong
    clear hbel hlong hblk ha hb hnr htr
    go_enter Tryz.func80, Tryz.ntmps80
    go_upto_region 3 with fail
    generalize w.alloc (.cells #[.slice A ns.length c, .slice B ts.length d] 88) = W1 at *
    go_wp2_with fail
    go_loopw [20] (fun i wr => ∃ j : Nat, j ≤ ns.length ∧ i = .int .i64 (j : Int) ∧ Hid (∀ n ∈ ns.take j, numOk n) ∧ wr = W1) (fun i _ => ns.length - (intOf i).toNat)
    case atStart => exact ⟨0, by omega, rfl, fun n hn => absurd hn (by simp), rfl⟩
    case round =>
      obtain ⟨j, hj, rfl, hall, rfl⟩ := hrel
      by_cases hlt : j < ns.length
      · have pj : (j : Int) < (ns.length : Int) := by omega
        obtain ⟨ad, rfl, hab, hcl⟩ := HA.out (by omega)
        have x1 := hcl j hlt
        have hmem : ns[j] ∈ ns := List.getElem_mem hlt
        have HN := Lib.hid (fun W => isNumber_any ns[j] W (HNR.out _ hmem))
        by_cases hz : numOk ns[j]
        · have hall2 := mem_take_succ hlt hall.out hz
          have HA2 := Lib.hid hall2
          rw [show decide (numOk ns[j]) = true by simpa using hz] at HN
          generalize ns[j] = z at x1 HN
          clear hcl hmem hz hall2 hall
          go_wp2_with fail
          refine (HN.out _).mono ?_
          rintro e w' ⟨rfl, rfl⟩
          go_wp2_with fail
          go_roundw
          case rel => exact ⟨j + 1, by omega, by go_num, HA2.out, trivial⟩
          case measure => simp [intOf]; omega
        · have E := Lib.hid (ckE_num HL.out hmem hz)
          rw [show decide (numOk ns[j]) = false by simpa using hz] at HN
          generalize ns[j] = z at x1 HN
          clear hcl hmem hz hall
          go_wp2_with fail
          refine (HN.out _).mono ?_
          rintro e w' ⟨rfl, rfl⟩
          go_wp2_with fail
          go_ret
          exact ⟨by rw [E.out]; rfl, HBl.out⟩
      · obtain rfl : j = ns.length := by omega
        have hall2 := hall.out
        rw [List.take_length] at hall2
        have HAll := Lib.hid hall2
        clear hall hall2
        go_wp2_with fail
        obtain ⟨wo, rfl⟩ : ∃ wo : World, wo = wr := ⟨_, rfl⟩
        go_loopw [31] (fun i wr => ∃ j : Nat, j ≤ ts.length ∧ i = .int .i64 (j : Int) ∧ Hid (∀ t ∈ ts.take j, t.size ≤ 4096) ∧ wr = wo) (fun i _ => ts.length - (intOf i).toNat)
        case atStart => exact ⟨0, by omega, rfl, fun n hn => absurd hn (by simp), rfl⟩
        case round =>
          obtain ⟨j, hj, rfl, hall, rfl⟩ := hrel
          by_cases hlt : j < ts.length
          · have pj : (j : Int) < (ts.length : Int) := by omega
            obtain ⟨bd, rfl, hbb, hcl⟩ := HB.out (by omega)
            have x1 := hcl j hlt
            have hmem : ts[j] ∈ ts := List.getElem_mem hlt
            by_cases hz : ts[j].size ≤ 4096
            · have hall2 := mem_take_succ hlt hall.out hz
              have HA2 := Lib.hid hall2
              have hz' : (ts[j].size : Int) ≤ 4096 := by omega
              generalize ts[j] = z at x1 hz'
              clear hcl hmem hz hall2 hall
              go_wp2_with fail
              go_roundw
              case rel => exact ⟨j + 1, by omega, by go_num, HA2.out, trivial⟩
              case measure => simp [intOf]; omega
            · have E := Lib.hid (ckE_text HL.out HAll.out hmem (by omega))
              have hz' : (4096 : Int) < (ts[j].size : Int) := by omega
              generalize ts[j] = z at x1 hz'
              clear hcl hmem hz hall
              go_wp2_with fail
              go_ret
              exact ⟨by rw [E.out]; rfl, HBl.out⟩
          · obtain rfl : j = ts.length := by omega
            have hall2 := hall.out
            rw [List.take_length] at hall2
            have E := Lib.hid (ckE_ok HL.out HAll.out hall2)
            clear hall hall2
            go_wp2_with fail
            go_ret
            exact ⟨by rw [E.out]; rfl, HBl.out⟩

set_option maxRecDepth 20000 in
set_option maxHeartbeats 1000000 in
theorem encodeAll : EncodeAll := by
  intro A B c d ns ts w ha hb hArg
  have HC := Lib.hid (fun W (hbl : Below w.heap.size w W) => checkAll A B c d ns ts W (ha.below hbl) (hb.below hbl) hArg)
  have hle := ckE_le ns ts
  have HE := Lib.hid (PkEnv.start (c := c) (d := d) ha hb)
  by_cases hm : ckE ns ts = 0
  · have hmb := ckE_zero.1 hm
    have E := Lib.hid (encV_ok hmb)
    have HM := Lib.hid hmb
    have p1 : (ns.length : Int) ≤ 1024 := by have := hmb.1; omega
    have p2 : (ts.length : Int) ≤ 1024 := by have := hmb.2.1; omega
    rw [hm] at HC
    unfold packV at HC ⊢
    clear ha hb hArg hm hle hmb
    go_enter Tryz.func43, Tryz.ntmps43
    go_wp2_with fail
    refine (HC.out _ ((Below.refl _ w).alloc (Nat.le_refl _) _)).mono ?_
    rintro e w1 ⟨rfl, hb⟩
    have HE1 := Lib.hid (HE.out.step hb)
    clear hb HC HE
    go_upto_region 5 with fail
    have hbn := Bld.new w1
    have hbw : Below w1.heap.size w1 (w1.alloc (.cells #[.pointer none, .slice none 0 0] 127)) := (Below.refl _ _).alloc (Nat.le_refl _) _
    have HW1 := Lib.hid (fun W (h : Bld w1.heap.size [] W) => writeInt_any w1.heap.size ns.length [] W h (by omega) (by simp))
    have HB2 := Lib.hid hbn
    have HL2 := Lib.hid hbw
    have HE2 := Lib.hid (HE1.out.step hbw)
    clear hbn hbw
    generalize w1.alloc (.cells #[.pointer none, .slice none 0 0] 127) = W2 at *
    generalize hbb : w1.heap.size = b at *
    have c0 := HE2.out.c0
    go_wp2_with fail
    refine (HW1.out _ HB2.out).mono ?_
    rintro e w3 ⟨rfl, h3, hb⟩
    have HB3 := Lib.hid h3
    have HL3 := Lib.hid (HL2.out.trans hb)
    have HE3 := Lib.hid (HE1.out.step (by rw [hbb]; exact HL2.out.trans hb))
    clear h3 hb HW1 HB2 HL2 HE2 c0
    have c0 := HE3.out.c0
    go_wp2_with fail
    go_loopw [22] (fun i wr => ∃ j : Nat, j ≤ ns.length ∧ i = .int .i64 (j : Int) ∧ Hid (Bld b (plain ns.length ++ numsL (ns.take j)) wr) ∧ Hid (Below b w1 wr)) (fun i _ => ns.length - (intOf i).toNat)
    case atStart => exact ⟨0, by omega, rfl, by rw [List.take_zero]; simp only [numsL, List.flatMap_nil, List.append_nil]; exact HB3.out, HL3.out⟩
    case round =>
      obtain ⟨j, hj, rfl, hB, hL⟩ := hrel
      have hE := Lib.hid (HE1.out.step (by rw [hbb]; exact hL.out))
      clear HE3 HB3 HL3 c0
      by_cases hlt : j < ns.length
      · have pj : (j : Int) < (ns.length : Int) := by omega
        obtain ⟨ad, rfl, hab, hcl⟩ := hE.out.1 (by omega)
        have x1 := hcl j hlt
        have hz := HM.out.2.2.1 _ (List.getElem_mem hlt)
        have HF := Lib.hid (fun W => fold_any ns[j] W hz)
        have HW := Lib.hid (writeFolded_any b (zig ns[j]) (plain ns.length ++ numsL (ns.take j)) _ hB.out (zig_lt hz) (by have := (bytesL_at HM.out j 0).1; omega))
        have hsc : (plain ns.length ++ numsL (ns.take j)) ++ plain (zig ns[j]) = plain ns.length ++ numsL (ns.take (j + 1)) := by
          rw [numsL_succ hlt, List.append_assoc]; rfl
        rw [hsc] at HW
        generalize ns[j] = z at x1 HF HW
        clear hcl hz hsc hB hab
        go_wp2_with fail
        refine (HF.out _).mono ?_
        rintro e w4 ⟨rfl, rfl⟩
        go_wp2_with fail
        refine HW.out.mono ?_
        rintro e w5 ⟨rfl, h5, hb⟩
        have HB5 := Lib.hid h5
        have HL5 := Lib.hid (hL.out.trans hb)
        clear h5 hb hL HW HF
        go_wp2_with fail
        go_roundw
        case rel => exact ⟨j + 1, by omega, by go_num, HB5.out, HL5.out⟩
        case measure => simp [intOf]; omega
      · obtain rfl : j = ns.length := by omega
        rw [List.take_length] at hB
        have c1 := hE.out.c1
        have HW := Lib.hid (writeInt_any b ts.length (plain ns.length ++ numsL ns) _ hB.out (by omega) (by have := (bytesL_at HM.out ns.length 0).1; rw [List.take_length] at this; omega))
        clear hB
        go_wp2_with fail
        refine HW.out.mono ?_
        rintro e w3 ⟨rfl, h3, hb⟩
        have HB3 := Lib.hid h3
        have HL3 := Lib.hid (hL.out.trans hb)
        have HE3 := Lib.hid (HE1.out.step (by rw [hbb]; exact hL.out.trans hb))
        clear h3 hb HW hE hL c1
        have c1 := HE3.out.c1
        go_wp2_with fail
        go_loopw [37] (fun i wr => ∃ j : Nat, j ≤ ts.length ∧ i = .int .i64 (j : Int) ∧ Hid (Bld b (plain ns.length ++ (numsL ns ++ (plain ts.length ++ textsL (ts.take j)))) wr) ∧ Hid (Below b w1 wr)) (fun i _ => ts.length - (intOf i).toNat)
        case atStart =>
          refine ⟨0, by omega, rfl, ?_, HL3.out⟩
          have := HB3.out
          rw [List.append_assoc] at this
          rw [List.take_zero]
          simp only [textsL, List.flatMap_nil, List.append_nil]
          exact this
        case round =>
          obtain ⟨j, hj, rfl, hB, hL⟩ := hrel
          have hE := Lib.hid (HE1.out.step (by rw [hbb]; exact hL.out))
          clear HE3 HB3 HL3 c1
          by_cases hlt : j < ts.length
          · have pj : (j : Int) < (ts.length : Int) := by omega
            obtain ⟨ad, rfl, hab, hcl⟩ := hE.out.2.1 (by omega)
            have x1 := hcl j hlt
            have hz := HM.out.2.2.2 _ (List.getElem_mem hlt)
            have hsc : ((plain ns.length ++ (numsL ns ++ (plain ts.length ++ textsL (ts.take j)))) ++ plain ts[j].size) ++ ts[j].data.toList = plain ns.length ++ (numsL ns ++ (plain ts.length ++ textsL (ts.take (j + 1)))) := by
              rw [textsL_succ hlt]; unfold textL; simp only [List.append_assoc]
            have hlen := (bytesL_at HM.out ns.length j).2
            have hpl := plain_len 9 ts[j].size (by show _ < 9223372036854775808; omega) (by omega)
            have HW := Lib.hid (writeInt_any b ts[j].size (plain ns.length ++ (numsL ns ++ (plain ts.length ++ textsL (ts.take j)))) _ hB.out (by omega) (by omega))
            have HS := Lib.hid (fun W (h : Bld b ((plain ns.length ++ (numsL ns ++ (plain ts.length ++ textsL (ts.take j)))) ++ plain ts[j].size) W) => bld_string ts[j] h (by rw [List.length_append]; omega))
            rw [hsc] at HS
            generalize ts[j] = z at x1 HW HS
            clear hcl hz hsc hB hab hlen hpl
            go_wp2_with fail
            refine HW.out.mono ?_
            rintro e w4 ⟨rfl, h4, hb⟩
            have HSS := Lib.hid (HS.out _ h4)
            have HL4 := Lib.hid (hL.out.trans hb)
            clear h4 hb hL HW HS hE
            go_wp2_with fail
            refine HSS.out.mono ?_
            rintro e w5 ⟨rfl, h5, hb⟩
            have HB5 := Lib.hid h5
            have HL5 := Lib.hid (HL4.out.trans hb)
            clear h5 hb HL4 HSS
            go_wp2_with fail
            go_roundw
            case rel => exact ⟨j + 1, by omega, by go_num, HB5.out, HL5.out⟩
            case measure => simp [intOf]; omega
          · obtain rfl : j = ts.length := by omega
            rw [List.take_length] at hB
            have HT := Lib.hid (bld_text hB.out)
            have HW0 := Lib.hid HE1.out.2.2.2
            clear hB hE
            go_wp2_with fail
            refine HT.out.mono ?_
            rintro e w6 ⟨rfl, -, hb⟩
            have HB6 := Lib.hid (HW0.out.trans ((hL.out.trans hb).mono (by rw [← hbb]; exact HW0.out.size)))
            clear hb hL HT
            go_wp2_with fail
            go_ret2
            exact ⟨by rw [E.out]; rfl, HB6.out⟩
  · have E := Lib.hid (encV_bad hm)
    have hne : (((ckE ns ts : Nat) : Int) != 0) = true := by simp; omega
    generalize ckE ns ts = C at *
    unfold packV at HC ⊢
    clear ha hb hArg hm hle
    go_enter Tryz.func43, Tryz.ntmps43
    go_wp2_with fail
    refine (HC.out _ ((Below.refl _ w).alloc (Nat.le_refl _) _)).mono ?_
    rintro e w1 ⟨rfl, hb⟩
    have HB1 := Lib.hid (below_new hb)
    clear hb HC
    go_wp2_with fail
    go_ret2
    exact ⟨by rw [E.out]; rfl, HB1.out⟩

end Pk
end Go.Proofs.YtjehjbkcdpidbaaGreat

/- What the landed package reads: read, readUpTo, unfold, readSigned, readText; contracts; no condition but the range. -/
namespace Go.Proofs.YtjehjbkcdpidbaaGreat
namespace Pk
open Go.RowKit Bk

attribute [local go_sem ↓] Go.wp_at_zero Go.wp_at_succ
attribute [local go_sem] floatUpon pick

/-- what read of a folded number answers -/
def readVF (s : ByteArray) (a : Nat) : Value :=
  match readR (s.data.toList.drop a) with
  | .ok n u => .tuple #[.int .u64 (n : Int), .int .i64 ((a + u : Nat) : Int), .int .i64 0]
  | .fin => .tuple #[.int .u64 0, .int .i64 (s.size : Int), .int .i64 50]
  | .form => .tuple #[.int .u64 0, .int .i64 (a : Int), .int .i64 3]

set_option maxRecDepth 20000 in
set_option maxHeartbeats 1000000 in
theorem readInt_any (s : ByteArray) (a : Nat) (w : World) (ha : a ≤ s.size) (hs : s.size ≤ 1000000000000000) :
    Calls Tryz.prog 145 #[.string s, .int .i64 (a : Int)] w fun e w' => e = .returned (readV s a) ∧ w' = w := by
  have hB : (s.size : Int) ≤ 1000000000000000 := by omega
  have pa : (a : Int) ≤ (s.size : Int) := by omega
  go_enter Tryz.func145, Tryz.ntmps145
  go_wp2_with fail
  go_loopw [4, 10] (fun x i wr => ∃ (k m : Nat), k ≤ 9 ∧ a + k ≤ s.size ∧ Hid (m < 128 ^ k) ∧ i = .int .i64 (k : Int) ∧ x = .int .i64 (m : Int) ∧ Hid (readR (s.data.toList.drop a) = liftR k m (readK (9 - k) k (s.data.toList.drop (a + k)))) ∧ wr = w) (fun _ i _ => 9 - (intOf i).toNat)
  case atStart =>
    refine ⟨0, 0, by omega, by omega, by show 0 < 128 ^ 0; omega, rfl, rfl, ?_, rfl⟩
    show readR _ = liftR 0 0 (readK 9 0 _)
    unfold readR
    rw [Nat.add_zero]
    cases readK 9 0 (s.data.toList.drop a) <;> simp [liftR]
  case round =>
    obtain ⟨k, m, hk, hak, hm, rfl, rfl, hrd, rfl⟩ := hrel
    by_cases hk9 : k < 9
    · have pk : (k : Int) < 9 := by omega
      have pak : (a : Int) + (k : Int) ≤ (s.size : Int) := by omega
      by_cases hin : a + k < s.size
      · have pin : (a : Int) + (k : Int) < (s.size : Int) := by omega
        have pine : ((a : Int) + (k : Int) == (s.size : Int)) = false := by rw [beq_eq_false_iff_ne]; omega
        have hdr := drop_at s (a + k) hin
        have hix : ∀ W, (Instr.index 9 (.string s) (.int .i64 ((a : Int) + (k : Int)))).run Tryz.prog W = .ok (.int .u8 ((s[a + k]'hin).toNat : Int)) W := fun W => by
          rw [run_index_string W 9 s .i64 _ Tryz.underlying9, dif_pos (by omega)]
          congr 3
        have hb8 : (s[a + k]'hin).toNat < 256 := (s[a + k]'hin).toNat_lt
        have hrd2 := hrd.out
        rw [hdr, show 9 - k = (8 - k) + 1 by omega] at hrd2
        generalize hbv : s[a + k]'hin = b at hix hb8 hrd2
        obtain ⟨y, hy⟩ : ∃ y, y = b.toNat := ⟨_, rfl⟩
        rw [← hy] at hix hb8
        have hyi : (y : Int) < 256 := by omega
        have hmod : (y : Int).tmod 128 = ((y % 128 : Nat) : Int) := by rw [Int.tmod_eq_emod_of_nonneg (by omega)]; omega
        have hp : 128 ^ k ≤ 128 ^ 8 := Nat.pow_le_pow_right (by omega) (by omega)
        have hmul : 128 ^ k * (y % 128) ≤ 128 ^ k * 127 := Nat.mul_le_mul_left _ (by omega)
        have hm2 : m + 128 ^ k * (y % 128) < 128 ^ (k + 1) := by have := hm.out; rw [Nat.pow_succ]; omega
        have hp9 : 128 ^ (k + 1) ≤ 128 ^ 9 := Nat.pow_le_pow_right (by omega) (by omega)
        have hbnd : (m : Int) + ((128 ^ k * (y % 128) : Nat) : Int) ≤ 9223372036854775807 := by
          have h9 : m + 128 ^ k * (y % 128) < 9223372036854775808 := Nat.lt_of_lt_of_le hm2 hp9
          omega
        have hshl : ((y % 128 : Nat) : Int) * 2 ^ (7 * (k : Int)).toNat = ((128 ^ k * (y % 128) : Nat) : Int) := by
          rw [show (7 * (k : Int)).toNat = 7 * k by omega, Nat.mul_comm (128 ^ k), Int.natCast_mul, pow128, Int.natCast_pow]; rfl
        have hwr : IntKind.i64.wrap ((128 ^ k * (y % 128) : Nat) : Int) = ((128 ^ k * (y % 128) : Nat) : Int) := i64_wrap (by omega) (by omega)
        have HM2 := Lib.hid hm2
        by_cases hlo : y < 128
        · have plo : (y : Int) < 128 := by omega
          have hy7 : y % 128 = y := by omega
          rw [hy7] at hmod hshl hwr hbnd
          by_cases hz : y = 0 ∧ 0 < k
          · have E := Lib.hid (show readR (s.data.toList.drop a) = .form by rw [hrd2, readK_zero (by omega) hz.2]; rfl)
            obtain ⟨rfl, hz2⟩ := hz
            have pz : (0 : Int) < (k : Int) := by omega
            clear hm hrd hrd2 hdr hbv hy hb8 hp hmul hm2 hp9 HM2 hy7
            generalize 128 ^ k * 0 = q at hshl hwr hbnd
            go_wp2_with fail
            go_ret3
            exact ⟨by unfold readV; rw [E.out]; rfl, rfl⟩
          · have E := Lib.hid (show readR (s.data.toList.drop a) = .ok (m + 128 ^ k * y) (k + 1) by rw [hrd2, readK_last (by omega) (by omega), ← hy]; rfl)
            have hq : 0 ≤ ((128 ^ k * y : Nat) : Int) := by omega
            obtain ⟨q, hqe⟩ : ∃ q, q = 128 ^ k * y := ⟨_, rfl⟩
            rw [← hqe] at hshl hwr hbnd hq E
            clear hm hrd hrd2 hdr hbv hy hb8 hp hmul hm2 hp9 HM2 hy7 hqe
            by_cases hy0 : y = 0
            · have hk0 : ¬ 0 < k := fun h => hz ⟨hy0, h⟩
              have pe : ((y : Int) == 0) = true := by simp [hy0]
              have pk0 : (k : Int) ≤ 0 := by omega
              clear hz hk0 hy0
              go_wp2_with fail
              go_ret3
              exact ⟨by unfold readV; rw [E.out]; rfl, rfl⟩
            · have py : (1 : Int) ≤ (y : Int) := by omega
              have pne : ((y : Int) == 0) = false := by simp; omega
              clear hz hy0
              go_wp2_with fail
              go_ret3
              exact ⟨by unfold readV; rw [E.out]; rfl, rfl⟩
        · have plo : (128 : Int) ≤ (y : Int) := by omega
          have pne : ((y : Int) == 0) = false := by simp; omega
          have E := Lib.hid (show readR (s.data.toList.drop a) = liftR (k + 1) (m + 128 ^ k * (y % 128)) (readK (9 - (k + 1)) (k + 1) (s.data.toList.drop (a + (k + 1)))) by
            rw [hrd2, readK_hi (by omega), liftR_push, ← hy, show 8 - k = 9 - (k + 1) by omega, show a + k + 1 = a + (k + 1) by omega])
          have hq : 0 ≤ ((128 ^ k * (y % 128) : Nat) : Int) := by omega
          obtain ⟨q, hqe⟩ : ∃ q, q = 128 ^ k * (y % 128) := ⟨_, rfl⟩
          rw [← hqe] at hshl hwr hbnd hq E HM2
          have hx : y % 128 < 128 := by omega
          generalize y % 128 = x at hmod hshl hx
          have hxi : (x : Int) < 128 := by omega
          clear hm hrd hrd2 hdr hbv hy hb8 hp hmul hm2 hp9 hqe
          go_wp2_with fail
          go_roundw
          case rel => exact ⟨k + 1, m + q, by omega, by omega, HM2.out, by go_num, by go_num, E.out, trivial⟩
          case measure => simp [intOf]; omega
      · have E := Lib.hid (show readR (s.data.toList.drop a) = .fin by
          rw [hrd.out, List.drop_eq_nil_of_le (by rw [list_size]; omega), show 9 - k = (8 - k) + 1 by omega]; rfl)
        have pine : ((a : Int) + (k : Int) == (s.size : Int)) = true := by rw [beq_iff_eq]; omega
        have pin : (a : Int) + (k : Int) = (s.size : Int) := by omega
        have E2 := Lib.hid pin
        clear hm hrd pin
        go_wp2_with fail
        go_ret3
        exact ⟨by unfold readV; rw [E.out, ← E2.out]; rfl, rfl⟩
    · obtain rfl : k = 9 := by omega
      have E := Lib.hid (show readR (s.data.toList.drop a) = .form by rw [hrd.out]; rfl)
      clear hm hrd
      go_wp2_with fail
      go_ret3
      exact ⟨by unfold readV; rw [E.out]; rfl, rfl⟩

set_option maxRecDepth 20000 in
set_option maxHeartbeats 1000000 in
theorem readFolded_any (s : ByteArray) (a : Nat) (w : World) (ha : a ≤ s.size) (hs : s.size ≤ 1000000000000000) :
    Calls Tryz.prog 126 #[.string s, .int .i64 (a : Int)] w fun e w' => e = .returned (readVF s a) ∧ w' = w := by
  have hB : (s.size : Int) ≤ 1000000000000000 := by omega
  have pa : (a : Int) ≤ (s.size : Int) := by omega
  go_enter Tryz.func126, Tryz.ntmps126
  go_wp2_with fail
  go_loopw [4, 10] (fun x i wr => ∃ (k m : Nat), k ≤ 9 ∧ a + k ≤ s.size ∧ Hid (m < 128 ^ k) ∧ i = .int .i64 (k : Int) ∧ x = .int .u64 (m : Int) ∧ Hid (readR (s.data.toList.drop a) = liftR k m (readK (9 - k) k (s.data.toList.drop (a + k)))) ∧ wr = w) (fun _ i _ => 9 - (intOf i).toNat)
  case atStart =>
    refine ⟨0, 0, by omega, by omega, by show 0 < 128 ^ 0; omega, rfl, rfl, ?_, rfl⟩
    show readR _ = liftR 0 0 (readK 9 0 _)
    unfold readR
    rw [Nat.add_zero]
    cases readK 9 0 (s.data.toList.drop a) <;> simp [liftR]
  case round =>
    obtain ⟨k, m, hk, hak, hm, rfl, rfl, hrd, rfl⟩ := hrel
    by_cases hk9 : k < 9
    · have pk : (k : Int) < 9 := by omega
      have pak : (a : Int) + (k : Int) ≤ (s.size : Int) := by omega
      by_cases hin : a + k < s.size
      · have pin : (a : Int) + (k : Int) < (s.size : Int) := by omega
        have pine : ((a : Int) + (k : Int) == (s.size : Int)) = false := by rw [beq_eq_false_iff_ne]; omega
        have hdr := drop_at s (a + k) hin
        have hix : ∀ W, (Instr.index 9 (.string s) (.int .i64 ((a : Int) + (k : Int)))).run Tryz.prog W = .ok (.int .u8 ((s[a + k]'hin).toNat : Int)) W := fun W => by
          rw [run_index_string W 9 s .i64 _ Tryz.underlying9, dif_pos (by omega)]
          congr 3
        have hb8 : (s[a + k]'hin).toNat < 256 := (s[a + k]'hin).toNat_lt
        have hrd2 := hrd.out
        rw [hdr, show 9 - k = (8 - k) + 1 by omega] at hrd2
        generalize hbv : s[a + k]'hin = b at hix hb8 hrd2
        obtain ⟨y, hy⟩ : ∃ y, y = b.toNat := ⟨_, rfl⟩
        rw [← hy] at hix hb8
        have hyi : (y : Int) < 256 := by omega
        have hmod : (y : Int).tmod 128 = ((y % 128 : Nat) : Int) := by rw [Int.tmod_eq_emod_of_nonneg (by omega)]; omega
        have hp : 128 ^ k ≤ 128 ^ 8 := Nat.pow_le_pow_right (by omega) (by omega)
        have hmul : 128 ^ k * (y % 128) ≤ 128 ^ k * 127 := Nat.mul_le_mul_left _ (by omega)
        have hm2 : m + 128 ^ k * (y % 128) < 128 ^ (k + 1) := by have := hm.out; rw [Nat.pow_succ]; omega
        have hp9 : 128 ^ (k + 1) ≤ 128 ^ 9 := Nat.pow_le_pow_right (by omega) (by omega)
        have hbnd : (m : Int) + ((128 ^ k * (y % 128) : Nat) : Int) ≤ 9223372036854775807 := by
          have h9 : m + 128 ^ k * (y % 128) < 9223372036854775808 := Nat.lt_of_lt_of_le hm2 hp9
          omega
        have hshl : ((y % 128 : Nat) : Int) * 2 ^ (7 * (k : Int)).toNat = ((128 ^ k * (y % 128) : Nat) : Int) := by
          rw [show (7 * (k : Int)).toNat = 7 * k by omega, Nat.mul_comm (128 ^ k), Int.natCast_mul, pow128, Int.natCast_pow]; rfl
        have hwr : IntKind.u64.wrap ((128 ^ k * (y % 128) : Nat) : Int) = ((128 ^ k * (y % 128) : Nat) : Int) := u64_wrap (by omega) (by omega)
        have HM2 := Lib.hid hm2
        by_cases hlo : y < 128
        · have plo : (y : Int) < 128 := by omega
          have hy7 : y % 128 = y := by omega
          rw [hy7] at hmod hshl hwr hbnd
          by_cases hz : y = 0 ∧ 0 < k
          · have E := Lib.hid (show readR (s.data.toList.drop a) = .form by rw [hrd2, readK_zero (by omega) hz.2]; rfl)
            obtain ⟨rfl, hz2⟩ := hz
            have pz : (0 : Int) < (k : Int) := by omega
            clear hm hrd hrd2 hdr hbv hy hb8 hp hmul hm2 hp9 HM2 hy7
            generalize 128 ^ k * 0 = q at hshl hwr hbnd
            go_wp2_with fail
            go_ret3
            exact ⟨by unfold readVF; rw [E.out]; rfl, rfl⟩
          · have E := Lib.hid (show readR (s.data.toList.drop a) = .ok (m + 128 ^ k * y) (k + 1) by rw [hrd2, readK_last (by omega) (by omega), ← hy]; rfl)
            have hq : 0 ≤ ((128 ^ k * y : Nat) : Int) := by omega
            obtain ⟨q, hqe⟩ : ∃ q, q = 128 ^ k * y := ⟨_, rfl⟩
            rw [← hqe] at hshl hwr hbnd hq E
            clear hm hrd hrd2 hdr hbv hy hb8 hp hmul hm2 hp9 HM2 hy7 hqe
            by_cases hy0 : y = 0
            · have hk0 : ¬ 0 < k := fun h => hz ⟨hy0, h⟩
              have pe : ((y : Int) == 0) = true := by simp [hy0]
              have pk0 : (k : Int) ≤ 0 := by omega
              clear hz hk0 hy0
              go_wp2_with fail
              go_ret3
              exact ⟨by unfold readVF; rw [E.out]; rfl, rfl⟩
            · have py : (1 : Int) ≤ (y : Int) := by omega
              have pne : ((y : Int) == 0) = false := by simp; omega
              clear hz hy0
              go_wp2_with fail
              go_ret3
              exact ⟨by unfold readVF; rw [E.out]; rfl, rfl⟩
        · have plo : (128 : Int) ≤ (y : Int) := by omega
          have pne : ((y : Int) == 0) = false := by simp; omega
          have E := Lib.hid (show readR (s.data.toList.drop a) = liftR (k + 1) (m + 128 ^ k * (y % 128)) (readK (9 - (k + 1)) (k + 1) (s.data.toList.drop (a + (k + 1)))) by
            rw [hrd2, readK_hi (by omega), liftR_push, ← hy, show 8 - k = 9 - (k + 1) by omega, show a + k + 1 = a + (k + 1) by omega])
          have hq : 0 ≤ ((128 ^ k * (y % 128) : Nat) : Int) := by omega
          obtain ⟨q, hqe⟩ : ∃ q, q = 128 ^ k * (y % 128) := ⟨_, rfl⟩
          rw [← hqe] at hshl hwr hbnd hq E HM2
          have hx : y % 128 < 128 := by omega
          generalize y % 128 = x at hmod hshl hx
          have hxi : (x : Int) < 128 := by omega
          clear hm hrd hrd2 hdr hbv hy hb8 hp hmul hm2 hp9 hqe
          go_wp2_with fail
          go_roundw
          case rel => exact ⟨k + 1, m + q, by omega, by omega, HM2.out, by go_num, by go_num, E.out, trivial⟩
          case measure => simp [intOf]; omega
      · have E := Lib.hid (show readR (s.data.toList.drop a) = .fin by
          rw [hrd.out, List.drop_eq_nil_of_le (by rw [list_size]; omega), show 9 - k = (8 - k) + 1 by omega]; rfl)
        have pine : ((a : Int) + (k : Int) == (s.size : Int)) = true := by rw [beq_iff_eq]; omega
        have pin : (a : Int) + (k : Int) = (s.size : Int) := by omega
        have E2 := Lib.hid pin
        clear hm hrd pin
        go_wp2_with fail
        go_ret3
        exact ⟨by unfold readVF; rw [E.out, ← E2.out]; rfl, rfl⟩
    · obtain rfl : k = 9 := by omega
      have E := Lib.hid (show readR (s.data.toList.drop a) = .form by rw [hrd.out]; rfl)
      clear hm hrd
      go_wp2_with fail
      go_ret3
      exact ⟨by unfold readVF; rw [E.out]; rfl, rfl⟩

end Pk
end Go.Proofs.YtjehjbkcdpidbaaGreat
