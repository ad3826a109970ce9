/- The walk of the law that rows that are picked of a product are the product of the rows that are picked; no condition but the form's reach. -/
import Derived.Test.YtmnciipfepeccaaMatRing
import Derived.Test.YtmnciipfepeccaaMatPicks
import Derived.Test.YtmnciipfepeccaaBook
import Derived.Deep.RegionHeldLaw
namespace Go.Proofs.Ytmnciipfepeccaa
open Go.RowKit

attribute [local go_sem ↓] Go.wp_at_zero Go.wp_at_succ
attribute [local go_sem] floatUpon pick

/-- what the call owns stays owned while no old block is written -/
theorem owns_keep {H size n : Nat} {w W : World} {e : TypeId} {v : Value} {xs : List Value} (h : w.ownsRow H e size v n xs) (hb : Below w.heap.size w W) : W.ownsRow H e size v n xs := by
  refine ⟨h.1, ?_⟩
  rcases h.2 with h' | ⟨g, cap, cur, hv, h1, h2, h3⟩
  · exact .inl h'
  · exact .inr ⟨g, cap, cur, hv, h1, (hb.block g (heap_lt3 h2)).trans h2, h3⟩

/-- the rows' numbers -/
def rowsOf (L : List Int) (a j : Nat) : List Int := (L.take j).map fun d => ((amongV d a : Nat) : Int)

def intsV (L : List Int) : List Value := L.map (Value.int .i64)

theorem rowsOf_len (L : List Int) (a j : Nat) (h : j ≤ L.length) : (rowsOf L a j).length = j := by simp [rowsOf]; omega

theorem rowsOf_succ (L : List Int) (a j : Nat) (h : j < L.length) : rowsOf L a (j + 1) = rowsOf L a j ++ [((amongV L[j] a : Nat) : Int)] := by
  unfold rowsOf
  rw [List.take_add_one, List.getElem?_eq_getElem h, List.map_append]; rfl

theorem rowsOf_in (L : List Int) (a j : Nat) (ha : 1 ≤ a) : ∀ i (h : i < (rowsOf L a j).length), 0 ≤ (rowsOf L a j)[i] ∧ (rowsOf L a j)[i] < (a : Int) := by
  intro i h
  have hm := List.getElem_mem h
  generalize (rowsOf L a j)[i] = z at hm
  obtain ⟨d, _, rfl⟩ := List.mem_map.1 hm
  have := amongV_lt d a ha
  omega

/-- rows of a product, and the product of the rows -/
theorem rows_mul (a b c : Nat) (sa sb : ByteArray) (R : List Int) (hin : ∀ i (h : i < R.length), 0 ≤ R[i] ∧ R[i] < (a : Int)) :
    tabL R.length c (pickF R (cel ⟨(tabL a c (timesF b c sa sb)).toArray⟩ c)) = tabL R.length c (timesF b c ⟨(tabL R.length b (pickF R (cel sa b))).toArray⟩ sb) :=
  tab_congr R.length c fun i j hi hj => by
    have h1 := hin i hi
    have hd : R.getD i 0 = R[i] := by rw [List.getD_eq_getElem?_getD, List.getElem?_eq_getElem hi, Option.getD_some]
    have e1 : pickF R (cel ⟨(tabL a c (timesF b c sa sb)).toArray⟩ c) i j = timesF b c sa sb (R.getD i 0).toNat j := by
      unfold pickF
      exact cel_tab a c _ _ j (by rw [hd]; omega) hj
    rw [e1]
    exact (GfU.mm_congr b i j (A' := pickF R (cel sa b)) (fun k hk => cel_tab R.length b _ i k hi hk) (fun k hk => rfl)).symm

set_option maxRecDepth 100000 in
set_option maxHeartbeats 0 in
theorem mrows_walk (A B C : Int) (x : ByteArray) (hx : x.size ≤ reachBytes) (v : Value) (L : List Int) (w : World) (hv : SliceOf w v L) :
    Calls Try.prog 4 #[.agg #[.int .i64 A, .int .i64 B, .int .i64 C], .string x, v] w fun e w' => e = .returned (.bool true) ∧ Below w.heap.size w w' := by
  obtain ⟨i0, hi, hz0, hz1, hz2⟩ := info_parts Try.infoInt
  have sA := sideV_rng A
  have sB := sideV_rng B
  have sC := sideV_rng C
  have hadd : ∀ W, (Op.stringOp .add x ⟨#[109, 111, 114, 101]⟩).run Try.prog W = .ok (.string (x ++ (⟨#[109, 111, 114, 101]⟩ : ByteArray))) W := fun W => run_string_add_sum W _ _ (by unfold reachBytes at hx; have : (⟨#[109, 111, 114, 101]⟩ : ByteArray).size = 4 := rfl; omega)
  have hadd2 : (x.size : Int) + ((⟨#[109, 111, 114, 101]⟩ : ByteArray).size : Int) ≤ 9223372036854775807 := by unfold reachBytes at hx; have : (⟨#[109, 111, 114, 101]⟩ : ByteArray).size = 4 := rfl; omega
  obtain ⟨ad, n, cp, hvv, hn8, hnL, hdr⟩ : ∃ (ad : Option Addr) (n cp : Nat), v = .slice ad n cp ∧ n * 8 ≤ 140737488351232 ∧ n = L.length ∧ ∀ j (h : j < L.length), ∃ (a : Addr), ad = some a ∧ a.block < w.heap.size ∧ w.cell? (a.add j) = some (.int .i64 L[j]) := by
    rcases hv with ⟨h1, h2⟩ | ⟨a, cap, h1, h2, h3, h4⟩
    · exact ⟨none, 0, 0, h1, by omega, by rw [h2]; rfl, fun j hj => absurd hj (by rw [h2]; simp)⟩
    · exact ⟨some a, L.length, cap, h1, h4, rfl, fun j hj => ⟨a, rfl, h2 (by omega), h3 j hj⟩⟩
  subst hvv
  have HV := Lib.hid hdr
  have HN := Lib.hid hnL
  clear hv hdr hx hnL
  go_enter Try.func4, Try.ntmps4
  go_wp2_with fail
  refine (works_true gen_example _).mono ?_
  rintro e w1 ⟨rfl, hb1⟩
  have B1 := Lib.hid (below_new hb1)
  obtain ⟨hc1, hf1⟩ := bcell hb1
  have x1 : w.heap.size < w1.heap.size := by have := hb1.size; simp at this; omega
  have E1 : Hid (SEnv w1 w.heap.size A B C w1) := ⟨Below.refl _ _, by rw [hc1 _ _ (by simp)]; simp, by rw [hc1 _ _ (by simp)]; simp, by rw [hc1 _ _ (by simp)]; simp, x1⟩
  clear hb1 hc1 hf1 x1
  go_upto_region 3 with fail
  refine wp_region_said 19 [21, 22, 23, 24, 25, 26, 27, 28, 29, 30, 31, 32, 33, 34, 35, 36, 37, 7, 8]
    [.is (.pointer (some ⟨w.heap.size, 0, none⟩)), .is (.int .i64 A), .is (.int .i64 (sideV A : Int)), .is (.pointer (some ⟨w.heap.size, 1, none⟩)), .is (.int .i64 B), .is (.int .i64 (sideV B : Int)), .is (.string x),
     .is (.agg #[.int .i64 (sideV A : Int), .int .i64 (sideV B : Int), .string ⟨(tabL (sideV A) (sideV B) (madeF (sideV B) x)).toArray⟩]),
     .is (.pointer (some ⟨w.heap.size, 1, none⟩)), .is (.int .i64 B), .is (.int .i64 (sideV B : Int)), .is (.pointer (some ⟨w.heap.size, 2, none⟩)), .is (.int .i64 C), .is (.int .i64 (sideV C : Int)), .is (.string x), .is (.string (x ++ (⟨#[109, 111, 114, 101]⟩ : ByteArray))),
     .is (.agg #[.int .i64 (sideV B : Int), .int .i64 (sideV C : Int), .string ⟨(tabL (sideV B) (sideV C) (madeF (sideV C) (x ++ (⟨#[109, 111, 114, 101]⟩ : ByteArray)))).toArray⟩]),
     .blk 26 #[.int .i64 0, .int .i64 0, .string ⟨#[]⟩], .blk 26 #[.int .i64 0, .int .i64 0, .string ⟨#[]⟩]]
    (SEnv w1 w.heap.size A B C) (by kernel_rfl) (by kernel_rfl) (by kernel_rfl) (by kernel_rfl) (by kernel_rfl) (fun _ _ h hb => SEnv.next h hb) E1.out ?steps ?last
  case steps =>
    simp only [List.take_succ_cons, List.take_zero]
    refine ⟨?_, ?_, ?_, ?_, ?_, ?_, ?_, ?_, ?_, ?_, ?_, ?_, ?_, ?_, ?_, ?_, ?_, ?_, ?_, trivial⟩
    all_goals
      intro vs W ρ hρ hc hf hg hI hH hd R hR
      obtain ⟨_, c0, c1, c2⟩ := SEnv.all hI
      have HR := Lib.hid hR
      simp [depsOf, Region.binds, sayAt, Say.holds] at hd
      clear hR hI
      go_simp
      first
        | exact HR.out _ _ (by simp [sayAt, Say.holds]) (Below.refl _ _) (by simp [sayAt, Say.isBlk])
        | (refine (side_any _ _).mono ?_; rintro e w' ⟨rfl, rfl⟩; exact ⟨_, rfl, HR.out _ _ (by simp [sayAt, Say.holds]) (Below.refl _ _) (by simp [sayAt, Say.isBlk])⟩)
        | (refine (made_any _ _ _ _ (by omega) (by omega) (by omega) (by omega)).mono ?_; rintro e w' ⟨rfl, hb⟩; exact ⟨_, rfl, HR.out _ _ (by simp [sayAt, Say.holds]) hb (by simp [sayAt, Say.isBlk])⟩)
        | exact HR.out _ _ ⟨_, hH, by simp, rfl, heap_alloc_new _ _⟩ ((Below.refl _ _).alloc (Nat.le_refl _) _) (fun _ => rfl)
  case last =>
    intro vs W hI hb hg hd
    have g7 := hg 7 (by omega)
    have g16 := hg 16 (by omega)
    obtain ⟨p, hp1, hp2, g17, hp⟩ := hg 17 (by omega)
    obtain ⟨q, hq1, hq2, g18, hq⟩ := hg 18 (by omega)
    have hpq : p ≠ q := fun z => hd 17 18 (by omega) (by omega) rfl rfl (by omega) (by rw [g17, g18, z])
    simp only [sayAt, Say.holds, List.getD_cons_succ, List.getD_cons_zero] at g7 g16
    simp only [List.take_succ_cons, List.take_zero, List.drop_succ_cons, List.drop_zero, putAll, Act.put, List.setIfInBounds_toArray, List.set_cons_succ, List.set_cons_zero, Nat.zero_add, Nat.reduceAdd]
    rw [g7, g16, g17, g18]
    clear g7 g16 g17 g18 hg hd
    refine wpList_plain rfl fun K hK => ?_
    refine wp_store_row 26 (.tmp 7) (.tmp 28) rfl p _ rfl rfl _ _ hp (by kernel_rfl) rfl (by simp [Value.oneCell']) ?_
    refine hK _ _ ?_
    clear hK K
    have hq' := (setRow_other W p q #[.int .i64 (sideV A : Int), .int .i64 (sideV B : Int), .string ⟨(tabL (sideV A) (sideV B) (madeF (sideV B) x)).toArray⟩] (Ne.symm hpq)).trans hq
    have M1 : Hid _ := Lib.hid (matAt_other (matAt_row (r := (sideV A : Int)) (c := (sideV B : Int)) (s := ⟨(tabL (sideV A) (sideV B) (madeF (sideV B) x)).toArray⟩) hp) hpq (cs := #[.int .i64 (sideV B : Int), .int .i64 (sideV C : Int), .string ⟨(tabL (sideV B) (sideV C) (madeF (sideV C) (x ++ (⟨#[109, 111, 114, 101]⟩ : ByteArray)))).toArray⟩]))
    refine wpList_plain rfl fun K hK => ?_
    refine wp_store_row 26 (.tmp 8) (.tmp 37) rfl q _ rfl rfl _ _ hq' (by kernel_rfl) rfl (by simp [Value.oneCell']) ?_
    refine hK _ _ ?_
    clear hK K
    have M2 : Hid _ := Lib.hid (matAt_row (r := (sideV B : Int)) (c := (sideV C : Int)) (s := ⟨(tabL (sideV B) (sideV C) (madeF (sideV C) (x ++ (⟨#[109, 111, 114, 101]⟩ : ByteArray)))).toArray⟩) hq')
    have B3 : Hid (Below w.heap.size w _) := Lib.hid (B1.out.trans (((hI.row (p := p) hp1 #[.int .i64 (sideV A : Int), .int .i64 (sideV B : Int), .string ⟨(tabL (sideV A) (sideV B) (madeF (sideV B) x)).toArray⟩]).row (p := q) hq1 #[.int .i64 (sideV B : Int), .int .i64 (sideV C : Int), .string ⟨(tabL (sideV B) (sideV C) (madeF (sideV C) (x ++ (⟨#[109, 111, 114, 101]⟩ : ByteArray)))).toArray⟩]).1.mono B1.out.size))
    generalize (W.setRow p #[.int .i64 (sideV A : Int), .int .i64 (sideV B : Int), .string ⟨(tabL (sideV A) (sideV B) (madeF (sideV B) x)).toArray⟩]).setRow q #[.int .i64 (sideV B : Int), .int .i64 (sideV C : Int), .string ⟨(tabL (sideV B) (sideV C) (madeF (sideV C) (x ++ (⟨#[109, 111, 114, 101]⟩ : ByteArray)))).toArray⟩] = W3 at M1 M2 B3 ⊢
    clear hp hq hq' hp1 hp2 hq1 hq2 hI hb W hadd hadd2 E1 B1
    simp only [Act.put]
    generalize sideV A = a at sA M1 M2 ⊢
    generalize sideV B = b at sB M1 M2 ⊢
    generalize sideV C = c at sC M1 M2 ⊢
    have za : Hid ((⟨(tabL a b (madeF b x)).toArray⟩ : ByteArray).size = a * b) := size_tab a b _
    have zb : Hid ((⟨(tabL b c (madeF c (x ++ (⟨#[109, 111, 114, 101]⟩ : ByteArray)))).toArray⟩ : ByteArray).size = b * c) := size_tab b c _
    generalize (⟨(tabL a b (madeF b x)).toArray⟩ : ByteArray) = sa at za M1 ⊢
    generalize (⟨(tabL b c (madeF c (x ++ (⟨#[109, 111, 114, 101]⟩ : ByteArray)))).toArray⟩ : ByteArray) = sb at zb M2 ⊢
    go_wp2_with fail
    go_loopw [9, 10] (fun u i wr => ∃ j : Nat, j ≤ n ∧ j ≤ 10 ∧ i = .int .i64 (j : Int) ∧ Hid (wr.ownsRow W3.heap.size 3 1 u j (intsV (rowsOf L a j))) ∧ Hid (Below W3.heap.size W3 wr)) (fun _ i _ => 10 - (intOf i).toNat)
    case atStart => exact ⟨0, by omega, by omega, rfl, by simp [rowsOf, intsV]; exact World.ownsRow_nil _ _ _ _, Below.refl _ _⟩
    case round =>
      obtain ⟨j, hj, hj10, rfl, hown, hbel⟩ := hrel
      by_cases hlt : j < n ∧ j < 10
      · obtain ⟨hlt, hlt10⟩ := hlt
        go_upto_region 8 with fail
        have hjL : j < L.length := by rw [← HN.out]; exact hlt
        obtain ⟨adr, rfl, hab, hcl⟩ := HV.out j hjL
        have hB := B3.out.trans (hbel.out.mono B3.out.size)
        have hcw : wr.cell? (adr.add j) = some (.int .i64 L[j]) := (cell_kept hB (adr.add j) (by rw [add_block]; exact hab)).trans hcl
        have hm1 := matAt_below M1.out hbel.out
        have pj : (j : Int) < (n : Int) := by omega
        have s1 := sA.1
        have s2 := sA.2
        have HOK : Hid ((wr.cell? (adr.add j) = some (.int .i64 L[j]) ∧ adr.block < wr.heap.size) ∧ MatAt wr p (a : Int) (b : Int) sa) := ⟨⟨hcw, Nat.lt_of_lt_of_le hab hB.size⟩, hm1⟩
        clear hcl hab hcw hm1 hB
        refine wp_region_said 9 [48, 49, 50, 51, 52, 53, 54, 55, 56]
          [.is u9, .is (.slice (some adr) n cp), .is (.int .i64 (j : Int)), .is (.pointer (some (adr.add j))), .is (.int .i64 L[j]), .is (.pointer (some ⟨p, 0, none⟩)), .is (.int .i64 (a : Int)), .is (.int .i64 ((amongV L[j] a : Nat) : Int)), .arr 3 #[.int .i64 ((amongV L[j] a : Nat) : Int)] 1 1]
          (fun W => (W.cell? (adr.add j) = some (.int .i64 L[j]) ∧ adr.block < W.heap.size) ∧ MatAt W p (a : Int) (b : Int) sa)
          (by kernel_rfl) (by kernel_rfl) (by kernel_rfl) (by kernel_rfl) (by kernel_rfl)
          (fun W W' h hb => ⟨⟨(cell_kept hb (adr.add j) (by rw [add_block]; exact h.1.2)).trans h.1.1, Nat.lt_of_lt_of_le h.1.2 hb.size⟩, matAt_below h.2 hb⟩) HOK.out ?steps ?last
        case steps =>
          simp only [List.take_succ_cons, List.take_zero]
          refine ⟨?_, ?_, ?_, ?_, ?_, ?_, ?_, ?_, ?_, trivial⟩
          all_goals
            intro vs W ρ hρ hc hf hg hI hH hd R hR
            obtain ⟨⟨hcl, hcb⟩, m0, m1, m2, m3⟩ := hI
            have HR := Lib.hid hR
            simp [depsOf, Region.binds, sayAt, Say.holds] at hd
            clear hR
            go_simp
            first
              | exact HR.out _ _ (by simp [sayAt, Say.holds]) (Below.refl _ _) (by simp [sayAt, Say.isBlk])
              | (refine (among_any _ _ _ s1 (by omega)).mono ?_; rintro e w' ⟨rfl, rfl⟩; exact ⟨_, rfl, HR.out _ _ (by simp [sayAt, Say.holds]) (Below.refl _ _) (by simp [sayAt, Say.isBlk])⟩)
              | exact HR.out _ _ ⟨_, hH, by simp, rfl, heap_alloc_new _ _⟩ ((Below.refl _ _).alloc (Nat.le_refl _) _) (fun h => by cases h)
              | trace_state
        case last =>
          intro vs' W hI hb hg hd
          have g0 := hg 0 (by omega)
          obtain ⟨o, ho1, ho2, g8, ho⟩ := hg 8 (by omega)
          simp only [sayAt, Say.holds, List.getD_cons_zero] at g0
          simp only [List.take_succ_cons, List.take_zero, List.drop_succ_cons, List.drop_zero, putAll, Act.put, List.setIfInBounds_toArray, List.set_cons_succ, List.set_cons_zero, Nat.zero_add, Nat.reduceAdd]
          rw [g0, g8]
          clear g0 g8 hg hd hI
          have hown2 := owns_keep hown.out hb
          have hH2 : W3.heap.size ≤ W.heap.size := Nat.le_trans hbel.out.size hb.size
          refine wpList_append_own _ rfl _ _ 34 rfl W3.heap.size 3 i0 (.int .i64 0) 1 8 Try.underlying34 hi hz0 hz1 hz2 rfl (by decide) _ _ _ rfl hown2 ⟨o, 0, none⟩ 1 1 [.int .i64 ((amongV L[j] a : Nat) : Int)] rfl rfl ?c1 ?c2 ?c3 ?c4 hH2 ?_
          case c1 =>
            intro k u hu
            match k with
            | 0 => simp at hu; subst hu; rw [addr_head]; exact blk_cell ho rfl
            | k + 1 => simp at hu
          case c2 => intro u hu; simp at hu; subst hu; rfl
          case c3 => unfold maxLen; omega
          case c4 => omega
          intro v' w5 hown' hgrow _
          have HB : Hid (Below W3.heap.size W3 w5) := (hbel.out.trans (hb.mono hbel.out.size)).grown hgrow hH2 (fun k hk => (hown2.lt k hk).1)
          rw [show intsV (rowsOf L a j) ++ [.int .i64 ((amongV L[j] a : Nat) : Int)] = intsV (rowsOf L a (j + 1)) by rw [rowsOf_succ L a j hjL]; simp [intsV]] at hown'
          have HO := Lib.hid hown'
          clear hown' hgrow hown2 hH2 hown hbel ho ho1 ho2 hb HOK
          go_wp2_with fail
          go_roundw
          case rel =>
            exact ⟨j + 1, by omega, by omega, by go_num, HO.out, HB.out⟩
          case measure => simp [intOf]; omega
      · have hend : j = n ∨ j = 10 := by omega
        have hjL : j ≤ L.length := by rw [← HN.out]; exact hj
        have B4 : Hid (Below w.heap.size w wr) := B3.out.trans (hbel.out.mono B3.out.size)
        have P4 := Lib.hid (matAt_below M1.out hbel.out)
        have Q4 := Lib.hid (matAt_below M2.out hbel.out)
        have HIN := Lib.hid (rowsOf_in L a j sA.1)
        have hlen := rowsOf_len L a j hjL
        have HOWN := hown
        clear hown hbel M1 M2 B3
        have s1 := sA.1
        have s2 := sA.2
        have s3 := sB.1
        have s4 := sB.2
        have s5 := sC.1
        have s6 := sC.2
        clear sA sB sC
        by_cases h0 : j = 0
        · subst h0
          obtain rfl : n = 0 := by omega
          clear hend hlt hlen hjL HIN
          rcases HOWN.out.2 with ⟨rfl, _⟩ | ⟨g, cap, cur, rfl, _⟩
          · clear HOWN
            go_wp2_with fail
            go_ret
            exact ⟨rfl, B4.out⟩
          · clear HOWN
            go_wp2_with fail
            go_ret
            exact ⟨rfl, B4.out⟩
        · obtain ⟨g, cap, rfl, hg1, hg2⟩ := HOWN.out.form (by omega)
          have HC : Hid (∀ i (h : i < (rowsOf L a j).length), wr.cell? ((⟨g, 0, none⟩ : Addr).add i) = some (.int .i64 (rowsOf L a j)[i])) := fun i h => by
            rw [addr_head, HOWN.out.cellAt i (by omega)]
            unfold intsV
            rw [List.getElem?_map, List.getElem?_eq_getElem h]; rfl
          clear HOWN
          generalize hR : rowsOf L a j = R at HIN hlen HC
          clear hR
          subst hlen
          have hj0 : ((R.length : Int) == 0) = false := by simp; exact fun e => h0 (by rw [e]; rfl)
          have hpos : 1 ≤ R.length := by omega
          have EQ := Lib.hid (rows_mul a b c sa sb R HIN.out)
          have hAB : Hid (pickAns a c ⟨(tabL a c (timesF b c sa sb)).toArray⟩ R = .tuple #[.agg #[.int .i64 (R.length : Int), .int .i64 (c : Int), .string ⟨(tabL R.length c (timesF b c ⟨(tabL R.length b (pickF R (cel sa b))).toArray⟩ sb)).toArray⟩], .int .i64 0]) := by
            show _ = _
            unfold pickAns
            rw [if_pos HIN.out, if_neg (by omega), if_neg (by omega), EQ.out]
          have hA : Hid (pickAns a b sa R = .tuple #[.agg #[.int .i64 (R.length : Int), .int .i64 (b : Int), .string ⟨(tabL R.length b (pickF R (cel sa b))).toArray⟩], .int .i64 0]) := by
            show _ = _
            unfold pickAns
            rw [if_pos HIN.out, if_neg (by omega), if_neg (by omega)]
          have hR255 : R.length ≤ 255 := by omega
          have S4 : Hid (∀ W, Below wr.heap.size wr W → g < W.heap.size ∧ ∀ i (h : i < R.length), W.cell? ((⟨g, 0, none⟩ : Addr).add i) = some (.int .i64 R[i])) := fun W hb =>
            ⟨Nat.lt_of_lt_of_le hg2 hb.size, fun i h => (cell_kept hb _ (by rw [add_block]; exact hg2)).trans (HC.out i h)⟩
          have G4 : Hid (Below wr.heap.size wr wr) := Below.refl _ _
          clear HC HIN EQ hg1 hg2 hlt
          have px := P4.out
          have qx := Q4.out
          obtain hjn | hjn : R.length = n ∨ (R.length < n ∧ R.length = 10) := by omega
          focus
            have q1 : ¬ ((R.length : Int) < (n : Int)) := by omega
            clear hend hjL hjn hj hj10
            go_wp2_with fail
            clear q1
          rotate_left
          focus
            have q1 : (R.length : Int) < (n : Int) := by omega
            have q2 : ¬ ((R.length : Int) < 10) := by omega
            clear hend hjL hjn hj hj10
            go_wp2_with fail
            clear q1 q2
          all_goals
            refine (mul_yes a b c _ _ _ (by omega) (by omega) (by omega) (by omega) (by omega) (by omega) za.out zb.out).mono ?_
            rintro e w5 ⟨rfl, hb5⟩
            clear px qx
            have P5 := Lib.hid (matAt_below P4.out hb5)
            have Q5 := Lib.hid (matAt_below Q4.out hb5)
            have B5 : Hid (Below w.heap.size w w5) := B4.out.trans (hb5.mono B4.out.size)
            have G5 : Hid (Below wr.heap.size wr w5) := hb5
            clear hb5 P4 Q4 B4 G4
            go_wp2_with fail
            obtain ⟨k1, k2⟩ := S4.out _ (G5.out.alloc G5.out.size (.cells #[.int .i64 (a : Int), .int .i64 (c : Int), .string ⟨(tabL a c (timesF b c sa sb)).toArray⟩] 26))
            refine (pick_some a c ⟨(tabL a c (timesF b c sa sb)).toArray⟩ ⟨g, 0, none⟩ cap R _ s1 (by omega) s5 (by omega) (size_tab a c _) k1 k2 (by omega)).mono ?_
            rintro e w6 ⟨rfl, hb6⟩
            rw [hAB.out]
            clear k1 k2
            have P6 := Lib.hid (matAt_below (matAt_alloc P5.out _) hb6)
            have Q6 := Lib.hid (matAt_below (matAt_alloc Q5.out _) hb6)
            have B6 : Hid (Below w.heap.size w w6) := (B5.out.alloc B5.out.size _).trans (hb6.mono (by have := B5.out.size; simp; omega))
            have G6 : Hid (Below wr.heap.size wr w6) := (G5.out.alloc G5.out.size _).trans (hb6.mono (by have := G5.out.size; simp; omega))
            clear hb6 P5 Q5 B5 G5
            have px := P6.out
            go_wp2_with fail
            obtain ⟨k1, k2⟩ := S4.out _ (G6.out.alloc G6.out.size (.cells #[.int .i64 (R.length : Int), .int .i64 (c : Int), .string ⟨(tabL R.length c (timesF b c ⟨(tabL R.length b (pickF R (cel sa b))).toArray⟩ sb)).toArray⟩] 26))
            refine (pick_some a b sa ⟨g, 0, none⟩ cap R _ s1 (by omega) s3 (by omega) za.out k1 k2 (by omega)).mono ?_
            rintro e w7 ⟨rfl, hb7⟩
            rw [hA.out]
            clear k1 k2 px
            have X7 := Lib.hid (matAt_below (matAt_new w6 (R.length : Int) (c : Int) ⟨(tabL R.length c (timesF b c ⟨(tabL R.length b (pickF R (cel sa b))).toArray⟩ sb)).toArray⟩ 26) hb7)
            have Q7 := Lib.hid (matAt_below (matAt_alloc Q6.out _) hb7)
            have B7 : Hid (Below w.heap.size w w7) := (B6.out.alloc B6.out.size _).trans (hb7.mono (by have := B6.out.size; simp; omega))
            clear hb7 P6 Q6 B6 G6 S4
            generalize w6.heap.size = pp at X7 ⊢
            have qx := Q7.out
            go_wp2_with fail
            refine (mul_yes R.length b c _ _ _ hpos hR255 (by omega) (by omega) (by omega) (by omega) (size_tab R.length b _) zb.out).mono ?_
            rintro e w8 ⟨rfl, hb8⟩
            have X8 := Lib.hid (matAt_below (matAt_alloc X7.out _) hb8)
            have B8 : Hid (Below w.heap.size w w8) := (B7.out.alloc B7.out.size _).trans (hb8.mono (by have := B7.out.size; simp; omega))
            clear hb8 X7 Q7 B7 qx
            have xx := X8.out
            go_wp2_with fail
            go_ret
            exact ⟨rfl, B8.out.alloc B8.out.size _⟩

end Go.Proofs.Ytmnciipfepeccaa
