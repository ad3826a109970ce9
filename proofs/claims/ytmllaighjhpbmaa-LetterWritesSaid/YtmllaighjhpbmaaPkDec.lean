/- What the document's own Decode answers; contract; no condition but the range. -/
import Derived.Test.YtmllaighjhpbmaaPkDecMath
namespace Go.Proofs.Ytmllaighjhpbmaa
namespace Pk
open Go.RowKit Bk

attribute [local go_sem ↓] Go.wp_at_zero Go.wp_at_succ
attribute [local go_sem] floatUpon pick


theorem strV_snoc2 (O : List ByteArray) (t : ByteArray) : strV (O ++ [t]) = strV O ++ [.string t] := by simp [strV]

theorem ints_own_at {w : World} {H n c : Nat} {A : Option Addr} {e : TypeId} {O : List Int} (h : w.ownsRow H e 1 (.slice A n c) n (intV O)) (hl : n = O.length) : IntsAt w A O := by
  obtain ⟨A', c', e, h2⟩ := ints_of_own h hl
  simp only [Value.slice.injEq] at e
  rw [e.1]; exact h2

theorem strs_own_at {w : World} {H n c : Nat} {A : Option Addr} {e : TypeId} {O : List ByteArray} (h : w.ownsRow H e 1 (.slice A n c) n (strV O)) (hl : n = O.length) : StrsAt w A O := by
  obtain ⟨A', c', e, h2⟩ := strs_of_own2 h hl
  simp only [Value.slice.injEq] at e
  rw [e.1]; exact h2

theorem DcEnv.res {w W : World} {g g' : Nat} {v1 v2 : Value} {ns : List Int} {ts : List ByteArray} {t : TypeId} {xs : List Value} (h : DcEnv w W g v1 v2 ns ts) (hr : Cel w g' t xs) (hg : g' < g) : Cel W g' t xs := (h.bel.block g' hg).trans hr

set_option maxRecDepth 20000 in
set_option maxHeartbeats 8000000 in
theorem decode_any (s : ByteArray) (w : World) (hs : s.size ≤ 1000000000000000) :
    Calls Try.prog 38 #[.string s] w (DecAns s w) := by
  obtain ⟨i0, hi, hz0, hz1, hz2⟩ := info_parts Try.infoStr
  obtain ⟨i1, hi', hz0', hz1', hz2'⟩ := info_parts Try.infoInt
  have hB : (s.size : Int) ≤ 1000000000000000 := by omega
  obtain ⟨many, a0, c0, hv0, hs0, hmany⟩ := cnt_said s 0 1024 (by omega)
  rw [List.drop_zero] at hs0
  have hC : ∀ W, Calls Try.prog 57 #[.string s, .int .i64 0, .int .i64 1024] W fun e w' => e = .returned (.tuple #[.int .i64 (many : Int), .int .i64 (a0 : Int), .int .i64 (c0 : Int)]) ∧ w' = W := fun W => by
    have h := count_any s 0 1024 W (by omega) hs (by omega)
    rw [hv0] at h
    exact h
  have HC := Lib.hid hC
  have HS0 := Lib.hid (St1.start hs0)
  have ha0 : a0 ≤ s.size ∧ c0 ≤ 50 := by rcases hs0 with ⟨h1, h2, _⟩ | ⟨_, h1, h2, _⟩ <;> exact ⟨by omega, by omega⟩
  have pmany : (many : Int) ≤ 1024 := by omega
  have HMk : Hid (∀ (A B : Option Addr) (c d : Nat) (x y : Nat) (ns : List Int) (ts : List ByteArray) (w' : World), decR s = (ns, ts, x, y) → IntsAt w' A ns → StrsAt w' B ts → Below w.heap.size w w' → (ns.length ≤ c ∧ ts.length ≤ d ∧ c ≤ maxLen ∧ d ≤ maxLen) → (∀ ad, A = some ad → w.heap.size ≤ ad.block) → (∀ ad, B = some ad → w.heap.size ≤ ad.block) → DecAns s w (.returned (.tuple #[packV A B c d ns ts, .int .i64 (x : Int), .int .i64 (y : Int)])) w') := Lib.hid (fun A B c d x y ns ts w' h1 h2 h3 h4 h5 h6 h7 => by
    refine ⟨A, B, c, d, ?_, ?_, ?_, h4, ?_, h6, h7⟩ <;> rw [h1]
    · exact h2
    · exact h3
    · exact h5)
  unfold packV at HMk
  clear hC hv0 hs0
  go_enter Try.func38, Try.ntmps38
  go_upto_region 1 with fail
  have hR0 : Cel (w.alloc (.cells #[.slice none 0 0, .slice none 0 0] 48)) w.heap.size 48 [.slice none 0 0, .slice none 0 0] := (blk1 w _).2
  have hBW : Below w.heap.size w (w.alloc (.cells #[.slice none 0 0, .slice none 0 0] 48)) := (Below.refl _ w).alloc (Nat.le_refl _) _
  generalize w.alloc (.cells #[.slice none 0 0, .slice none 0 0] 48) = W1 at hR0 hBW ⊢
  have HR0 := Lib.hid hR0
  have HBW := Lib.hid hBW
  have HE0 := Lib.hid (DcEnv.start W1)
  clear hR0 hBW
  go_wp2_with fail
  refine (HC.out _).mono ?_
  rintro e w2 ⟨rfl, rfl⟩
  clear HC
  go_wp2_with fail
  go_loopw [7, 8, 9] (fun at_ er i wr => ∃ (j a c : Nat) (v1 : Value) (O : List Int), j ≤ many ∧ a ≤ s.size ∧ c ≤ 50 ∧ O.length = j ∧ i = .int .i64 (j : Int) ∧ at_ = .int .i64 (a : Int) ∧ er = .int .i64 (c : Int) ∧ Hid (St1 s many j a c O) ∧ Hid (DcEnv W1 wr W1.heap.size v1 (.slice none 0 0) O [])) (fun _ _ i _ => many - (intOf i).toNat)
  case atStart => exact ⟨0, a0, c0, .slice none 0 0, [], by omega, ha0.1, ha0.2, rfl, rfl, rfl, rfl, HS0.out, HE0.out⟩
  case round =>
    obtain ⟨j, a, c, v1, O, hj, ha, hc50, hOl, rfl, rfl, rfl, hst, henv⟩ := hrel
    clear HS0 HE0 ha0
    have pa : (a : Int) ≤ (s.size : Int) := by omega
    by_cases hc : c = 0
    · subst hc
      by_cases hlt : j < many
      · have pj : (j : Int) < (many : Int) := by omega
        obtain ⟨n, p, c', hv, hsd⟩ := read_said s a ha
        have hR : ∀ W, Calls Try.prog 58 #[.string s, .int .i64 (a : Int)] W fun e w' => e = .returned (.tuple #[.int .i64 (n : Int), .int .i64 (p : Int), .int .i64 (c' : Int)]) ∧ w' = W := fun W => by
          have h := read_any s a W ha hs
          rw [hv] at h
          exact h
        have HR := Lib.hid hR
        have HSt := Lib.hid (St1.step hst.out hlt hsd)
        have hn9 : n < 9223372036854775808 := by rcases hsd with ⟨_, _, h, _⟩ | ⟨_, _, _, h, _⟩ <;> omega
        have hp : p ≤ s.size ∧ c' ≤ 50 := by rcases hsd with ⟨h1, h2, _⟩ | ⟨_, h1, h2, _⟩ <;> exact ⟨by omega, by omega⟩
        have hdiv : (n : Int).tdiv 2 = ((n / 2 : Nat) : Int) := by rw [Int.tdiv_eq_ediv_of_nonneg (by omega)]; omega
        have hmod : (n : Int).tmod 2 = ((n % 2 : Nat) : Int) := by rw [Int.tmod_eq_emod_of_nonneg (by omega)]; omega
        have hy : n / 2 ≤ 4611686018427387903 := by omega
        have k0 := henv.out.c0
        have HP := Lib.hid hp
        clear hv hsd hR hst hp
        by_cases hodd : n % 2 = 1
        · have hu : unzig n = -((n / 2 : Nat) : Int) - 1 := by unfold unzig; rw [if_pos hodd]
          have hsn := intV_snoc O (unzig n)
          rw [hu] at hsn HSt
          rw [hodd] at hmod
          have hb : ((n : Int) % 2 == 1) = true := by rw [show (n : Int) % 2 = 1 by omega]; rfl
          generalize n / 2 = y at hdiv hy hsn HSt
          have hyi : (y : Int) ≤ 4611686018427387903 := by omega
          have HSn := Lib.hid hsn
          clear hmod hodd hu hsn hn9
          go_wp2_with fail
          refine (HR.out _).mono ?_
          rintro e w3 ⟨rfl, rfl⟩
          go_wp2_with (at_builtin; refine wpList_append_own_at _ rfl _ _ 46 rfl (W1.heap.size + 1) 3 i1 (.int .i64 0) 1 8 Try.underlying46 hi' hz0' hz1' hz2' rfl (by decide) _ _ _ rfl (henv.out.r0.alloc _) ⟨w3.heap.size, 0, none⟩ 1 1 [.int .i64 (-(y : Int) - 1)] rfl rfl ?c1 ?c2 ?c3 ?c4 ?c5 ?_)
          case c1 => exact cell_one_new _ _ _
          case c2 => intro u hu; simp at hu; subst hu; rfl
          case c3 => unfold maxLen; omega
          case c4 => omega
          case c5 => have := henv.out.lt; simp; omega
          intro v' w5 hown' hgrow _ hat
          rw [← HSn.out] at hown'
          obtain ⟨gn, capn, rfl, _, _⟩ := World.ownsRow.form hown' (by omega)
          have HG := Lib.hid (DcEnv.grow1 (henv.out.step ((Below.refl _ w3).alloc (Nat.le_refl _) _)) hown' hgrow (by simpa using hat))
          have k0' := HG.out.1.cell (i := 0) rfl
          have kf := HG.out.1.free (i := 0)
          clear hown' hgrow hat henv k0
          go_wp2_with fail
          go_roundw
          case rel => exact ⟨j + 1, p, c', _, O ++ [-(y : Int) - 1], by omega, HP.out.1, HP.out.2, by rw [List.length_append, List.length_singleton, hOl], by go_num, rfl, rfl, HSt.out, DcEnv.store1 HG.out (by rw [List.length_append, List.length_singleton, hOl])⟩
          case measure => simp [intOf]; omega
        · have hu : unzig n = ((n / 2 : Nat) : Int) := by unfold unzig; rw [if_neg hodd]
          have hsn := intV_snoc O (unzig n)
          rw [hu] at hsn HSt
          have hb : ((n : Int) % 2 == 1) = false := by rw [show (n : Int) % 2 = 0 by omega]; rfl
          generalize n / 2 = y at hdiv hy hsn HSt
          have hyi : (y : Int) ≤ 4611686018427387903 := by omega
          have HSn := Lib.hid hsn
          clear hmod hodd hu hsn hn9
          go_wp2_with fail
          refine (HR.out _).mono ?_
          rintro e w3 ⟨rfl, rfl⟩
          go_wp2_with (at_builtin; refine wpList_append_own_at _ rfl _ _ 46 rfl (W1.heap.size + 1) 3 i1 (.int .i64 0) 1 8 Try.underlying46 hi' hz0' hz1' hz2' rfl (by decide) _ _ _ rfl (henv.out.r0.alloc _) ⟨w3.heap.size, 0, none⟩ 1 1 [.int .i64 ((y : Int))] rfl rfl ?c1 ?c2 ?c3 ?c4 ?c5 ?_)
          case c1 => exact cell_one_new _ _ _
          case c2 => intro u hu; simp at hu; subst hu; rfl
          case c3 => unfold maxLen; omega
          case c4 => omega
          case c5 => have := henv.out.lt; simp; omega
          intro v' w5 hown' hgrow _ hat
          rw [← HSn.out] at hown'
          obtain ⟨gn, capn, rfl, _, _⟩ := World.ownsRow.form hown' (by omega)
          have HG := Lib.hid (DcEnv.grow1 (henv.out.step ((Below.refl _ w3).alloc (Nat.le_refl _) _)) hown' hgrow (by simpa using hat))
          have k0' := HG.out.1.cell (i := 0) rfl
          have kf := HG.out.1.free (i := 0)
          clear hown' hgrow hat henv k0
          go_wp2_with fail
          go_roundw
          case rel => exact ⟨j + 1, p, c', _, O ++ [(y : Int)], by omega, HP.out.1, HP.out.2, by rw [List.length_append, List.length_singleton, hOl], by go_num, rfl, rfl, HSt.out, DcEnv.store1 HG.out (by rw [List.length_append, List.length_singleton, hOl])⟩
          case measure => simp [intOf]; omega
      · obtain rfl : j = many := by omega
        clear hOl
        obtain ⟨m, p, c', hv, hsd, hm⟩ := cnt_said s a 1024 ha
        have hR : ∀ W, Calls Try.prog 57 #[.string s, .int .i64 (a : Int), .int .i64 1024] W fun e w' => e = .returned (.tuple #[.int .i64 (m : Int), .int .i64 (p : Int), .int .i64 (c' : Int)]) ∧ w' = W := fun W => by
          have h := count_any s a 1024 W ha hs (by omega)
          rw [hv] at h
          exact h
        have HR := Lib.hid hR
        have HSt := Lib.hid (St2.start hst.out hsd)
        have hp : p ≤ s.size ∧ c' ≤ 50 := by rcases hsd with ⟨h1, h2, _⟩ | ⟨_, h1, h2, _⟩ <;> exact ⟨by omega, by omega⟩
        have HP := Lib.hid hp
        clear hv hsd hR hst hp
        go_wp2_with fail
        refine (HR.out _).mono ?_
        rintro e w3 ⟨rfl, rfl⟩
        clear HR
        go_wp2_with fail
        go_loopw [7, 8, 12] (fun at_ er i wr => ∃ (j a c : Nat) (v2 : Value) (T : List ByteArray), j ≤ m ∧ a ≤ s.size ∧ c ≤ 50 ∧ T.length ≤ j ∧ i = .int .i64 (j : Int) ∧ at_ = .int .i64 (a : Int) ∧ er = .int .i64 (c : Int) ∧ Hid (St2 s m j a c O T) ∧ Hid (DcEnv W1 wr W1.heap.size v1 v2 O T)) (fun _ _ i _ => m - (intOf i).toNat)
        case atStart => exact ⟨0, p, c', .slice none 0 0, [], by omega, HP.out.1, HP.out.2, by simp, rfl, rfl, rfl, HSt.out, henv.out⟩
        case round =>
          obtain ⟨j, a, c, v2, T, hj, ha, hc50, hTl, rfl, rfl, rfl, hst, henv⟩ := hrel
          clear HSt HP
          have pa : (a : Int) ≤ (s.size : Int) := by omega
          have pm : (m : Int) ≤ 1024 := by omega
          by_cases hc : c = 0
          · subst hc
            by_cases hlt : j < m
            · have pj : (j : Int) < (m : Int) := by omega
              obtain ⟨n, p, c', hv, hsd, hn⟩ := cnt_said s a 4096 ha
              have hR : ∀ W, Calls Try.prog 57 #[.string s, .int .i64 (a : Int), .int .i64 4096] W fun e w' => e = .returned (.tuple #[.int .i64 (n : Int), .int .i64 (p : Int), .int .i64 (c' : Int)]) ∧ w' = W := fun W => by
                have h := count_any s a 4096 W ha hs (by omega)
                rw [hv] at h
                exact h
              have HR := Lib.hid hR
              have pn : (n : Int) ≤ 4096 := by omega
              have k1 := henv.out.c1
              clear hv hR
              rcases hsd with ⟨rfl, hp, _, hok⟩ | ⟨hne, h50, hp, rfl, e, he, hpl, hcd⟩
              · have pp : (p : Int) ≤ (s.size : Int) := by omega
                by_cases hshort : s.size - p < n
                · have HF := Lib.hid (St2.err hst.out hlt (textF_cut hok (by rw [List.length_drop, list_size]; exact hshort)) (by show (50 : Nat) ≠ 0; omega) (by show (50 : Nat) ≤ 50; omega))
                  have ps : (s.size : Int) - (p : Int) < (n : Int) := by omega
                  clear hst hok hshort
                  go_wp2_with fail
                  refine (HR.out _).mono ?_
                  rintro e w3 ⟨rfl, rfl⟩
                  go_wp2_with fail
                  go_roundw
                  case rel => exact ⟨j + 1, s.size, 50, v2, T, by omega, by omega, by omega, by omega, by go_num, rfl, rfl, .inr HF.out, henv.out⟩
                  case measure => simp [intOf]; omega
                · have hts := St2.more hst.out hlt (p := p + n) (by rw [← List.drop_drop]; exact textF_all hok (by rw [List.length_drop, list_size]; exact hshort))
                  have HSt := Lib.hid hts
                  have ps : (n : Int) ≤ (s.size : Int) - (p : Int) := by omega
                  have ps2 : (p : Int) + (n : Int) ≤ (s.size : Int) := by omega
                  have hmid := fun W => str_mid s p (p + n) (by omega) (by omega) (p : Int) ((p : Int) + (n : Int)) rfl (by omega) W
                  rw [show p + n - p = n by omega] at hmid
                  generalize (⟨((s.data.toList.drop p).take n).toArray⟩ : ByteArray) = t at hmid HSt
                  have hpn : p + n ≤ s.size := by omega
                  have hwpn : IntKind.i64.wrap ((p : Int) + (n : Int)) = (p : Int) + (n : Int) := i64_wrap (by omega) (by omega)
                  have hTb := strV_snoc2 T t
                  have HTb := Lib.hid hTb
                  clear hst hok hshort hts hTb
                  go_wp2_with fail
                  refine (HR.out _).mono ?_
                  rintro e w3 ⟨rfl, rfl⟩
                  go_upto_region 23 with fail
                  refine wp_region_said 9 [89, 90, 91, 92, 93, 94, 95, 96, 97]
                    [.is (.pointer (some ⟨W1.heap.size, 1, none⟩)), .is v2, .is (.string s), .is (.int .i64 (p : Int)), .is (.int .i64 (p : Int)), .is (.int .i64 (n : Int)), .is (.int .i64 ((p : Int) + (n : Int))), .is (.string t), .arr 9 #[.string t] 1 1]
                    (fun W => DcEnv W1 W W1.heap.size v1 v2 O T) (by kernel_rfl) (by kernel_rfl) (by kernel_rfl) (by kernel_rfl) (by kernel_rfl) (fun W W' h hb => h.step hb) henv.out ?steps ?last
                  case steps =>
                    simp only [List.take_succ_cons, List.take_zero]
                    refine ⟨?_, ?_, ?_, ?_, ?_, ?_, ?_, ?_, ?_, trivial⟩
                    all_goals
                      intro vs W ρ hρ hc hf hg hI hH hd R' hR
                      have k1' := hI.c1
                      have HR := Lib.hid hR
                      simp [depsOf, Region.binds, sayAt, Say.holds] at hd
                      clear hR hI k1
                      go_simp
                      first
                        | exact HR.out _ _ (by simp [sayAt, Say.holds]) (Below.refl _ _) (by simp [sayAt, Say.isBlk])
                        | exact HR.out _ _ ⟨_, hH, by simp, rfl, heap_alloc_new _ _⟩ ((Below.refl _ _).alloc (Nat.le_refl _) _) (fun h => by cases h)
                        | trace_state
                  case last =>
                    intro vs W hI hb hg hd
                    have g1 := hg 1 (by omega)
                    obtain ⟨o, ho1, ho2, g8, ho⟩ := hg 8 (by omega)
                    simp only [sayAt, Say.holds, List.getD_cons_succ, List.getD_cons_zero] at g1
                    simp only [List.take_succ_cons, List.take_zero, List.drop_succ_cons, List.drop_zero, putAll, Act.put, List.setIfInBounds_toArray, List.set_cons_succ, List.set_cons_zero, Nat.zero_add, Nat.reduceAdd]
                    rw [g1, g8]
                    have HI := Lib.hid hI
                    clear g1 g8 hg hd hI henv k1
                    refine wpList_append_own_at _ rfl _ _ 22 rfl (W1.heap.size + 1) 9 i0 (.string ⟨#[]⟩) 1 16 Try.underlying22 hi hz0 hz1 hz2 rfl (by decide) _ _ _ rfl HI.out.r1 ⟨o, 0, none⟩ 1 1 [.string t] rfl rfl ?d1 ?d2 ?d3 ?d4 HI.out.lt ?_
                    case d1 => exact str_one ho
                    case d2 => intro u hu; simp at hu; subst hu; rfl
                    case d3 => unfold maxLen; omega
                    case d4 => omega
                    intro v' w5 hown' hgrow _ hat
                    rw [← HTb.out] at hown'
                    obtain ⟨gn, capn, rfl, _, _⟩ := World.ownsRow.form hown' (by omega)
                    have HG := Lib.hid (DcEnv.grow2 HI.out hown' hgrow hat)
                    have k1' := HG.out.1.cell (i := 1) rfl
                    have kf := HG.out.1.free (i := 1)
                    clear hown' hgrow hat HI ho ho1 ho2 hb
                    go_wp2_with fail
                    go_roundw
                    case rel => exact ⟨j + 1, p + n, 0, _, T ++ [t], by omega, hpn, by omega, by rw [List.length_append, List.length_singleton]; omega, by go_num, by go_num, rfl, HSt.out, DcEnv.store2 HG.out (by rw [List.length_append, List.length_singleton])⟩
                    case measure => simp [intOf]; omega
              · have HF := Lib.hid (St2.err hst.out hlt (textF_err he) (by rw [← hcd]; exact hne) (by rw [← hcd]; exact h50))
                rw [← hpl, ← hcd] at HF
                have pc : ((c' : Int) == 0) = false := by simp; omega
                clear hst he hpl hcd
                go_wp2_with fail
                refine (HR.out _).mono ?_
                rintro e w3 ⟨rfl, rfl⟩
                go_wp2_with fail
                go_roundw
                case rel => exact ⟨j + 1, p, c', v2, T, by omega, hp, h50, by omega, by go_num, rfl, rfl, .inr HF.out, henv.out⟩
                case measure => simp [intOf]; omega
            · obtain rfl : j = m := by omega
              by_cases hta : a < s.size
              · have HD := Lib.hid (St2.tail hst.out hta)
                have pta : (a : Int) < (s.size : Int) := by omega
                have HRc := Lib.hid (henv.out.res HR0.out HR0.out.lt)
                have q0 := HRc.out.cell (i := 0) rfl
                have q1 := HRc.out.cell (i := 1) rfl
                have q2 := HRc.out.free (i := 0)
                have q3 := HRc.out.free (i := 1)
                clear hst hta
                go_wp2_with fail
                have HF := Lib.hid ((HRc.out.set (i := 0) (v := .slice none 0 0)).set (i := 1) (v := .slice none 0 0))
                have z0 := HF.out.cell (i := 0) rfl
                have z1 := HF.out.cell (i := 1) rfl
                exact bodyPost_ret (v := .tuple #[.agg #[.slice none 0 0, .slice none 0 0], .int .i64 (a : Int), .int .i64 (3 : Int)]) (by simp [results, Try.results38, go_sem, z0, z1]) rfl
                  (HMk.out none none 0 0 a 3 [] [] _ HD.out noInts noStrs (((HBW.out.trans (henv.out.bel.mono HBW.out.size)).setCell (Nat.le_refl _) _).setCell (Nat.le_refl _) _) ⟨Nat.zero_le _, Nat.zero_le _, Nat.zero_le _, Nat.zero_le _⟩ (fun _ e => by cases e) (fun _ e => by cases e))
              · have HD := Lib.hid (St2.whole hst.out (by omega))
                have pta : (s.size : Int) ≤ (a : Int) := by omega
                have HRc := Lib.hid (henv.out.res HR0.out HR0.out.lt)
                have q0 := HRc.out.cell (i := 0) rfl
                have q1 := HRc.out.cell (i := 1) rfl
                have q2 := HRc.out.free (i := 0)
                have q3 := HRc.out.free (i := 1)
                have k0 := henv.out.c0
                have k1 := henv.out.c1
                clear hst hta
                obtain ⟨A1, cA, rfl, l1, l2⟩ := own_form henv.out.r0
                obtain ⟨B1, cB, rfl, l3, l4⟩ := own_form henv.out.r1
                have HCap := Lib.hid (And.intro l1 (And.intro l3 (And.intro l2 l4)))
                clear l1 l2 l3 l4
                go_wp2_with fail
                have HF := Lib.hid ((HRc.out.set (i := 0) (v := .slice A1 O.length cA)).set (i := 1) (v := .slice B1 T.length cB))
                have z0 := HF.out.cell (i := 0) rfl
                have z1 := HF.out.cell (i := 1) rfl
                have hlt1 : w.heap.size < W1.heap.size + 1 := Nat.lt_succ_of_lt HR0.out.lt
                have rr0 := ownsRow_setCell_below (ownsRow_setCell_below henv.out.r0 (a := ⟨w.heap.size, 0, none⟩) hlt1 (.slice A1 O.length cA)) (a := ⟨w.heap.size, 1, none⟩) hlt1 (.slice B1 T.length cB)
                have rr1 := ownsRow_setCell_below (ownsRow_setCell_below henv.out.r1 (a := ⟨w.heap.size, 0, none⟩) hlt1 (.slice A1 O.length cA)) (a := ⟨w.heap.size, 1, none⟩) hlt1 (.slice B1 T.length cB)
                exact bodyPost_ret (v := .tuple #[.agg #[.slice A1 O.length cA, .slice B1 T.length cB], .int .i64 ((0 : Nat) : Int), .int .i64 ((0 : Nat) : Int)]) (by simp [results, Try.results38, go_sem, z0, z1]) rfl
                  (HMk.out A1 B1 cA cB 0 0 O T _ HD.out (ints_own_at rr0 rfl) (strs_own_at rr1 rfl) (((HBW.out.trans (henv.out.bel.mono HBW.out.size)).setCell (Nat.le_refl _) _).setCell (Nat.le_refl _) _) HCap.out (own_new henv.out.r0 (by have := HR0.out.lt; omega)) (own_new henv.out.r1 (by have := HR0.out.lt; omega)))
          · have HD := Lib.hid (Failed.out (hst.out.resolve_left (fun h => hc h.1)))
            have pc : ((c : Int) == 0) = false := by simp; omega
            have pc2 : ((c : Int) != 0) = true := by simp; omega
            have HRc := Lib.hid (henv.out.res HR0.out HR0.out.lt)
            have q0 := HRc.out.cell (i := 0) rfl
            have q1 := HRc.out.cell (i := 1) rfl
            have q2 := HRc.out.free (i := 0)
            have q3 := HRc.out.free (i := 1)
            clear hst
            go_wp2_with fail
            have HF := Lib.hid ((HRc.out.set (i := 0) (v := .slice none 0 0)).set (i := 1) (v := .slice none 0 0))
            have z0 := HF.out.cell (i := 0) rfl
            have z1 := HF.out.cell (i := 1) rfl
            exact bodyPost_ret (v := .tuple #[.agg #[.slice none 0 0, .slice none 0 0], .int .i64 (a : Int), .int .i64 (c : Int)]) (by simp [results, Try.results38, go_sem, z0, z1]) rfl
              (HMk.out none none 0 0 a c [] [] _ HD.out noInts noStrs (((HBW.out.trans (henv.out.bel.mono HBW.out.size)).setCell (Nat.le_refl _) _).setCell (Nat.le_refl _) _) ⟨Nat.zero_le _, Nat.zero_le _, Nat.zero_le _, Nat.zero_le _⟩ (fun _ e => by cases e) (fun _ e => by cases e))
    · have HD := Lib.hid (Failed.out (hst.out.resolve_left (fun h => hc h.1)))
      have pc : ((c : Int) == 0) = false := by simp; omega
      have pc2 : ((c : Int) != 0) = true := by simp; omega
      have HRc := Lib.hid (henv.out.res HR0.out HR0.out.lt)
      have q0 := HRc.out.cell (i := 0) rfl
      have q1 := HRc.out.cell (i := 1) rfl
      have q2 := HRc.out.free (i := 0)
      have q3 := HRc.out.free (i := 1)
      clear hst
      go_wp2_with fail
      obtain ⟨wo, rfl⟩ : ∃ wo : World, wo = wr := ⟨_, rfl⟩
      go_loopw [7, 8, 12] (fun at_ er i wr => at_ = .int .i64 (a : Int) ∧ er = .int .i64 (c : Int) ∧ i = .int .i64 0 ∧ wr = wo) (fun _ _ i _ => 1 - (intOf i).toNat)
      case atStart => exact ⟨rfl, rfl, rfl, rfl⟩
      case round =>
        obtain ⟨rfl, rfl, rfl, rfl⟩ := hrel
        go_wp2_with fail
        have HF := Lib.hid ((HRc.out.set (i := 0) (v := .slice none 0 0)).set (i := 1) (v := .slice none 0 0))
        have z0 := HF.out.cell (i := 0) rfl
        have z1 := HF.out.cell (i := 1) rfl
        exact bodyPost_ret (v := .tuple #[.agg #[.slice none 0 0, .slice none 0 0], .int .i64 (a : Int), .int .i64 (c : Int)]) (by simp [results, Try.results38, go_sem, z0, z1]) rfl
          (HMk.out none none 0 0 a c [] [] _ HD.out noInts noStrs (((HBW.out.trans (henv.out.bel.mono HBW.out.size)).setCell (Nat.le_refl _) _).setCell (Nat.le_refl _) _) ⟨Nat.zero_le _, Nat.zero_le _, Nat.zero_le _, Nat.zero_le _⟩ (fun _ e => by cases e) (fun _ e => by cases e))

end Pk
end Go.Proofs.Ytmllaighjhpbmaa
