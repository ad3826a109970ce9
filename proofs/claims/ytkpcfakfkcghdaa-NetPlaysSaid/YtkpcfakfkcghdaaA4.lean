/- Parts of the proof, joined: PkDec, BkAppend, LtBytes; their conditions stand with each. -/
import Derived.Maps.AppendAt
import Derived.OneCell
import Derived.Test.YtkpcfakfkcghdaaA2
import Derived.Test.YtkpcfakfkcghdaaA3

/- What the document's own Decode answers; contract; no condition but the range. -/
namespace Go.Proofs.Ytkpcfakfkcghdaa
namespace Pk
open Go.RowKit Bk

attribute [local go_sem ↓] Go.wp_at_zero Go.wp_at_succ
attribute [local go_sem] floatUpon pick


theorem strV_snoc2 (O : List ByteArray) (t : ByteArray) : strV (O ++ [t]) = strV O ++ [.string t] := by simp [strV]

theorem ints_own_at {w : World} {H n c : Nat} {A : Option Addr} {e : TypeId} {O : List Int} (h : w.ownsRow H e 1 (.slice A n c) n (intV O)) (hl : n = O.length) : IntsAt w A O := by
  obtain ⟨A', c', e, h2⟩ := ints_of_own h hl
  simp only [Value.slice.injEq] at e
  rw [e.1]; exact h2

theorem strs_own_at {w : World} {H n c : Nat} {A : Option Addr} {e : TypeId} {O : List ByteArray} (h : w.ownsRow H e 1 (.slice A n c) n (strV O)) (hl : n = O.length) : StrsAt w A O := by
  obtain ⟨A', c', e, h2⟩ := strs_of_own2 h hl
  simp only [Value.slice.injEq] at e
  rw [e.1]; exact h2

theorem DcEnv.res {w W : World} {g g' : Nat} {v1 v2 : Value} {ns : List Int} {ts : List ByteArray} {t : TypeId} {xs : List Value} (h : DcEnv w W g v1 v2 ns ts) (hr : Cel w g' t xs) (hg : g' < g) : Cel W g' t xs := (h.bel.block g' hg).trans hr

set_option maxRecDepth 20000 in
set_option maxHeartbeats 8000000 in
theorem decode_any (s : ByteArray) (w : World) (hs : s.size ≤ 1000000000000000) :
    Calls Try.prog 72 #[.string s] w (DecAns s w) := by
  obtain ⟨i0, hi, hz0, hz1, hz2⟩ := info_parts Try.infoStr
  obtain ⟨i1, hi', hz0', hz1', hz2'⟩ := info_parts Try.infoInt
  have hB : (s.size : Int) ≤ 1000000000000000 := by omega
  obtain ⟨many, a0, c0, hv0, hs0, hmany⟩ := cnt_said s 0 1024 (by omega)
  rw [List.drop_zero] at hs0
  have hC : ∀ W, Calls Try.prog 84 #[.string s, .int .i64 0, .int .i64 1024] W fun e w' => e = .returned (.tuple #[.int .i64 (many : Int), .int .i64 (a0 : Int), .int .i64 (c0 : Int)]) ∧ w' = W := fun W => by
    have h := count_any s 0 1024 W (by omega) hs (by omega)
    rw [hv0] at h
    exact h
  have HC := Lib.hid hC
  have HS0 := Lib.hid (St1.start hs0)
  have ha0 : a0 ≤ s.size ∧ c0 ≤ 50 := by rcases hs0 with ⟨h1, h2, _⟩ | ⟨_, h1, h2, _⟩ <;> exact ⟨by omega, by omega⟩
  have pmany : (many : Int) ≤ 1024 := by omega
  have HMk : Hid (∀ (A B : Option Addr) (c d : Nat) (x y : Nat) (ns : List Int) (ts : List ByteArray) (w' : World), decR s = (ns, ts, x, y) → IntsAt w' A ns → StrsAt w' B ts → Below w.heap.size w w' → (ns.length ≤ c ∧ ts.length ≤ d ∧ c ≤ maxLen ∧ d ≤ maxLen) → (∀ ad, A = some ad → w.heap.size ≤ ad.block) → (∀ ad, B = some ad → w.heap.size ≤ ad.block) → DecAns s w (.returned (.tuple #[packV A B c d ns ts, .int .i64 (x : Int), .int .i64 (y : Int)])) w') := Lib.hid (fun A B c d x y ns ts w' h1 h2 h3 h4 h5 h6 h7 => by
    refine ⟨A, B, c, d, ?_, ?_, ?_, h4, ?_, h6, h7⟩ <;> rw [h1]
    · exact h2
    · exact h3
    · exact h5)
  unfold packV at HMk
  clear hC hv0 hs0
  go_enter Try.func72, Try.ntmps72
  go_upto_region 1 with fail
  have hR0 : Cel (w.alloc (.cells #[.slice none 0 0, .slice none 0 0] 71)) w.heap.size 71 [.slice none 0 0, .slice none 0 0] := (blk1 w _).2
  have hBW : Below w.heap.size w (w.alloc (.cells #[.slice none 0 0, .slice none 0 0] 71)) := (Below.refl _ w).alloc (Nat.le_refl _) _
  generalize w.alloc (.cells #[.slice none 0 0, .slice none 0 0] 71) = W1 at hR0 hBW ⊢
  have HR0 := Lib.hid hR0
  have HBW := Lib.hid hBW
  have HE0 := Lib.hid (DcEnv.start W1)
  clear hR0 hBW
  go_wp2_with fail
  refine (HC.out _).mono ?_
  rintro e w2 ⟨rfl, rfl⟩
  clear HC
  go_wp2_with fail
  go_loopw [7, 8, 9] (fun at_ er i wr => ∃ (j a c : Nat) (v1 : Value) (O : List Int), j ≤ many ∧ a ≤ s.size ∧ c ≤ 50 ∧ O.length = j ∧ i = .int .i64 (j : Int) ∧ at_ = .int .i64 (a : Int) ∧ er = .int .i64 (c : Int) ∧ Hid (St1 s many j a c O) ∧ Hid (DcEnv W1 wr W1.heap.size v1 (.slice none 0 0) O [])) (fun _ _ i _ => many - (intOf i).toNat)
  case atStart => exact ⟨0, a0, c0, .slice none 0 0, [], by omega, ha0.1, ha0.2, rfl, rfl, rfl, rfl, HS0.out, HE0.out⟩
  case round =>
    obtain ⟨j, a, c, v1, O, hj, ha, hc50, hOl, rfl, rfl, rfl, hst, henv⟩ := hrel
    clear HS0 HE0 ha0
    have pa : (a : Int) ≤ (s.size : Int) := by omega
    by_cases hc : c = 0
    · subst hc
      by_cases hlt : j < many
      · have pj : (j : Int) < (many : Int) := by omega
        obtain ⟨n, p, c', hv, hsd⟩ := read_said s a ha
        have hR : ∀ W, Calls Try.prog 85 #[.string s, .int .i64 (a : Int)] W fun e w' => e = .returned (.tuple #[.int .i64 (n : Int), .int .i64 (p : Int), .int .i64 (c' : Int)]) ∧ w' = W := fun W => by
          have h := read_any s a W ha hs
          rw [hv] at h
          exact h
        have HR := Lib.hid hR
        have HSt := Lib.hid (St1.step hst.out hlt hsd)
        have hn9 : n < 9223372036854775808 := by rcases hsd with ⟨_, _, h, _⟩ | ⟨_, _, _, h, _⟩ <;> omega
        have hp : p ≤ s.size ∧ c' ≤ 50 := by rcases hsd with ⟨h1, h2, _⟩ | ⟨_, h1, h2, _⟩ <;> exact ⟨by omega, by omega⟩
        have hdiv : (n : Int).tdiv 2 = ((n / 2 : Nat) : Int) := by rw [Int.tdiv_eq_ediv_of_nonneg (by omega)]; omega
        have hmod : (n : Int).tmod 2 = ((n % 2 : Nat) : Int) := by rw [Int.tmod_eq_emod_of_nonneg (by omega)]; omega
        have hy : n / 2 ≤ 4611686018427387903 := by omega
        have k0 := henv.out.c0
        have HP := Lib.hid hp
        clear hv hsd hR hst hp
        by_cases hodd : n % 2 = 1
        · have hu : unzig n = -((n / 2 : Nat) : Int) - 1 := by unfold unzig; rw [if_pos hodd]
          have hsn := intV_snoc O (unzig n)
          rw [hu] at hsn HSt
          rw [hodd] at hmod
          have hb : ((n : Int) % 2 == 1) = true := by rw [show (n : Int) % 2 = 1 by omega]; rfl
          generalize n / 2 = y at hdiv hy hsn HSt
          have hyi : (y : Int) ≤ 4611686018427387903 := by omega
          have HSn := Lib.hid hsn
          clear hmod hodd hu hsn hn9
          go_wp2_with fail
          refine (HR.out _).mono ?_
          rintro e w3 ⟨rfl, rfl⟩
          go_wp2_with (at_builtin; refine wpList_append_own_at _ rfl _ _ 43 rfl (W1.heap.size + 1) 3 i1 (.int .i64 0) 1 8 Try.underlying43 hi' hz0' hz1' hz2' rfl (by decide) _ _ _ rfl (henv.out.r0.alloc _) ⟨w3.heap.size, 0, none⟩ 1 1 [.int .i64 (-(y : Int) - 1)] rfl rfl ?c1 ?c2 ?c3 ?c4 ?c5 ?_)
          case c1 => exact cell_one_new _ _ _
          case c2 => intro u hu; simp at hu; subst hu; rfl
          case c3 => unfold maxLen; omega
          case c4 => omega
          case c5 => have := henv.out.lt; simp; omega
          intro v' w5 hown' hgrow _ hat
          rw [← HSn.out] at hown'
          obtain ⟨gn, capn, rfl, _, _⟩ := World.ownsRow.form hown' (by omega)
          have HG := Lib.hid (DcEnv.grow1 (henv.out.step ((Below.refl _ w3).alloc (Nat.le_refl _) _)) hown' hgrow (by simpa using hat))
          have k0' := HG.out.1.cell (i := 0) rfl
          have kf := HG.out.1.free (i := 0)
          clear hown' hgrow hat henv k0
          go_wp2_with fail
          go_roundw
          case rel => exact ⟨j + 1, p, c', _, O ++ [-(y : Int) - 1], by omega, HP.out.1, HP.out.2, by rw [List.length_append, List.length_singleton, hOl], by go_num, rfl, rfl, HSt.out, DcEnv.store1 HG.out (by rw [List.length_append, List.length_singleton, hOl])⟩
          case measure => simp [intOf]; omega
        · have hu : unzig n = ((n / 2 : Nat) : Int) := by unfold unzig; rw [if_neg hodd]
          have hsn := intV_snoc O (unzig n)
          rw [hu] at hsn HSt
          have hb : ((n : Int) % 2 == 1) = false := by rw [show (n : Int) % 2 = 0 by omega]; rfl
          generalize n / 2 = y at hdiv hy hsn HSt
          have hyi : (y : Int) ≤ 4611686018427387903 := by omega
          have HSn := Lib.hid hsn
          clear hmod hodd hu hsn hn9
          go_wp2_with fail
          refine (HR.out _).mono ?_
          rintro e w3 ⟨rfl, rfl⟩
          go_wp2_with (at_builtin; refine wpList_append_own_at _ rfl _ _ 43 rfl (W1.heap.size + 1) 3 i1 (.int .i64 0) 1 8 Try.underlying43 hi' hz0' hz1' hz2' rfl (by decide) _ _ _ rfl (henv.out.r0.alloc _) ⟨w3.heap.size, 0, none⟩ 1 1 [.int .i64 ((y : Int))] rfl rfl ?c1 ?c2 ?c3 ?c4 ?c5 ?_)
          case c1 => exact cell_one_new _ _ _
          case c2 => intro u hu; simp at hu; subst hu; rfl
          case c3 => unfold maxLen; omega
          case c4 => omega
          case c5 => have := henv.out.lt; simp; omega
          intro v' w5 hown' hgrow _ hat
          rw [← HSn.out] at hown'
          obtain ⟨gn, capn, rfl, _, _⟩ := World.ownsRow.form hown' (by omega)
          have HG := Lib.hid (DcEnv.grow1 (henv.out.step ((Below.refl _ w3).alloc (Nat.le_refl _) _)) hown' hgrow (by simpa using hat))
          have k0' := HG.out.1.cell (i := 0) rfl
          have kf := HG.out.1.free (i := 0)
          clear hown' hgrow hat henv k0
          go_wp2_with fail
          go_roundw
          case rel => exact ⟨j + 1, p, c', _, O ++ [(y : Int)], by omega, HP.out.1, HP.out.2, by rw [List.length_append, List.length_singleton, hOl], by go_num, rfl, rfl, HSt.out, DcEnv.store1 HG.out (by rw [List.length_append, List.length_singleton, hOl])⟩
          case measure => simp [intOf]; omega
      · obtain rfl : j = many := by omega
        clear hOl
        obtain ⟨m, p, c', hv, hsd, hm⟩ := cnt_said s a 1024 ha
        have hR : ∀ W, Calls Try.prog 84 #[.string s, .int .i64 (a : Int), .int .i64 1024] W fun e w' => e = .returned (.tuple #[.int .i64 (m : Int), .int .i64 (p : Int), .int .i64 (c' : Int)]) ∧ w' = W := fun W => by
          have h := count_any s a 1024 W ha hs (by omega)
          rw [hv] at h
          exact h
        have HR := Lib.hid hR
        have HSt := Lib.hid (St2.start hst.out hsd)
        have hp : p ≤ s.size ∧ c' ≤ 50 := by rcases hsd with ⟨h1, h2, _⟩ | ⟨_, h1, h2, _⟩ <;> exact ⟨by omega, by omega⟩
        have HP := Lib.hid hp
        clear hv hsd hR hst hp
        go_wp2_with fail
        refine (HR.out _).mono ?_
        rintro e w3 ⟨rfl, rfl⟩
        clear HR
        go_wp2_with fail
        go_loopw [7, 8, 12] (fun at_ er i wr => ∃ (j a c : Nat) (v2 : Value) (T : List ByteArray), j ≤ m ∧ a ≤ s.size ∧ c ≤ 50 ∧ T.length ≤ j ∧ i = .int .i64 (j : Int) ∧ at_ = .int .i64 (a : Int) ∧ er = .int .i64 (c : Int) ∧ Hid (St2 s m j a c O T) ∧ Hid (DcEnv W1 wr W1.heap.size v1 v2 O T)) (fun _ _ i _ => m - (intOf i).toNat)
        case atStart => exact ⟨0, p, c', .slice none 0 0, [], by omega, HP.out.1, HP.out.2, by simp, rfl, rfl, rfl, HSt.out, henv.out⟩
        case round =>
          obtain ⟨j, a, c, v2, T, hj, ha, hc50, hTl, rfl, rfl, rfl, hst, henv⟩ := hrel
          clear HSt HP
          have pa : (a : Int) ≤ (s.size : Int) := by omega
          have pm : (m : Int) ≤ 1024 := by omega
          by_cases hc : c = 0
          · subst hc
            by_cases hlt : j < m
            · have pj : (j : Int) < (m : Int) := by omega
              obtain ⟨n, p, c', hv, hsd, hn⟩ := cnt_said s a 4096 ha
              have hR : ∀ W, Calls Try.prog 84 #[.string s, .int .i64 (a : Int), .int .i64 4096] W fun e w' => e = .returned (.tuple #[.int .i64 (n : Int), .int .i64 (p : Int), .int .i64 (c' : Int)]) ∧ w' = W := fun W => by
                have h := count_any s a 4096 W ha hs (by omega)
                rw [hv] at h
                exact h
              have HR := Lib.hid hR
              have pn : (n : Int) ≤ 4096 := by omega
              have k1 := henv.out.c1
              clear hv hR
              rcases hsd with ⟨rfl, hp, _, hok⟩ | ⟨hne, h50, hp, rfl, e, he, hpl, hcd⟩
              · have pp : (p : Int) ≤ (s.size : Int) := by omega
                by_cases hshort : s.size - p < n
                · have HF := Lib.hid (St2.err hst.out hlt (textF_cut hok (by rw [List.length_drop, list_size]; exact hshort)) (by show (50 : Nat) ≠ 0; omega) (by show (50 : Nat) ≤ 50; omega))
                  have ps : (s.size : Int) - (p : Int) < (n : Int) := by omega
                  clear hst hok hshort
                  go_wp2_with fail
                  refine (HR.out _).mono ?_
                  rintro e w3 ⟨rfl, rfl⟩
                  go_wp2_with fail
                  go_roundw
                  case rel => exact ⟨j + 1, s.size, 50, v2, T, by omega, by omega, by omega, by omega, by go_num, rfl, rfl, .inr HF.out, henv.out⟩
                  case measure => simp [intOf]; omega
                · have hts := St2.more hst.out hlt (p := p + n) (by rw [← List.drop_drop]; exact textF_all hok (by rw [List.length_drop, list_size]; exact hshort))
                  have HSt := Lib.hid hts
                  have ps : (n : Int) ≤ (s.size : Int) - (p : Int) := by omega
                  have ps2 : (p : Int) + (n : Int) ≤ (s.size : Int) := by omega
                  have hmid := fun W => str_mid s p (p + n) (by omega) (by omega) (p : Int) ((p : Int) + (n : Int)) rfl (by omega) W
                  rw [show p + n - p = n by omega] at hmid
                  generalize (⟨((s.data.toList.drop p).take n).toArray⟩ : ByteArray) = t at hmid HSt
                  have hpn : p + n ≤ s.size := by omega
                  have hwpn : IntKind.i64.wrap ((p : Int) + (n : Int)) = (p : Int) + (n : Int) := i64_wrap (by omega) (by omega)
                  have hTb := strV_snoc2 T t
                  have HTb := Lib.hid hTb
                  clear hst hok hshort hts hTb
                  go_wp2_with fail
                  refine (HR.out _).mono ?_
                  rintro e w3 ⟨rfl, rfl⟩
                  go_upto_region 23 with fail
                  refine wp_region_said 9 [89, 90, 91, 92, 93, 94, 95, 96, 97]
                    [.is (.pointer (some ⟨W1.heap.size, 1, none⟩)), .is v2, .is (.string s), .is (.int .i64 (p : Int)), .is (.int .i64 (p : Int)), .is (.int .i64 (n : Int)), .is (.int .i64 ((p : Int) + (n : Int))), .is (.string t), .arr 9 #[.string t] 1 1]
                    (fun W => DcEnv W1 W W1.heap.size v1 v2 O T) (by kernel_rfl) (by kernel_rfl) (by kernel_rfl) (by kernel_rfl) (by kernel_rfl) (fun W W' h hb => h.step hb) henv.out ?steps ?last
                  case steps =>
                    simp only [List.take_succ_cons, List.take_zero]
                    refine ⟨?_, ?_, ?_, ?_, ?_, ?_, ?_, ?_, ?_, trivial⟩
                    all_goals
                      intro vs W ρ hρ hc hf hg hI hH hd R' hR
                      have k1' := hI.c1
                      have HR := Lib.hid hR
                      simp [depsOf, Region.binds, sayAt, Say.holds] at hd
                      clear hR hI k1
                      go_simp
                      first
                        | exact HR.out _ _ (by simp [sayAt, Say.holds]) (Below.refl _ _) (by simp [sayAt, Say.isBlk])
                        | exact HR.out _ _ ⟨_, hH, by simp, rfl, heap_alloc_new _ _⟩ ((Below.refl _ _).alloc (Nat.le_refl _) _) (fun h => by cases h)
                        | trace_state
                  case last =>
                    intro vs W hI hb hg hd
                    have g1 := hg 1 (by omega)
                    obtain ⟨o, ho1, ho2, g8, ho⟩ := hg 8 (by omega)
                    simp only [sayAt, Say.holds, List.getD_cons_succ, List.getD_cons_zero] at g1
                    simp only [List.take_succ_cons, List.take_zero, List.drop_succ_cons, List.drop_zero, putAll, Act.put, List.setIfInBounds_toArray, List.set_cons_succ, List.set_cons_zero, Nat.zero_add, Nat.reduceAdd]
                    rw [g1, g8]
                    have HI := Lib.hid hI
                    clear g1 g8 hg hd hI henv k1
                    refine wpList_append_own_at _ rfl _ _ 32 rfl (W1.heap.size + 1) 9 i0 (.string ⟨#[]⟩) 1 16 Try.underlying32 hi hz0 hz1 hz2 rfl (by decide) _ _ _ rfl HI.out.r1 ⟨o, 0, none⟩ 1 1 [.string t] rfl rfl ?d1 ?d2 ?d3 ?d4 HI.out.lt ?_
                    case d1 => exact str_one ho
                    case d2 => intro u hu; simp at hu; subst hu; rfl
                    case d3 => unfold maxLen; omega
                    case d4 => omega
                    intro v' w5 hown' hgrow _ hat
                    rw [← HTb.out] at hown'
                    obtain ⟨gn, capn, rfl, _, _⟩ := World.ownsRow.form hown' (by omega)
                    have HG := Lib.hid (DcEnv.grow2 HI.out hown' hgrow hat)
                    have k1' := HG.out.1.cell (i := 1) rfl
                    have kf := HG.out.1.free (i := 1)
                    clear hown' hgrow hat HI ho ho1 ho2 hb
                    go_wp2_with fail
                    go_roundw
                    case rel => exact ⟨j + 1, p + n, 0, _, T ++ [t], by omega, hpn, by omega, by rw [List.length_append, List.length_singleton]; omega, by go_num, by go_num, rfl, HSt.out, DcEnv.store2 HG.out (by rw [List.length_append, List.length_singleton])⟩
                    case measure => simp [intOf]; omega
              · have HF := Lib.hid (St2.err hst.out hlt (textF_err he) (by rw [← hcd]; exact hne) (by rw [← hcd]; exact h50))
                rw [← hpl, ← hcd] at HF
                have pc : ((c' : Int) == 0) = false := by simp; omega
                clear hst he hpl hcd
                go_wp2_with fail
                refine (HR.out _).mono ?_
                rintro e w3 ⟨rfl, rfl⟩
                go_wp2_with fail
                go_roundw
                case rel => exact ⟨j + 1, p, c', v2, T, by omega, hp, h50, by omega, by go_num, rfl, rfl, .inr HF.out, henv.out⟩
                case measure => simp [intOf]; omega
            · obtain rfl : j = m := by omega
              by_cases hta : a < s.size
              · have HD := Lib.hid (St2.tail hst.out hta)
                have pta : (a : Int) < (s.size : Int) := by omega
                have HRc := Lib.hid (henv.out.res HR0.out HR0.out.lt)
                have q0 := HRc.out.cell (i := 0) rfl
                have q1 := HRc.out.cell (i := 1) rfl
                have q2 := HRc.out.free (i := 0)
                have q3 := HRc.out.free (i := 1)
                clear hst hta
                go_wp2_with fail
                have HF := Lib.hid ((HRc.out.set (i := 0) (v := .slice none 0 0)).set (i := 1) (v := .slice none 0 0))
                have z0 := HF.out.cell (i := 0) rfl
                have z1 := HF.out.cell (i := 1) rfl
                exact bodyPost_ret (v := .tuple #[.agg #[.slice none 0 0, .slice none 0 0], .int .i64 (a : Int), .int .i64 (3 : Int)]) (by simp [results, Try.results72, go_sem, z0, z1]) rfl
                  (HMk.out none none 0 0 a 3 [] [] _ HD.out noInts noStrs (((HBW.out.trans (henv.out.bel.mono HBW.out.size)).setCell (Nat.le_refl _) _).setCell (Nat.le_refl _) _) ⟨Nat.zero_le _, Nat.zero_le _, Nat.zero_le _, Nat.zero_le _⟩ (fun _ e => by cases e) (fun _ e => by cases e))
              · have HD := Lib.hid (St2.whole hst.out (by omega))
                have pta : (s.size : Int) ≤ (a : Int) := by omega
                have HRc := Lib.hid (henv.out.res HR0.out HR0.out.lt)
                have q0 := HRc.out.cell (i := 0) rfl
                have q1 := HRc.out.cell (i := 1) rfl
                have q2 := HRc.out.free (i := 0)
                have q3 := HRc.out.free (i := 1)
                have k0 := henv.out.c0
                have k1 := henv.out.c1
                clear hst hta
                obtain ⟨A1, cA, rfl, l1, l2⟩ := own_form henv.out.r0
                obtain ⟨B1, cB, rfl, l3, l4⟩ := own_form henv.out.r1
                have HCap := Lib.hid (And.intro l1 (And.intro l3 (And.intro l2 l4)))
                clear l1 l2 l3 l4
                go_wp2_with fail
                have HF := Lib.hid ((HRc.out.set (i := 0) (v := .slice A1 O.length cA)).set (i := 1) (v := .slice B1 T.length cB))
                have z0 := HF.out.cell (i := 0) rfl
                have z1 := HF.out.cell (i := 1) rfl
                have hlt1 : w.heap.size < W1.heap.size + 1 := Nat.lt_succ_of_lt HR0.out.lt
                have rr0 := ownsRow_setCell_below (ownsRow_setCell_below henv.out.r0 (a := ⟨w.heap.size, 0, none⟩) hlt1 (.slice A1 O.length cA)) (a := ⟨w.heap.size, 1, none⟩) hlt1 (.slice B1 T.length cB)
                have rr1 := ownsRow_setCell_below (ownsRow_setCell_below henv.out.r1 (a := ⟨w.heap.size, 0, none⟩) hlt1 (.slice A1 O.length cA)) (a := ⟨w.heap.size, 1, none⟩) hlt1 (.slice B1 T.length cB)
                exact bodyPost_ret (v := .tuple #[.agg #[.slice A1 O.length cA, .slice B1 T.length cB], .int .i64 ((0 : Nat) : Int), .int .i64 ((0 : Nat) : Int)]) (by simp [results, Try.results72, go_sem, z0, z1]) rfl
                  (HMk.out A1 B1 cA cB 0 0 O T _ HD.out (ints_own_at rr0 rfl) (strs_own_at rr1 rfl) (((HBW.out.trans (henv.out.bel.mono HBW.out.size)).setCell (Nat.le_refl _) _).setCell (Nat.le_refl _) _) HCap.out (own_new henv.out.r0 (by have := HR0.out.lt; omega)) (own_new henv.out.r1 (by have := HR0.out.lt; omega)))
          · have HD := Lib.hid (Failed.out (hst.out.resolve_left (fun h => hc h.1)))
            have pc : ((c : Int) == 0) = false := by simp; omega
            have pc2 : ((c : Int) != 0) = true := by simp; omega
            have HRc := Lib.hid (henv.out.res HR0.out HR0.out.lt)
            have q0 := HRc.out.cell (i := 0) rfl
            have q1 := HRc.out.cell (i := 1) rfl
            have q2 := HRc.out.free (i := 0)
            have q3 := HRc.out.free (i := 1)
            clear hst
            go_wp2_with fail
            have HF := Lib.hid ((HRc.out.set (i := 0) (v := .slice none 0 0)).set (i := 1) (v := .slice none 0 0))
            have z0 := HF.out.cell (i := 0) rfl
            have z1 := HF.out.cell (i := 1) rfl
            exact bodyPost_ret (v := .tuple #[.agg #[.slice none 0 0, .slice none 0 0], .int .i64 (a : Int), .int .i64 (c : Int)]) (by simp [results, Try.results72, go_sem, z0, z1]) rfl
              (HMk.out none none 0 0 a c [] [] _ HD.out noInts noStrs (((HBW.out.trans (henv.out.bel.mono HBW.out.size)).setCell (Nat.le_refl _) _).setCell (Nat.le_refl _) _) ⟨Nat.zero_le _, Nat.zero_le _, Nat.zero_le _, Nat.zero_le _⟩ (fun _ e => by cases e) (fun _ e => by cases e))
    · have HD := Lib.hid (Failed.out (hst.out.resolve_left (fun h => hc h.1)))
      have pc : ((c : Int) == 0) = false := by simp; omega
      have pc2 : ((c : Int) != 0) = true := by simp; omega
      have HRc := Lib.hid (henv.out.res HR0.out HR0.out.lt)
      have q0 := HRc.out.cell (i := 0) rfl
      have q1 := HRc.out.cell (i := 1) rfl
      have q2 := HRc.out.free (i := 0)
      have q3 := HRc.out.free (i := 1)
      clear hst
      go_wp2_with fail
      obtain ⟨wo, rfl⟩ : ∃ wo : World, wo = wr := ⟨_, rfl⟩
      go_loopw [7, 8, 12] (fun at_ er i wr => at_ = .int .i64 (a : Int) ∧ er = .int .i64 (c : Int) ∧ i = .int .i64 0 ∧ wr = wo) (fun _ _ i _ => 1 - (intOf i).toNat)
      case atStart => exact ⟨rfl, rfl, rfl, rfl⟩
      case round =>
        obtain ⟨rfl, rfl, rfl, rfl⟩ := hrel
        go_wp2_with fail
        have HF := Lib.hid ((HRc.out.set (i := 0) (v := .slice none 0 0)).set (i := 1) (v := .slice none 0 0))
        have z0 := HF.out.cell (i := 0) rfl
        have z1 := HF.out.cell (i := 1) rfl
        exact bodyPost_ret (v := .tuple #[.agg #[.slice none 0 0, .slice none 0 0], .int .i64 (a : Int), .int .i64 (c : Int)]) (by simp [results, Try.results72, go_sem, z0, z1]) rfl
          (HMk.out none none 0 0 a c [] [] _ HD.out noInts noStrs (((HBW.out.trans (henv.out.bel.mono HBW.out.size)).setCell (Nat.le_refl _) _).setCell (Nat.le_refl _) _) ⟨Nat.zero_le _, Nat.zero_le _, Nat.zero_le _, Nat.zero_le _⟩ (fun _ e => by cases e) (fun _ e => by cases e))

end Pk
end Go.Proofs.Ytkpcfakfkcghdaa

/- append onto an empty literal: a row of its own, no old block written; no condition but the range. -/
namespace Go.Proofs.Ytkpcfakfkcghdaa
namespace Bk
open Go.RowKit

theorem setRow_same {w : World} {g : Nat} {cs : Array Value} {t : TypeId} {m : Nat × Nat} (h : w.heap[g]? = some (.cells cs t m)) : Below w.heap.size w (w.setRow g cs) :=
  ⟨rfl, rfl, rfl, by simp, fun k hk => by
    by_cases e : k = g
    · subst e; rw [setRow_heap w k cs cs t m h, h]
    · exact setRow_other w g k _ e⟩

theorem run_append_empty {P : Program} (w : World) (base : Nat) (t ty e : TypeId) (i : TypeInfo) (z : Value) (bytes : Nat) (ht : P.underlying t = some (.slice e)) (hi : P.info? e = some i) (hz : i.zero = some z)
    (hsize : i.size = 1) (hby : i.bytes = bytes) (hzs : z.cells.size = 1) (g : Nat) (hg : w.heap[g]? = some (.cells #[] e (0, 0))) (hbg : base ≤ g)
    (A : Option Addr) (m c : Nat) (news : List Value) (hl : news.length = m) (hA : A = none → m = 0 ∧ c = 0) (hnews : ∀ ad, A = some ad → ∀ j u, news[j]? = some u → w.cell? (ad.add j) = some u) (h1 : ∀ u ∈ news, u.oneCell' = true)
    (h63 : m ≤ maxLen) (hbytes : m * bytes ≤ 140737488355328) :
    ∃ v' w', (Builtin.append_ #[t, t] ty #[.slice (some ⟨g, 0, none⟩) 0 0, .slice A m c]).run P w = .ok v' w' ∧ w'.ownsRow base e 1 v' m news ∧ Below w.heap.size w w' ∧ (∃ g' cap, v' = .slice (some ⟨g', 0, none⟩) m cap ∧ (m = 0 → cap = 0)) := by
  have hlt : g < w.heap.size := (Array.getElem?_eq_some_iff.1 hg).1
  have hown : w.ownsRow base e 1 (.slice (some ⟨g, 0, none⟩) 0 0) 0 [] := ⟨rfl, .inr ⟨g, 0, #[], rfl, hbg, hg, Nat.le_refl _, Nat.zero_le _, rfl, rfl⟩⟩
  cases A with
  | none =>
    obtain ⟨rfl, rfl⟩ := hA rfl
    obtain rfl : news = [] := List.eq_nil_of_length_eq_zero hl
    exact ⟨_, _, run_append_owned_none (P := P) w base t ty e i 1 ht hi _ _ _ hown, hown, Below.refl _ _, g, 0, rfl, fun _ => rfl⟩
  | some ad =>
    by_cases hm : m = 0
    · subst hm
      obtain rfl : news = [] := List.eq_nil_of_length_eq_zero hl
      have hr := run_append_room (P := P) w t ty e i ht hi g 0 0 #[] hg ad 0 c [] (by simp) (fun j u h => by simp at h) (fun u h => by simp at h) (by omega) (by simp)
      have he : (List.take (0 * i.size) (#[] : Array Value).toList ++ ([] : List Value) ++ List.drop (0 * i.size + ([] : List Value).length) (#[] : Array Value).toList).toArray = (#[] : Array Value) := by simp
      rw [he] at hr
      refine ⟨_, _, hr, ?_, ?_, g, 0, rfl, fun _ => rfl⟩
      · refine ⟨rfl, .inr ⟨g, 0, #[], rfl, hbg, ?_, Nat.le_refl _, Nat.zero_le _, rfl, rfl⟩⟩
        exact setRow_heap w g _ _ e _ hg
      · exact setRow_same hg
    · have hb2 : (0 + m) * bytes ≤ 140737488355328 := by rw [Nat.zero_add]; exact hbytes
      obtain ⟨v', w', hr, h2, h3, _, _⟩ := run_append_own_at (P := P) w base t ty e i z 1 bytes ht hi hz hsize hby hzs (by decide) _ 0 [] hown ad m c news (by rw [hl, Nat.mul_one]) (hnews ad rfl) h1 (by omega) hb2 (by omega)
      have hr2 := run_append_grow (P := P) w t ty e i z ht hi hz ⟨g, 0, none⟩ 0 0 [] (by simp) (fun j v h => by simp at h) ad m c news (by rw [hl, hsize, Nat.mul_one]) (hnews ad rfl) (by omega) (by unfold maxLen at h63; omega) (growslice_fits (by omega) (by rw [hby]; exact hb2))
      rw [hr] at hr2
      simp only [Result.ok.injEq] at hr2
      obtain ⟨e1, e2⟩ := hr2
      rw [Nat.zero_add, List.nil_append] at h2
      refine ⟨v', w', hr, h2, ?_, w.heap.size, _, by rw [e1, Nat.zero_add], fun h => absurd h hm⟩
      rw [e2]
      exact (Below.refl _ w).drew.alloc (by simp) _

/-- append of a row that may be nil onto an owned row -/
theorem run_append_opt {P : Program} (w : World) (base : Nat) (t ty e : TypeId) (i : TypeInfo) (z : Value) (bytes : Nat) (ht : P.underlying t = some (.slice e)) (hi : P.info? e = some i) (hz : i.zero = some z)
    (hsize : i.size = 1) (hby : i.bytes = bytes) (hzs : z.cells.size = 1) (v : Value) (n : Nat) (xs : List Value) (hown : w.ownsRow base e 1 v n xs)
    (A : Option Addr) (m c : Nat) (news : List Value) (hl : news.length = m) (hA : A = none → m = 0 ∧ c = 0) (hnews : ∀ ad, A = some ad → ∀ j u, news[j]? = some u → w.cell? (ad.add j) = some u) (h1 : ∀ u ∈ news, u.oneCell' = true)
    (h63 : n + m ≤ maxLen) (hbytes : (n + m) * bytes ≤ 140737488355328) (hbase : base ≤ w.heap.size) :
    ∃ v' w', (Builtin.append_ #[t, t] ty #[v, .slice A m c]).run P w = .ok v' w' ∧ w'.ownsRow base e 1 v' (n + m) (xs ++ news) ∧ w.grownBy w' v.ownBlock ∧ (v'.ownBlock = v.ownBlock ∨ v'.ownBlock = some w.heap.size) := by
  cases A with
  | none =>
    obtain ⟨rfl, rfl⟩ := hA rfl
    obtain rfl : news = [] := List.eq_nil_of_length_eq_zero hl
    exact ⟨v, w, run_append_owned_none (P := P) w base t ty e i 1 ht hi _ _ _ hown, by rw [List.append_nil]; exact hown, ⟨rfl, rfl, rfl, Nat.le_refl _, fun _ _ _ => rfl⟩, .inl rfl⟩
  | some ad =>
    obtain ⟨v', w', hr, h2, h3, _, h5⟩ := run_append_own_at (P := P) w base t ty e i z 1 bytes ht hi hz hsize hby hzs (by omega) v n xs hown ad m c news (by omega) (hnews ad rfl) h1 h63 hbytes hbase
    exact ⟨v', w', hr, h2, h3, h5⟩

theorem wpList_append_opt {P : Program} {w : World} {ops : Array Oper} {rest : List Oper} {o : Oper} {a : Act} {Q : Exit → Act → World → Prop} (hgd : o.guard = none) (s x : Operand) (t : TypeId)
    (ho : o.op = .call { callee := .builtin .append, args := #[s, x], argTypes := #[t, t] })
    (base : Nat) (e : TypeId) (i : TypeInfo) (z : Value) (bytes : Nat) (ht : P.underlying t = some (.slice e)) (hi : P.info? e = some i) (hz : i.zero = some z)
    (hsize : i.size = 1) (hby : i.bytes = bytes) (hzs : z.cells.size = 1) (v : Value) (n : Nat) (xs : List Value) (hs : a.eval s = v) (hown : w.ownsRow base e 1 v n xs)
    (A : Option Addr) (m c : Nat) (news : List Value) (hx : a.eval x = .slice A m c) (hl : news.length = m) (hA : A = none → m = 0 ∧ c = 0) (hnews : ∀ ad, A = some ad → ∀ j u, news[j]? = some u → w.cell? (ad.add j) = some u) (h1 : ∀ u ∈ news, u.oneCell' = true)
    (h63 : n + m ≤ maxLen) (hbytes : (n + m) * bytes ≤ 140737488355328) (hbase : base ≤ w.heap.size)
    (h : ∀ v' w', w'.ownsRow base e 1 v' (n + m) (xs ++ news) → w.grownBy w' v.ownBlock → (v'.ownBlock = v.ownBlock ∨ v'.ownBlock = some w.heap.size) → wpList P ops Q rest (a.put o.dst v') w') :
    wpList P ops Q (o :: rest) a w := by
  refine wpList_plain hgd fun K hK => ?_
  obtain ⟨v', w', hr, h2, h3, h5⟩ := run_append_opt (P := P) w base t o.type e i z bytes ht hi hz hsize hby hzs v n xs hown A m c news hl hA hnews h1 h63 hbytes hbase
  unfold Oper.wp execOp
  simp only [ho, resolve, invoke, builtin, Sem.run_bind, Sem.run_pure, Result.andThen_ok, List.map_toArray, List.map_cons, List.map_nil, hs, hx, hr]
  exact hK _ _ (h v' w' h2 h3 h5)

end Bk
end Go.Proofs.Ytkpcfakfkcghdaa

/- What the document's own Bytes and Encode of letters answer; contracts; no condition but the range. -/
namespace Go.Proofs.Ytkpcfakfkcghdaa
namespace Lt
open Go.RowKit Bk

attribute [local go_sem ↓] Go.wp_at_zero Go.wp_at_succ
attribute [local go_sem] floatUpon pick

/-- a pack under way in block g, with rows of its own from X on -/
structure BtEnv (w W : World) (X g : Nat) (v1 v2 : Value) (ns : List Int) (ts : List ByteArray) : Prop where
  cel : Cel W g 71 [v1, v2]
  r0 : W.ownsRow X 3 1 v1 ns.length (intV ns)
  r1 : W.ownsRow X 9 1 v2 ts.length (strV ts)
  d : Unlike v1 v2
  n0 : v1.ownBlock ≠ some g
  n1 : v2.ownBlock ≠ some g
  gx : X ≤ g
  bel : Below X w W

theorem BtEnv.lt {w W : World} {X g : Nat} {v1 v2 : Value} {ns : List Int} {ts : List ByteArray} (h : BtEnv w W X g v1 v2 ns ts) : X ≤ W.heap.size := Nat.le_of_lt (Nat.lt_of_le_of_lt h.gx h.cel.lt)

theorem BtEnv.c0 {w W : World} {X g : Nat} {v1 v2 : Value} {ns : List Int} {ts : List ByteArray} (h : BtEnv w W X g v1 v2 ns ts) : W.cell? ⟨g, 0, none⟩ = some v1 := h.cel.cell rfl
theorem BtEnv.c1 {w W : World} {X g : Nat} {v1 v2 : Value} {ns : List Int} {ts : List ByteArray} (h : BtEnv w W X g v1 v2 ns ts) : W.cell? ⟨g, 1, none⟩ = some v2 := h.cel.cell rfl

theorem BtEnv.step {w W W' : World} {X g : Nat} {v1 v2 : Value} {ns : List Int} {ts : List ByteArray} (h : BtEnv w W X g v1 v2 ns ts) (hb : Below W.heap.size W W') : BtEnv w W' X g v1 v2 ns ts :=
  ⟨h.cel.below hb, st_keep h.r0 hb, st_keep h.r1 hb, h.d, h.n0, h.n1, h.gx, h.bel.trans (hb.mono h.lt)⟩

theorem own_ne {W : World} {v v' : Value} {g : Nat} (hn : v.ownBlock ≠ some g) (hg : g < W.heap.size) (hat : v'.ownBlock = v.ownBlock ∨ v'.ownBlock = some W.heap.size) : v'.ownBlock ≠ some g := by
  rcases hat with h | h
  · rw [h]; exact hn
  · rw [h]; intro e; simp only [Option.some.injEq] at e; omega

/-- a row that grew: the world in which its value is not yet stored -/
theorem BtEnv.grow1 {w W W1 : World} {X g n' : Nat} {v1 v2 v' : Value} {ns ns' : List Int} {ts : List ByteArray} (h : BtEnv w W X g v1 v2 ns ts) (ho : W1.ownsRow X 3 1 v' n' (intV ns')) (hl : n' = ns'.length) (hg : W.grownBy W1 v1.ownBlock) (hat : v'.ownBlock = v1.ownBlock ∨ v'.ownBlock = some W.heap.size) :
    Cel W1 g 71 [v1, v2] ∧ BtEnv w (W1.setCell ⟨g, 0, none⟩ v') X g v' v2 ns' ts := by
  subst hl
  have hc : Cel W1 g 71 [v1, v2] := (hg.block g h.cel.lt (fun e => h.n0 e.symm)).trans h.cel
  have h2 := h.r1.kept hg h.d.symm.ne
  have hn := own_ne h.n0 h.cel.lt hat
  exact ⟨hc, hc.set, ownsRow_setCell_other ho hn _, ownsRow_setCell_other h2 h.n1 _, (h.d.symm.next (fun j hj => (h.r1.lt j hj).2) hat (Nat.le_refl _)).symm, hn, h.n1, h.gx, (h.bel.grown hg h.lt (fun k hk => (h.r0.lt k hk).1)).setCell h.gx _⟩

theorem BtEnv.grow2 {w W W1 : World} {X g n' : Nat} {v1 v2 v' : Value} {ns : List Int} {ts ts' : List ByteArray} (h : BtEnv w W X g v1 v2 ns ts) (ho : W1.ownsRow X 9 1 v' n' (strV ts')) (hl : n' = ts'.length) (hg : W.grownBy W1 v2.ownBlock) (hat : v'.ownBlock = v2.ownBlock ∨ v'.ownBlock = some W.heap.size) :
    Cel W1 g 71 [v1, v2] ∧ BtEnv w (W1.setCell ⟨g, 1, none⟩ v') X g v1 v' ns ts' := by
  subst hl
  have hc : Cel W1 g 71 [v1, v2] := (hg.block g h.cel.lt (fun e => h.n1 e.symm)).trans h.cel
  have h2 := h.r0.kept hg h.d.ne
  have hn := own_ne h.n1 h.cel.lt hat
  exact ⟨hc, hc.set, ownsRow_setCell_other h2 h.n0 _, ownsRow_setCell_other ho hn _, h.d.next (fun j hj => (h.r0.lt j hj).2) hat (Nat.le_refl _), h.n0, hn, h.gx, (h.bel.grown hg h.lt (fun k hk => (h.r1.lt k hk).1)).setCell h.gx _⟩

def numsP (l : Let) (j : Nat) : List Int := [l.kind, l.src, l.dst, l.txn, l.ts, l.code, (l.keys.length : Int)] ++ (l.ws.take j).map fun x => if x.dead then 1 else 0
def textsP (l : Let) (j : Nat) : List ByteArray := l.text :: (l.keys ++ (l.ws.take j).flatMap fun x => [x.key, x.shard])

theorem numsP_all (l : Let) : numsP l l.ws.length = numsOf l := by unfold numsP numsOf; rw [List.take_length]
theorem textsP_all (l : Let) : textsP l l.ws.length = textsOf l := by unfold textsP textsOf; rw [List.take_length]
theorem numsP_succ {l : Let} {j : Nat} (h : j < l.ws.length) : numsP l (j + 1) = numsP l j ++ [if l.ws[j].dead then 1 else 0] := by
  unfold numsP
  rw [List.take_add_one, List.getElem?_eq_getElem h, List.map_append]
  simp
theorem textsP_succ {l : Let} {j : Nat} (h : j < l.ws.length) : textsP l (j + 1) = (textsP l j ++ [l.ws[j].key]) ++ [l.ws[j].shard] := by
  unfold textsP
  rw [List.take_add_one, List.getElem?_eq_getElem h, List.flatMap_append]
  simp
theorem numsP_len (l : Let) (j : Nat) : (numsP l j).length ≤ 7 + j := by
  unfold numsP
  rw [List.length_append, List.length_map, List.length_take]
  show 7 + _ ≤ _
  omega
theorem flat_len (ws : List Wr) : (ws.flatMap fun x => [x.key, x.shard]).length = 2 * ws.length := by
  induction ws with
  | nil => rfl
  | cons x r ih => simp only [List.flatMap_cons, List.length_append, List.length_cons, List.length_nil]; omega
theorem textsP_len (l : Let) (j : Nat) : (textsP l j).length ≤ 1 + l.keys.length + 2 * j := by
  unfold textsP
  rw [List.length_cons, List.length_append, flat_len, List.length_take]
  omega

set_option maxRecDepth 20000 in
set_option maxHeartbeats 8000000 in
theorem bytes_any (A B : Option Addr) (c d : Nat) (l : Let) (w : World) (ha : StrsAt w A l.keys) (hb : WrsAt w B l.ws) (hA : A = none → c = 0) (hok : LetOk l) :
    Calls Try.prog 74 #[letV l A B c d] w fun e w' => e = .returned (.string ⟨(letL l).toArray⟩) ∧ Below w.heap.size w w' := by
  obtain ⟨i0, hi, hz0, hz1, hz2⟩ := info_parts Try.infoStr
  obtain ⟨i1, hi', hz0', hz1', hz2'⟩ := info_parts Pk.Try.infoInt
  have henv := LtEnv.start (c := c) (d := d) ha hb
  have hbd := hok.bounds
  have nk : l.keys.length ≤ 16 := hbd.1
  have nw : l.ws.length ≤ 16 := hbd.2.1
  have pk : (l.keys.length : Int) ≤ 16 := by omega
  have pw : (l.ws.length : Int) ≤ 16 := by omega
  have HM := Lib.hid hok.pack
  have HAn := Lib.hid hA
  clear ha hb hbd hok hA
  unfold letV
  go_enter Try.func74, Try.ntmps74
  go_upto_region 1 with fail
  generalize w.alloc (.cells #[.int .i64 l.kind, .int .i64 l.src, .int .i64 l.dst, .int .i64 l.txn, .int .i64 l.ts, .int .i64 l.code, .string l.text, .slice A l.keys.length c, .slice B l.ws.length d] 35) = W1 at henv ⊢
  have HE := Lib.hid henv
  have k0 := henv.cel.cell (i := 0) rfl
  have k1 := henv.cel.cell (i := 1) rfl
  have k2 := henv.cel.cell (i := 2) rfl
  have k3 := henv.cel.cell (i := 3) rfl
  have k4 := henv.cel.cell (i := 4) rfl
  have k5 := henv.cel.cell (i := 5) rfl
  have k7 := henv.cel.cell (i := 7) rfl
  have k6 := fun o : Obj => (henv.step ((Below.refl _ W1).alloc (Nat.le_refl _) o)).cel.cell (i := 6) rfl
  clear henv
  go_upto_region 2 with fail
  have hs1 : (W1.alloc (.cells #[.int .i64 l.kind, .int .i64 l.src, .int .i64 l.dst, .int .i64 l.txn, .int .i64 l.ts, .int .i64 l.code, .int .i64 (l.keys.length : Int)] 3)).heap.size = W1.heap.size + 1 := (blk1 _ _).1
  obtain ⟨s3, b1, b2, b3⟩ := blk3 W1 (.cells #[.int .i64 l.kind, .int .i64 l.src, .int .i64 l.dst, .int .i64 l.txn, .int .i64 l.ts, .int .i64 l.code, .int .i64 (l.keys.length : Int)] 3) (.cells #[.string l.text] 9) (.cells #[.slice (some ⟨W1.heap.size, 0, none⟩) 7 7, .slice (some ⟨W1.heap.size + 1, 0, none⟩) 1 1] 71)
  have hbt : BtEnv W1 (((W1.alloc (.cells #[.int .i64 l.kind, .int .i64 l.src, .int .i64 l.dst, .int .i64 l.txn, .int .i64 l.ts, .int .i64 l.code, .int .i64 (l.keys.length : Int)] 3)).alloc (.cells #[.string l.text] 9)).alloc (.cells #[.slice (some ⟨W1.heap.size, 0, none⟩) 7 7, .slice (some ⟨W1.heap.size + 1, 0, none⟩) 1 1] 71))
      W1.heap.size (W1.heap.size + 1 + 1) (.slice (some ⟨W1.heap.size, 0, none⟩) 7 7) (.slice (some ⟨W1.heap.size + 1, 0, none⟩) 1 1) (numsP l 0) [l.text] := by
    refine ⟨b3, ?_, ?_, ?_, ?_, ?_, by omega, (((Below.refl _ W1).alloc (Nat.le_refl _) _).alloc (by simp) _).alloc (by simp; omega) _⟩
    · have : (numsP l 0).length = 7 := by simp [numsP]
      rw [this]
      exact ⟨by rw [intV_len, this], .inr ⟨W1.heap.size, 7, _, rfl, Nat.le_refl _, b1, Nat.le_refl _, by unfold maxLen; omega, rfl, by simp [numsP, intV]⟩⟩
    · exact ⟨rfl, .inr ⟨W1.heap.size + 1, 1, _, rfl, by omega, b2, Nat.le_refl _, by unfold maxLen; omega, rfl, rfl⟩⟩
    · intro j h1 h2; simp [Value.ownBlock] at h1 h2; omega
    · simp [Value.ownBlock]; omega
    · simp [Value.ownBlock]
  generalize (((W1.alloc (.cells #[.int .i64 l.kind, .int .i64 l.src, .int .i64 l.dst, .int .i64 l.txn, .int .i64 l.ts, .int .i64 l.code, .int .i64 (l.keys.length : Int)] 3)).alloc (.cells #[.string l.text] 9)).alloc (.cells #[.slice (some ⟨W1.heap.size, 0, none⟩) 7 7, .slice (some ⟨W1.heap.size + 1, 0, none⟩) 1 1] 71)) = W2 at hbt ⊢
  have hk7 := (HE.out.step hbt.bel).cel.cell (i := 7) rfl
  have hc1 := hbt.c1
  have HBt := Lib.hid hbt
  have HA2 := Lib.hid (show A = none → l.keys.length = 0 ∧ c = 0 from fun e => by
      refine ⟨?_, HAn.out e⟩
      rcases Nat.eq_zero_or_pos l.keys.length with h | h
      · exact h
      · obtain ⟨ad, h2, _⟩ := HE.out.ks h; rw [e] at h2; cases h2)
  clear hs1 s3 b1 b2 b3 hbt k0 k1 k2 k3 k4 k5 k6 k7
  generalize hgg : W1.heap.size + 1 + 1 = g at *
  clear hgg
  go_wp2_with (at_builtin; refine wpList_append_opt rfl _ _ 32 rfl W1.heap.size 9 i0 (.string ⟨#[]⟩) 16 Try.underlying32 hi hz0 hz1 hz2 rfl _ 1 _ rfl HBt.out.r1 A l.keys.length c (strV l.keys) rfl (strV_len _) HA2.out ?c1 ?c2 ?c3 ?c4 HBt.out.lt ?_)
  case c1 => exact fun ad e => by subst e; exact (HE.out.step HBt.out.bel).ks.news
  case c2 => intro u hu; obtain ⟨s, _, rfl⟩ := List.mem_map.1 hu; rfl
  case c3 => unfold maxLen; omega
  case c4 => omega
  intro v' w3 ho hg hat
  obtain ⟨gn, capn, rfl, _, _⟩ := World.ownsRow.form ho (by omega)
  obtain ⟨hce, hbt2⟩ := BtEnv.grow2 (ts' := textsP l 0) HBt.out (by
    have e : strV [l.text] ++ strV l.keys = strV (textsP l 0) := by simp [strV, textsP]
    rw [← e]; exact ho) (by simp [textsP]; omega) hg hat
  have hf1 := hce.cell (i := 1) rfl
  have hf2 := hce.free (i := 1)
  have HBt2 := Lib.hid hbt2
  clear ho hg hat hce hbt2 HBt hk7 hc1
  go_upto_region 3 with fail
  obtain ⟨u2, hu2⟩ : ∃ u, u = Value.slice (some ⟨gn, 0, none⟩) (1 + l.keys.length) capn := ⟨_, rfl⟩
  rw [← hu2] at HBt2 ⊢
  generalize w3.setCell ⟨g, 1, none⟩ u2 = W4 at HBt2 ⊢
  clear hf1 hf2 hu2
  go_wp2_with fail
  go_loopw [4] (fun i wr => ∃ (j : Nat) (v1 v2 : Value), j ≤ l.ws.length ∧ i = .int .i64 (j : Int) ∧ Hid (BtEnv W1 wr W1.heap.size g v1 v2 (numsP l j) (textsP l j))) (fun i _ => l.ws.length - (intOf i).toNat)
  case atStart => exact ⟨0, _, _, by omega, rfl, HBt2.out⟩
  case round =>
    obtain ⟨j, v1, v2, hj, rfl, hbt⟩ := hrel
    clear HBt2
    have hle := HE.out.step hbt.out.bel
    have k8 := hle.cel.cell (i := 8) rfl
    by_cases hlt : j < l.ws.length
    · have pj : (j : Int) < (l.ws.length : Int) := by omega
      obtain ⟨bd, rfl, _, _⟩ := hle.ws (by omega)
      obtain ⟨X, hX⟩ : ∃ X, X = l.ws[j] := ⟨_, rfl⟩
      have hC : ∀ W, Below W1.heap.size W1 W → W.cell? ⟨w.heap.size, 8, none⟩ = some (.slice (some bd) l.ws.length d) ∧ W.cell? (bd.add (j * 3)) = some (.string X.key) ∧ W.cell? ⟨(bd.add (j * 3)).block, (bd.add (j * 3)).off + 1, none⟩ = some (.string X.shard) ∧ W.cell? ⟨(bd.add (j * 3)).block, (bd.add (j * 3)).off + 2, none⟩ = some (.bool X.dead) := fun W hW => by
        have h := HE.out.step hW
        obtain ⟨bd', e1, _, hcb⟩ := h.ws (by omega)
        obtain rfl := Option.some.inj e1
        obtain ⟨y0, y1, y2⟩ := hcb j hlt
        rw [add_field _ _ _ (by omega), add_field _ _ _ (by omega), hX]
        exact ⟨h.cel.cell (i := 8) rfl, y0, y1, y2⟩
      have HC := Lib.hid hC
      have HO := Lib.hid (fun W => one_any X.dead W)
      have hns := numsP_succ hlt
      have hts := textsP_succ hlt
      rw [← hX] at hns hts
      have HNs := Lib.hid hns
      have HTs := Lib.hid hts
      have hnl := numsP_len l j
      have htl := textsP_len l j
      clear hC hns hts hle hX
      obtain ⟨xk, xs, xd⟩ := X
      simp only at *
      go_upto_region 6 with fail
      refine wp_region_said 10 [38, 39, 40, 41, 42, 43, 44, 45, 46, 47]
        [.is (.pointer (some ⟨g, 0, none⟩)), .is v1, .is (.pointer (some ⟨w.heap.size, 8, none⟩)), .is (.slice (some bd) l.ws.length d), .is (.int .i64 (j : Int)), .is (.pointer (some (bd.add (j * 3)))), .is (.pointer (some ⟨(bd.add (j * 3)).block, (bd.add (j * 3)).off + 2, none⟩)), .is (.bool xd), .is (.int .i64 (if xd then 1 else 0)), .arr 3 #[.int .i64 (if xd then 1 else 0)] 1 1]
        (fun W => BtEnv W1 W W1.heap.size g v1 v2 (numsP l j) (textsP l j)) (by kernel_rfl) (by kernel_rfl) (by kernel_rfl) (by kernel_rfl) (by kernel_rfl) (fun W W' h hb => h.step hb) hbt.out ?steps ?last
      case steps =>
        simp only [List.take_succ_cons, List.take_zero]
        refine ⟨?_, ?_, ?_, ?_, ?_, ?_, ?_, ?_, ?_, ?_, trivial⟩
        all_goals
          intro vs W ρ hρ hc hf hg hI hH hd R' hR
          obtain ⟨z8, z0, z1, z2⟩ := HC.out W hI.bel
          have q0 := hI.c0
          have HR := Lib.hid hR
          simp [depsOf, Region.binds, sayAt, Say.holds] at hd
          clear hR hI k8
          go_simp
          first
            | exact HR.out _ _ (by simp [sayAt, Say.holds]) (Below.refl _ _) (by simp [sayAt, Say.isBlk])
            | exact HR.out _ _ ⟨_, hH, by simp, rfl, heap_alloc_new _ _⟩ ((Below.refl _ _).alloc (Nat.le_refl _) _) (fun h => by cases h)
            | (refine (HO.out _).mono ?_; rintro e w' ⟨rfl, rfl⟩; exact ⟨_, rfl, HR.out _ _ (by simp [sayAt, Say.holds]) (Below.refl _ _) (by simp [sayAt, Say.isBlk])⟩)
            | trace_state
      case last =>
        intro vs W hI hb hg hd
        have g1 := hg 1 (by omega)
        obtain ⟨o, ho1, ho2, g9, ho⟩ := hg 9 (by omega)
        simp only [sayAt, Say.holds, List.getD_cons_succ, List.getD_cons_zero] at g1
        simp only [List.take_succ_cons, List.take_zero, List.drop_succ_cons, List.drop_zero, putAll, Act.put, List.setIfInBounds_toArray, List.set_cons_succ, List.set_cons_zero, Nat.zero_add, Nat.reduceAdd]
        rw [g1, g9]
        have HI := Lib.hid hI
        clear g1 g9 hg hd hI hbt k8
        refine wpList_append_own_at _ rfl _ _ 43 rfl W1.heap.size 3 i1 (.int .i64 0) 1 8 Try.underlying43 hi' hz0' hz1' hz2' rfl (by decide) _ _ _ rfl HI.out.r0 ⟨o, 0, none⟩ 1 1 [.int .i64 (if xd then 1 else 0)] rfl rfl ?d1 ?d2 ?d3 ?d4 HI.out.lt ?_
        case d1 => exact str_one ho
        case d2 => intro u hu; simp at hu; subst hu; rfl
        case d3 => unfold maxLen; omega
        case d4 => omega
        intro v' w5 hown' hgrow _ hat
        obtain ⟨gn, capn, rfl, _, _⟩ := World.ownsRow.form hown' (by omega)
        obtain ⟨hce, hbt2⟩ := BtEnv.grow1 (ns' := numsP l (j + 1)) HI.out (by rw [HNs.out, intV_snoc]; exact hown') (by rw [HNs.out, List.length_append]; rfl) hgrow hat
        have hf1 := hce.cell (i := 0) rfl
        have hf2 := hce.free (i := 0)
        have HBt3 := Lib.hid hbt2
        clear hown' hgrow hat HI ho ho1 ho2 hb hce hbt2
        go_upto_region 7 with fail
        obtain ⟨va, hva⟩ : ∃ u, u = Value.slice (some ⟨gn, 0, none⟩) ((numsP l j).length + 1) capn := ⟨_, rfl⟩
        rw [← hva] at HBt3 ⊢
        generalize w5.setCell ⟨g, 0, none⟩ va = W5 at HBt3 ⊢
        clear hf1 hf2 hva
        refine wp_region_said 9 [50, 51, 52, 53, 54, 55, 56, 57, 58]
          [.is (.pointer (some ⟨g, 1, none⟩)), .is v2, .is (.pointer (some ⟨w.heap.size, 8, none⟩)), .is (.slice (some bd) l.ws.length d), .is (.int .i64 (j : Int)), .is (.pointer (some (bd.add (j * 3)))), .is (.pointer (some (bd.add (j * 3)))), .is (.string xk), .arr 9 #[.string xk] 1 1]
          (fun W => BtEnv W1 W W1.heap.size g va v2 (numsP l (j + 1)) (textsP l j)) (by kernel_rfl) (by kernel_rfl) (by kernel_rfl) (by kernel_rfl) (by kernel_rfl) (fun W W' h hb => h.step hb) HBt3.out ?steps7 ?last7
        case steps7 =>
          simp only [List.take_succ_cons, List.take_zero]
          refine ⟨?_, ?_, ?_, ?_, ?_, ?_, ?_, ?_, ?_, trivial⟩
          all_goals
            intro vs W ρ hρ hc hf hg hI hH hd R' hR
            obtain ⟨z8, z0, z1, z2⟩ := HC.out W hI.bel
            have q1 := hI.c1
            have HR := Lib.hid hR
            simp [depsOf, Region.binds, sayAt, Say.holds] at hd
            clear hR hI
            go_simp
            first
              | exact HR.out _ _ (by simp [sayAt, Say.holds]) (Below.refl _ _) (by simp [sayAt, Say.isBlk])
              | exact HR.out _ _ ⟨_, hH, by simp, rfl, heap_alloc_new _ _⟩ ((Below.refl _ _).alloc (Nat.le_refl _) _) (fun h => by cases h)
              | trace_state
        case last7 =>
          intro vs W hI hb hg hd
          have g1 := hg 1 (by omega)
          obtain ⟨o, ho1, ho2, g8, ho⟩ := hg 8 (by omega)
          simp only [sayAt, Say.holds, List.getD_cons_succ, List.getD_cons_zero] at g1
          simp only [List.take_succ_cons, List.take_zero, List.drop_succ_cons, List.drop_zero, putAll, Act.put, List.setIfInBounds_toArray, List.set_cons_succ, List.set_cons_zero, Nat.zero_add, Nat.reduceAdd]
          rw [g1, g8]
          have HI := Lib.hid hI
          clear g1 g8 hg hd hI HBt3
          refine wpList_append_own_at _ rfl _ _ 32 rfl W1.heap.size 9 i0 (.string ⟨#[]⟩) 1 16 Try.underlying32 hi hz0 hz1 hz2 rfl (by decide) _ _ _ rfl HI.out.r1 ⟨o, 0, none⟩ 1 1 [.string xk] rfl rfl ?d17 ?d27 ?d37 ?d47 HI.out.lt ?_
          case d17 => exact str_one ho
          case d27 => intro u hu; simp at hu; subst hu; rfl
          case d37 => unfold maxLen; first | omega | (simp; omega)
          case d47 => first | omega | (simp; omega)
          intro v' w5 hown' hgrow _ hat
          obtain ⟨gm, capm, rfl, _, _⟩ := World.ownsRow.form hown' (by omega)
          obtain ⟨hce, hbt2⟩ := BtEnv.grow2 (ts' := (textsP l j ++ [xk])) HI.out (by rw [Pk.strV_snoc2]; exact hown') (by rw [List.length_append]; rfl) hgrow hat
          have hf1 := hce.cell (i := 1) rfl
          have hf2 := hce.free (i := 1)
          have HBt4 := Lib.hid hbt2
          clear hown' hgrow hat HI ho ho1 ho2 hb hce hbt2
          go_upto_region 8 with fail
          obtain ⟨vb, hvb⟩ : ∃ u, u = Value.slice (some ⟨gm, 0, none⟩) ((textsP l j).length + 1) capm := ⟨_, rfl⟩
          rw [← hvb] at HBt4 ⊢
          generalize w5.setCell ⟨g, 1, none⟩ vb = W6 at HBt4 ⊢
          clear hf1 hf2 hvb
          refine wp_region_said 9 [61, 62, 63, 64, 65, 66, 67, 68, 69]
            [.is (.pointer (some ⟨g, 1, none⟩)), .is vb, .is (.pointer (some ⟨w.heap.size, 8, none⟩)), .is (.slice (some bd) l.ws.length d), .is (.int .i64 (j : Int)), .is (.pointer (some (bd.add (j * 3)))), .is (.pointer (some ⟨(bd.add (j * 3)).block, (bd.add (j * 3)).off + 1, none⟩)), .is (.string xs), .arr 9 #[.string xs] 1 1]
            (fun W => BtEnv W1 W W1.heap.size g va vb (numsP l (j + 1)) (textsP l j ++ [xk])) (by kernel_rfl) (by kernel_rfl) (by kernel_rfl) (by kernel_rfl) (by kernel_rfl) (fun W W' h hb => h.step hb) HBt4.out ?steps8 ?last8
          case steps8 =>
            simp only [List.take_succ_cons, List.take_zero]
            refine ⟨?_, ?_, ?_, ?_, ?_, ?_, ?_, ?_, ?_, trivial⟩
            all_goals
              intro vs W ρ hρ hc hf hg hI hH hd R' hR
              obtain ⟨z8, z0, z1, z2⟩ := HC.out W hI.bel
              have q1 := hI.c1
              have HR := Lib.hid hR
              simp [depsOf, Region.binds, sayAt, Say.holds] at hd
              clear hR hI
              go_simp
              first
                | exact HR.out _ _ (by simp [sayAt, Say.holds]) (Below.refl _ _) (by simp [sayAt, Say.isBlk])
                | exact HR.out _ _ ⟨_, hH, by simp, rfl, heap_alloc_new _ _⟩ ((Below.refl _ _).alloc (Nat.le_refl _) _) (fun h => by cases h)
                | trace_state
          case last8 =>
            intro vs W hI hb hg hd
            have g1 := hg 1 (by omega)
            obtain ⟨o, ho1, ho2, g8, ho⟩ := hg 8 (by omega)
            simp only [sayAt, Say.holds, List.getD_cons_succ, List.getD_cons_zero] at g1
            simp only [List.take_succ_cons, List.take_zero, List.drop_succ_cons, List.drop_zero, putAll, Act.put, List.setIfInBounds_toArray, List.set_cons_succ, List.set_cons_zero, Nat.zero_add, Nat.reduceAdd]
            rw [g1, g8]
            have HI := Lib.hid hI
            clear g1 g8 hg hd hI HBt4
            refine wpList_append_own_at _ rfl _ _ 32 rfl W1.heap.size 9 i0 (.string ⟨#[]⟩) 1 16 Try.underlying32 hi hz0 hz1 hz2 rfl (by decide) _ _ _ rfl HI.out.r1 ⟨o, 0, none⟩ 1 1 [.string xs] rfl rfl ?d18 ?d28 ?d38 ?d48 HI.out.lt ?_
            case d18 => exact str_one ho
            case d28 => intro u hu; simp at hu; subst hu; rfl
            case d38 => unfold maxLen; first | omega | (simp; omega)
            case d48 => first | omega | (simp; omega)
            intro v' w5 hown' hgrow _ hat
            obtain ⟨gm, capm, rfl, _, _⟩ := World.ownsRow.form hown' (by omega)
            obtain ⟨hce, hbt2⟩ := BtEnv.grow2 (ts' := (textsP l (j + 1))) HI.out (by rw [HTs.out, Pk.strV_snoc2]; exact hown') (by rw [HTs.out]; simp) hgrow hat
            have hf1 := hce.cell (i := 1) rfl
            have hf2 := hce.free (i := 1)
            rw [show (textsP l j ++ [xk]).length = (textsP l j).length + 1 by simp] at hbt2
            have HBt5 := Lib.hid hbt2
            clear hown' hgrow hat HI ho ho1 ho2 hb hce hbt2
            go_wp2_with fail
            go_roundw
            case rel => exact ⟨j + 1, _, _, by omega, by go_num, HBt5.out⟩
            case measure => simp [intOf]; omega
    · obtain rfl : j = l.ws.length := by omega
      have hb2 := hbt.out
      rw [numsP_all, textsP_all] at hb2
      obtain ⟨A1, cA, rfl, hI1⟩ := ints_of_own hb2.r0 rfl
      obtain ⟨B1, cB, rfl, hS1⟩ := strs_of_own2 hb2.r1 rfl
      have HBy := Lib.hid (Pk.bytes_any A1 B1 cA cB (numsOf l) (textsOf l) wr hI1 hS1 HM.out)
      unfold Pk.packV at HBy
      have q0 := hb2.c0
      have q1 := hb2.c1
      have HBel := Lib.hid (HE.out.bel.trans (hb2.bel.mono HE.out.bel.size))
      have E := Lib.hid (show (⟨(letL l).toArray⟩ : ByteArray) = ⟨(Pk.bytesL (numsOf l) (textsOf l)).toArray⟩ from rfl)
      clear hbt hb2 hI1 hS1 hle
      go_wp2_with fail
      refine HBy.out.mono ?_
      rintro e w7 ⟨rfl, hb⟩
      have HB7 := Lib.hid (HBel.out.trans (hb.mono HBel.out.size))
      clear hb HBy
      go_wp2_with fail
      go_ret
      exact ⟨by rw [E.out]; rfl, HB7.out⟩

end Lt
end Go.Proofs.Ytkpcfakfkcghdaa
