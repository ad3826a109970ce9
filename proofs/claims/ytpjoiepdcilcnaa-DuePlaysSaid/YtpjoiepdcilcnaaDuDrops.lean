/- A task that is dropped is never taken, all others are as if it had not been put: the walk; no condition. -/
import Derived.Test.YtpjoiepdcilcnaaDuSim
namespace Go.Proofs.Ytpjoiepdcilcnaa
namespace Du
open Go.RowKit Bk

theorem add_field (a : Addr) (n k : Nat) (hk : 0 < k) : (⟨(a.add n).block, (a.add n).off + k, none⟩ : Addr) = a.add (n + k) := by
  unfold Addr.add
  by_cases h : n = 0
  · rw [if_pos h, if_neg (by omega), h, Nat.zero_add]
  · rw [if_neg h, if_neg (by omega)]
    simp only [Nat.add_assoc]

/-- two queues of the call's own -/
structure Q2 (w0 W : World) (a b : Nat) (D E : Ds) : Prop where
  q : ∃ F G, LQ W w0.heap.size F a D ∧ LQ W w0.heap.size G b E ∧ ∀ k, F k → ¬ G k
  bel : Below w0.heap.size w0 W

section
variable {w0 W W' : World} {a b : Nat} {D E D' : Ds}

theorem Q2.symm (h : Q2 w0 W a b D E) : Q2 w0 W b a E D := by
  obtain ⟨⟨F, G, h1, h2, h3⟩, h4⟩ := h
  exact ⟨⟨G, F, h2, h1, fun k hg hf => h3 k hf hg⟩, h4⟩
theorem Q2.below (h : Q2 w0 W a b D E) (hb : Below W.heap.size W W') : Q2 w0 W' a b D E := by
  obtain ⟨⟨F, G, h1, h2, h3⟩, h4⟩ := h
  exact ⟨⟨F, G, h1.below hb, h2.below hb, h3⟩, h4.trans (hb.mono h4.size)⟩
theorem Q2.post {F G : Nat → Prop} (h1 : LQ W w0.heap.size F a D) (h2 : LQ W w0.heap.size G b E) (h3 : ∀ k, F k → ¬ G k) (h4 : Below w0.heap.size w0 W) (hp : QPost W w0.heap.size a F D' W') : Q2 w0 W' a b D' E := by
  obtain ⟨F', h5, h6⟩ := hp
  exact ⟨⟨F', G, h5, h2.kept h6.size (fun k hk => h6.block k (h2.lt k hk).1 (fun hf => h3 k hf hk)), fun k hf hg => (h6.foot k hf).elim (fun hq => h3 k hq hg) (fun hs => by have := (h2.lt k hg).1; omega)⟩, h4.trans (h6.below (fun k hk => (h1.lt k hk).2) h4.size)⟩
theorem pput (h : Q2 w0 W a b D E) (x u i : Int) (hm : D.many ≤ 4611686018427387904) : Calls Try.prog 10 #[.pointer (some ⟨a, 0, none⟩), .int .i64 x, .int .i64 u, .int .i64 i] W fun e W' => e = .returned (.tuple #[.int .i64 (putD D x u i).2.1, .int .i64 (putD D x u i).2.2]) ∧ Q2 w0 W' a b (putD D x u i).1 E := by
  obtain ⟨⟨F, G, h1, h2, h3⟩, h4⟩ := h
  refine (qput_any h1 x u i hm).mono ?_
  rintro e W' ⟨rfl, hp⟩
  exact ⟨rfl, Q2.post h1 h2 h3 h4 hp⟩
theorem pputA (h : Q2 w0 W a b D E) (o : Obj) (x u i : Int) (hm : D.many ≤ 4611686018427387904) : Calls Try.prog 10 #[.pointer (some ⟨a, 0, none⟩), .int .i64 x, .int .i64 u, .int .i64 i] (W.alloc o) fun e W' => e = .returned (.tuple #[.int .i64 (putD D x u i).2.1, .int .i64 (putD D x u i).2.2]) ∧ Q2 w0 W' a b (putD D x u i).1 E ∧ W'.heap[W.heap.size]? = some o := by
  obtain ⟨⟨F, G, h1, h2, h3⟩, h4⟩ := h
  have hb := (Below.refl W.heap.size W).alloc (Nat.le_refl _) o
  refine (qput_any (h1.below hb) x u i hm).mono ?_
  rintro e W' ⟨rfl, hp⟩
  refine ⟨rfl, Q2.post (h1.below hb) (h2.below hb) h3 (h4.trans (hb.mono h4.size)) hp, ?_⟩
  obtain ⟨F', _, h6⟩ := hp
  rw [h6.block W.heap.size (by simp) (fun hf => by have := (h1.lt _ hf).1; omega)]
  exact (blk1 W o).2
theorem ptake (h : Q2 w0 W a b D E) : Calls Try.prog 13 #[.pointer (some ⟨a, 0, none⟩)] W fun e W' => e = .returned (.tuple #[.int .i64 (takeD D).2.1, .bool (takeD D).2.2]) ∧ Q2 w0 W' a b (takeD D).1 E := by
  obtain ⟨⟨F, G, h1, h2, h3⟩, h4⟩ := h
  refine (qtake_any h1).mono ?_
  rintro e W' ⟨rfl, hp⟩
  exact ⟨rfl, Q2.post h1 h2 h3 h4 hp⟩
theorem pdrop (h : Q2 w0 W a b D E) (n : Int) : Calls Try.prog 15 #[.pointer (some ⟨a, 0, none⟩), .int .i64 n] W fun e W' => e = .returned (.int .i64 (dropD D n).2) ∧ Q2 w0 W' a b (dropD D n).1 E := by
  obtain ⟨⟨F, G, h1, h2, h3⟩, h4⟩ := h
  refine (qdrop_any h1 n).mono ?_
  rintro e W' ⟨rfl, hp⟩
  exact ⟨rfl, Q2.post h1 h2 h3 h4 hp⟩
theorem pgo (h : Q2 w0 W a b D E) (t : Int) : Calls Try.prog 17 #[.pointer (some ⟨a, 0, none⟩), .int .i64 t] W fun e W' => e = .returned (.int .i64 (goD D t).2) ∧ Q2 w0 W' a b (goD D t).1 E := by
  obtain ⟨⟨F, G, h1, h2, h3⟩, h4⟩ := h
  refine (qgo_any h1 t).mono ?_
  rintro e W' ⟨rfl, hp⟩
  exact ⟨rfl, Q2.post h1 h2 h3 h4 hp⟩
theorem plen (h : Q2 w0 W a b D E) : Calls Try.prog 22 #[.pointer (some ⟨a, 0, none⟩)] W fun e W' => e = .returned (.int .i64 (D.L.length : Int)) ∧ Below W.heap.size W W' := by
  obtain ⟨⟨F, G, h1, h2, h3⟩, h4⟩ := h
  exact qlen_any h1

end

theorem pt_ne {x k : Int} (h : x ≠ k) : (x == k) = false := by rw [beq_eq_false_iff_ne]; exact h

/-- the number that was kept, behind j puts -/
def nuV (k j : Nat) : Int := if k < j then (k : Int) + 1 else 0
theorem nu_ne {k j : Nat} (h : j ≠ k) : nuV k (j + 1) = nuV k j := by
  unfold nuV
  by_cases e : k < j
  · rw [if_pos e, if_pos (by omega)]
  · rw [if_neg e, if_neg (by omega)]
theorem nu_eq (k : Nat) : nuV k (k + 1) = (k : Int) + 1 := by unfold nuV; rw [if_pos (by omega)]

theorem ta_put (L : List Ta) (j : Nat) (hj : j < 100) : putD ⟨taL L j, 0, j⟩ (amongV (L.getD j default).a 1000 : Nat) (L.getD j default).u j = (⟨taL L (j + 1), 0, ((j + 1 : Nat) : Int)⟩, (j : Int) + 1, 0) := by
  have ha := amongV_lt (L.getD j default).a 1000 (by omega)
  unfold putD
  rw [if_neg (by omega), if_neg (by show ¬ 1024 ≤ (taL L j).length; rw [ta_len]; omega)]
  rfl
theorem tb_put (L : List Ta) (k j : Nat) (hj : j < 100) (hk : j ≠ k) : putD ⟨tbL L k j, 0, (tbL L k j).length⟩ (amongV (L.getD j default).a 1000 : Nat) (L.getD j default).u j = (⟨tbL L k (j + 1), 0, ((tbL L k (j + 1)).length : Int)⟩, ((tbL L k j).length : Int) + 1, 0) := by
  have ha := amongV_lt (L.getD j default).a 1000 (by omega)
  have hb : tbL L k (j + 1) = tbL L k j ++ [⟨(amongV (L.getD j default).a 1000 : Nat), (L.getD j default).u, (j : Int), ((tbL L k j).length : Int) + 1⟩] := by conv => lhs; unfold tbL; rw [if_neg hk]
  have hl := tb_le L k j
  unfold putD
  rw [if_neg (by omega), if_neg (by show ¬ 1024 ≤ (tbL L k j).length; omega), hb]
  simp

set_option maxRecDepth 20000 in
set_option maxHeartbeats 8000000 in
theorem drops_any (v : Value) (L : List Ta) (x : Int) (w : World) (hv : tasOf w v L) : Calls Try.prog 5 #[v, .int .i64 x] w fun e w' => e = .returned (.bool true) ∧ Below w.heap.size w w' := by
  obtain ⟨A, c, rfl, hA, hL16, _⟩ := hv
  have hL63 : (L.length : Int) ≤ 9223372036854775807 := by unfold reachBytes at hL16; omega
  have HAt := Lib.hid hA
  clear hA hL16
  go_enter Try.func5, Try.ntmps5
  go_wp2_with fail
  refine (snew (Below.refl w.heap.size w)).mono ?_
  rintro e w1 ⟨a, rfl, h1⟩
  obtain ⟨⟨F, f1, f2⟩, f3⟩ := h1
  have HN := Lib.hid (qnew_any (W := w1) (base := w.heap.size) f3.size)
  have HF := Lib.hid (And.intro f1 f3)
  clear f1 f2 f3
  go_wp2_with fail
  refine HN.out.mono ?_
  rintro e w2 ⟨b, G, rfl, g1, g2⟩
  have hq : Q2 w w2 a b newD newD := ⟨⟨F, G, HF.out.1.kept g2.size (fun k hk => g2.block k (HF.out.1.lt k hk).1 (fun h => h.elim)), g1, fun k hf hg => (g2.foot k hg).elim (fun h => h.elim) (fun hs => by have := (HF.out.1.lt k hf).1; omega)⟩, HF.out.2.trans (g2.below (fun k h => h.elim) HF.out.2.size)⟩
  have HQ := Lib.hid hq
  have HW := Lib.hid (works_any w2)
  clear hq g1 g2 HF HN
  go_wp2_with fail
  refine HW.out.mono ?_
  rintro e w3 ⟨rfl, hb⟩
  have HQ3 := Lib.hid (HQ.out.below hb)
  clear hb HW HQ
  by_cases hl0 : L.length = 0
  · have p0 : (L.length : Int) = 0 := by omega
    go_wp2_with fail
    go_ret
    exact ⟨rfl, HQ3.out.bel⟩
  · by_cases hl1 : 100 < L.length
    · have p0 : ¬ (L.length : Int) = 0 := by omega
      have p1 : (100 : Int) < (L.length : Int) := by omega
      go_wp2_with fail
      go_ret
      exact ⟨rfl, HQ3.out.bel⟩
    · have p0 : ¬ (L.length : Int) = 0 := by omega
      have p1 : (L.length : Int) ≤ 100 := by omega
      obtain ⟨n, hn⟩ : ∃ n, L.length = n := ⟨_, rfl⟩
      obtain ⟨k, hk⟩ : ∃ k, k = amongV x n := ⟨_, rfl⟩
      have hkn : k < n := hk ▸ amongV_lt x n (by omega)
      have HAm := Lib.hid (fun W => among_any x n W (by omega) (by omega))
      rw [← hk] at HAm
      rw [hn] at p0 p1 hL63 ⊢
      have HLn := Lib.hid hn
      have HK := Lib.hid hk
      clear hk hn hl0 hl1
      have q0 : ((n : Int) == 0) = false := by rw [beq_eq_false_iff_ne]; omega
      have q1 : decide ((100 : Int) < (n : Int)) = false := by rw [decide_eq_false_iff_not]; omega
      have hn1 : n ≤ 100 := by omega
      clear p0 p1
      go_wp2_with fail
      refine (HAm.out _).mono ?_
      rintro e w4 ⟨rfl, rfl⟩
      clear q0 q1
      go_wp2_with fail
      go_loopw [46, 8] (fun i m wr => ∃ j : Nat, j ≤ n ∧ i = .int .i64 (j : Int) ∧ m = .int .i64 (nuV k j) ∧ Hid (Q2 w wr a b ⟨taL L j, 0, (j : Int)⟩ ⟨tbL L k j, 0, ((tbL L k j).length : Int)⟩)) (fun i _ _ => n - (intOf i).toNat)
      case atStart => exact ⟨0, by omega, rfl, rfl, HQ3.out⟩
      case round =>
        obtain ⟨j, hj, rfl, rfl, hq⟩ := hrel
        by_cases hlt : j < n
        · obtain ⟨ad, rfl, _, _⟩ := HAt.out (by have := HLn.out; omega)
          have hC : ∀ W, Below w.heap.size w W → W.cell? (ad.add (j * 2)) = some (.int .i64 (L.getD j default).a) ∧ W.cell? ⟨(ad.add (j * 2)).block, (ad.add (j * 2)).off + 1, none⟩ = some (.int .i64 (L.getD j default).u) := fun W hW => by
            obtain ⟨ad', e1, _, hc⟩ := (HAt.out.below hW) (by have := HLn.out; omega)
            obtain rfl := Option.some.inj e1
            obtain ⟨x0, x1⟩ := hc j (by have := HLn.out; omega)
            rw [add_field _ _ _ (by omega)]
            have e2 : L.getD j default = L[j]'(by have := HLn.out; omega) := by rw [List.getD_eq_getElem?_getD, List.getElem?_eq_getElem (by have := HLn.out; omega)]; rfl
            rw [e2]
            exact ⟨x0, x1⟩
          obtain ⟨c0, c1⟩ := hC wr hq.out.bel
          have p1 : (j : Int) < (n : Int) := by omega
          have HAj := Lib.hid (fun W => among_any (L.getD j default).a 1000 W (by omega) (by omega))
          have HP := Lib.hid (pputA hq.out (.cells #[.int .i64 (L.getD j default).a, .int .i64 (L.getD j default).u] 45) ((amongV (L.getD j default).a 1000 : Nat) : Int) (L.getD j default).u j (by show (j : Int) ≤ _; omega))
          rw [ta_put L j (by omega)] at HP
          have HP2 := Lib.hid (fun (hne : j ≠ k) W (h : Q2 w W b a ⟨tbL L k j, 0, ((tbL L k j).length : Int)⟩ ⟨taL L (j + 1), 0, ((j + 1 : Nat) : Int)⟩) => by
            have := pput h ((amongV (L.getD j default).a 1000 : Nat) : Int) (L.getD j default).u j (by show ((tbL L k j).length : Int) ≤ _; have := tb_le L k j; omega)
            rw [tb_put L k j (by omega) hne] at this
            exact this)
          obtain ⟨X, hX⟩ : ∃ X, L.getD j default = X := ⟨_, rfl⟩
          have HX := Lib.hid hX
          rw [hX] at c0 c1 HAj HP HP2
          obtain ⟨am, ham⟩ : ∃ am, amongV X.a 1000 = am := ⟨_, rfl⟩
          rw [ham] at HAj HP HP2
          have HM := Lib.hid ham
          clear hX ham hC
          go_wp2_with fail
          refine (HAj.out _).mono ?_
          rintro e w5 ⟨rfl, rfl⟩
          go_wp2_with fail
          refine HP.out.mono ?_
          rintro e w6 ⟨rfl, h6, hx6⟩
          have kx : Cel w6 wr.heap.size 45 [.int .i64 X.a, .int .i64 X.u] := hx6
          have d1 := kx.cell (i := 1) rfl
          have H6 := Lib.hid h6
          clear h6 hx6 kx HP c0 c1
          by_cases hjk : j = k
          · subst hjk
            have hnu := nu_eq j
            have hbq : tbL L j (j + 1) = tbL L j j := by conv => lhs; unfold tbL; rw [if_pos rfl]
            have HB := Lib.hid (And.intro hnu hbq)
            clear hnu hbq
            go_wp2_with fail
            go_roundw
            case rel => exact ⟨j + 1, by omega, by go_num, by rw [HB.out.1], by rw [HB.out.2]; exact H6.out⟩
            case measure => simp [intOf]; omega
          · have hnu := nu_ne hjk
            have q0 : ((j : Int) == (k : Int)) = false := by rw [beq_eq_false_iff_ne]; omega
            have HB := Lib.hid hnu
            have HP3 := Lib.hid (HP2.out hjk w6 H6.out.symm)
            clear hnu HP2
            go_wp2_with fail
            refine HP3.out.mono ?_
            rintro e w7 ⟨rfl, h7⟩
            have H7 := Lib.hid h7.symm
            clear h7 HP3
            go_wp2_with fail
            go_roundw
            case rel => exact ⟨j + 1, by omega, by go_num, by rw [HB.out], H7.out⟩
            case measure => simp [intOf]; omega
        · obtain rfl : j = n := by omega
          obtain ⟨z1, z2, z3⟩ := ta_drop L hkn (j : Int)
          have hnu : nuV k j = (k : Int) + 1 := by unfold nuV; rw [if_pos hkn]
          have hd1 := pdrop hq.out ((k : Int) + 1)
          rw [z1] at hd1
          have HD1 := Lib.hid hd1
          have HZ := Lib.hid (And.intro z2 z3)
          rw [hnu]
          clear hd1 z1 z2 z3 hnu
          go_wp2_with fail
          refine HD1.out.mono ?_
          rintro e w5 ⟨rfl, h5⟩
          have hd2 := pdrop h5 ((k : Int) + 1)
          rw [HZ.out.1] at hd2
          have HD2 := Lib.hid hd2
          clear hd2 h5 HD1
          go_wp2_with fail
          refine HD2.out.mono ?_
          rintro e w6 ⟨rfl, h6⟩
          have hg1 := pgo h6 1000
          rw [show goD ⟨(taL L j).eraseIdx k, 0, (j : Int)⟩ 1000 = (⟨(taL L j).eraseIdx k, 1000, (j : Int)⟩, 0) from rfl] at hg1
          have HG1 := Lib.hid hg1
          clear hg1 h6 HD2
          go_wp2_with fail
          refine HG1.out.mono ?_
          rintro e w7 ⟨rfl, h7⟩
          have hg2 := pgo h7.symm 1000
          rw [show goD ⟨tbL L k j, 0, ((tbL L k j).length : Int)⟩ 1000 = (⟨tbL L k j, 1000, ((tbL L k j).length : Int)⟩, 0) from rfl] at hg2
          have HG2 := Lib.hid hg2
          clear hg2 h7 HG1
          go_wp2_with fail
          refine HG2.out.mono ?_
          rintro e w8 ⟨rfl, h8⟩
          have H8 := Lib.hid h8.symm
          have HS := Lib.hid (sim_all L hkn)
          have l1 : ((taL L j).eraseIdx k).length = j - 1 := by rw [List.length_eraseIdx_of_lt (by rw [ta_len]; exact hkn), ta_len]
          have HL1 := Lib.hid l1
          have HA0 := Lib.hid HZ.out.2
          clear h8 HG2 l1 HZ
          go_wp2_with fail
          go_loopw [103] (fun i wr => ∃ (q : Nat) (A B : List Tk) (ma mb : Int), q ≤ j ∧ i = .int .i64 (q : Int) ∧ A.length = j - 1 - q ∧ Hid (SimL A B) ∧ Hid (∀ x ∈ A, x.i ≠ (k : Int) ∧ x.a ≤ 1000) ∧ Hid (Q2 w wr a b ⟨A, 1000, ma⟩ ⟨B, 1000, mb⟩)) (fun i _ => j - (intOf i).toNat)
          case atStart => exact ⟨0, _, _, _, _, by omega, rfl, HL1.out, HS.out, HA0.out, H8.out⟩
          case round =>
            obtain ⟨q, A', B', ma, mb, hqj, rfl, hlA, hs, ha, hq2⟩ := hrel
            by_cases hlt2 : q < j
            · have p1 : (q : Int) < (j : Int) := by omega
              by_cases h0 : 0 < A'.length
              · obtain ⟨m, hm, t1, t2, hs2⟩ := hs.out.take 1000 ma mb (fun x hx => (ha.out x hx).2) h0
                have hk1 := pt_ne (ha.out _ (g_mem hm)).1
                have ht1 := ptake hq2.out
                rw [t1] at ht1
                have HT1 := Lib.hid ht1
                have HT2 := Lib.hid (And.intro t2 hs2)
                have hla : (A'.eraseIdx m).length = j - 1 - (q + 1) := by rw [List.length_eraseIdx_of_lt hm]; omega
                have HLa := Lib.hid (And.intro hla (fun x (hx : x ∈ A'.eraseIdx m) => ha.out x ((List.eraseIdx_sublist A' m).subset hx)))
                generalize (g A' m).i = id at HT1 HT2 hk1
                clear ht1 t1 t2 hs2 hla
                go_wp2_with fail
                refine HT1.out.mono ?_
                rintro e w9 ⟨rfl, h9⟩
                have ht2 := ptake h9.symm
                rw [HT2.out.1] at ht2
                have HT3 := Lib.hid ht2
                clear ht2 h9 HT1
                go_wp2_with fail
                refine HT3.out.mono ?_
                rintro e w10 ⟨rfl, h10⟩
                have H10 := Lib.hid h10.symm
                clear h10 HT3
                go_wp2_with fail
                go_roundw
                case rel => exact ⟨q + 1, _, _, _, _, by omega, by go_num, HLa.out.1, HT2.out.2, HLa.out.2, H10.out⟩
                case measure => simp [intOf]; omega
              · obtain rfl : A' = [] := List.eq_nil_of_length_eq_zero (by omega)
                have hb0 : B' = [] := List.eq_nil_of_length_eq_zero (by have := hs.out.len; simpa using this.symm)
                subst hb0
                have ht1 := ptake hq2.out
                rw [take_empty] at ht1
                have HT1 := Lib.hid ht1
                clear ht1
                go_wp2_with fail
                refine HT1.out.mono ?_
                rintro e w9 ⟨rfl, h9⟩
                have ht2 := ptake h9.symm
                rw [take_empty] at ht2
                have HT3 := Lib.hid ht2
                clear ht2 h9 HT1
                go_wp2_with fail
                refine HT3.out.mono ?_
                rintro e w10 ⟨rfl, h10⟩
                have H10 := Lib.hid h10.symm
                clear h10 HT3
                go_wp2_with fail
                go_roundw
                case rel => exact ⟨q + 1, [], [], _, _, by omega, by go_num, by simp at hlA ⊢; omega, hs.out, ha.out, H10.out⟩
                case measure => simp [intOf]; omega
            · obtain rfl : q = j := by omega
              obtain rfl : A' = [] := List.eq_nil_of_length_eq_zero (by omega)
              have hb0 : B' = [] := List.eq_nil_of_length_eq_zero (by have := hs.out.len; simpa using this.symm)
              subst hb0
              have HE1 := Lib.hid (plen hq2.out)
              go_wp2_with fail
              refine HE1.out.mono ?_
              rintro e w9 ⟨rfl, hb9⟩
              have H9 := Lib.hid (hq2.out.below hb9)
              have HE2 := Lib.hid (plen H9.out.symm)
              clear hb9 HE1
              simp only [List.length_nil]
              go_wp2_with fail
              refine HE2.out.mono ?_
              rintro e w10 ⟨rfl, hb10⟩
              have H10 := Lib.hid (H9.out.below hb10)
              clear hb10 HE2
              simp only [List.length_nil]
              go_wp2_with fail
              go_ret
              exact ⟨rfl, H10.out.bel⟩

end Du
end Go.Proofs.Ytpjoiepdcilcnaa
