/- Parts of the proof, joined: LtCheck, LtEnc, LtPairs, LtCand; their conditions stand with each. -/
import Derived.Test.YtkpcfakfkcghdaaA2
import Derived.Test.YtkpcfakfkcghdaaA4

/- What the document's own Check of letters answers; contract; no condition but the range. -/
namespace Go.Proofs.Ytkpcfakfkcghdaa
namespace Lt
open Go.RowKit Bk

attribute [local go_sem ↓] Go.wp_at_zero Go.wp_at_succ
attribute [local go_sem] floatUpon pick

theorem bool_of {p : Prop} : ∃ b : Bool, (b = true ↔ p) := ⟨@decide p (Classical.propDecidable _), by rw [@decide_eq_true_eq _ (Classical.propDecidable _)]⟩

set_option maxRecDepth 20000 in
set_option maxHeartbeats 8000000 in
theorem check_any (A B : Option Addr) (c d : Nat) (l : Let) (w : World) (ha : StrsAt w A l.keys) (hb : WrsAt w B l.ws) (hr : LetRng l) :
    Calls Try.prog 46 #[letV l A B c d] w fun e w' => e = .returned (.int .i64 (ckN l : Int)) ∧ Below w.heap.size w w' := by
  have henv := LtEnv.start (c := c) (d := d) ha hb
  have rb : reachBytes ≤ 140737488351232 := by unfold reachBytes; omega
  have HSa := Lib.hid (fun W => address_any l.src W hr.src)
  have HDa := Lib.hid (fun W => address_any l.dst W hr.dst)
  have HTa := Lib.hid (fun W => txn_any l.txn W hr.txn)
  have HPa := Lib.hid (fun W => stamp_any l.ts W hr.ts)
  have nk : l.keys.length ≤ 9223372036854775807 := by have := hr.k16; omega
  have nw : l.ws.length * 16 + 16 ≤ 140737488355328 := by have := hr.w16; omega
  have HRi := Lib.hid (fun W (h : StrsAt W A l.keys) => rising_any A c l.keys W h nk (fun s hs => by have := hr.kr s hs; omega))
  have HWr := Lib.hid (fun W (h : WrsAt W B l.ws) => writes_any B d l.ws W h nw (fun x hx => by have := hr.wr x hx; omega))
  have HKy := Lib.hid (fun W s (hs : s ∈ l.keys) => key_any s W (by have := hr.kr s hs; omega))
  have tx : l.text.size ≤ 140737488351232 := by have := hr.text; omega
  have pk : (l.keys.length : Int) ≤ 9223372036854775807 := by omega
  have pw : (l.ws.length : Int) ≤ 9223372036854775807 := by omega
  have ptx : (l.text.size : Int) ≤ 140737488351232 := by omega
  have hcr := hr.code
  have hkr := hr.kind
  clear ha hb hr rb nk nw tx
  unfold letV
  go_enter Try.func46, Try.ntmps46
  go_upto_region 1 with fail
  generalize w.alloc (.cells #[.int .i64 l.kind, .int .i64 l.src, .int .i64 l.dst, .int .i64 l.txn, .int .i64 l.ts, .int .i64 l.code, .string l.text, .slice A l.keys.length c, .slice B l.ws.length d] 35) = W1 at henv ⊢
  have HE := Lib.hid henv
  have k0 := henv.cel.cell (i := 0) rfl
  have k1 := henv.cel.cell (i := 1) rfl
  have k2 := henv.cel.cell (i := 2) rfl
  have k3 := henv.cel.cell (i := 3) rfl
  have k4 := henv.cel.cell (i := 4) rfl
  have k5 := henv.cel.cell (i := 5) rfl
  have k6 := henv.cel.cell (i := 6) rfl
  have k7 := henv.cel.cell (i := 7) rfl
  have k8 := henv.cel.cell (i := 8) rfl
  clear henv
  obtain ⟨nh, hnh⟩ := bool_of (p := ¬ headOk l)
  have HNh := Lib.hid hnh
  clear hnh
  go_cut [37] (fun s wx => s = .bool nh ∧ wx = W1)
  case first =>
    by_cases h0 : addr l.src
    · rw [show decide (addr l.src) = true from decide_eq_true h0] at HSa
      by_cases h1 : addr l.dst
      · rw [show decide (addr l.dst) = true from decide_eq_true h1] at HDa
        by_cases h2 : txnOk l.txn
        · rw [show decide (txnOk l.txn) = true from decide_eq_true h2] at HTa
          by_cases h3 : stampOk l.ts
          · rw [show decide (stampOk l.ts) = true from decide_eq_true h3] at HPa
            by_cases h4 : l.code < 0
            · have N := Lib.hid (show nh = true from HNh.out.2 (fun h => by have := h.2.2.2.2.1; omega))
              clear h0 h1 h2 h3
              go_wp2_with fail
              refine (HSa.out _).mono ?_
              rintro e w' ⟨rfl, rfl⟩
              go_wp2_with fail
              refine (HDa.out _).mono ?_
              rintro e w' ⟨rfl, rfl⟩
              go_wp2_with fail
              refine (HTa.out _).mono ?_
              rintro e w' ⟨rfl, rfl⟩
              go_wp2_with fail
              refine (HPa.out _).mono ?_
              rintro e w' ⟨rfl, rfl⟩
              go_wp2_with fail
              go_meet
              exact ⟨by first | (rw [N.out]; done) | (rw [N.out]; rfl) | (rw [N.out]; simp; omega), rfl⟩
            · have p4 : 0 ≤ l.code := by omega
              clear h4
              by_cases h5 : 4 < l.code
              · have N := Lib.hid (show nh = true from HNh.out.2 (fun h => by have := h.2.2.2.2.2; omega))
                clear h0 h1 h2 h3
                go_wp2_with fail
                refine (HSa.out _).mono ?_
                rintro e w' ⟨rfl, rfl⟩
                go_wp2_with fail
                refine (HDa.out _).mono ?_
                rintro e w' ⟨rfl, rfl⟩
                go_wp2_with fail
                refine (HTa.out _).mono ?_
                rintro e w' ⟨rfl, rfl⟩
                go_wp2_with fail
                refine (HPa.out _).mono ?_
                rintro e w' ⟨rfl, rfl⟩
                go_wp2_with fail
                go_meet
                exact ⟨by first | (rw [N.out]; done) | (rw [N.out]; rfl) | (rw [N.out]; simp; omega), rfl⟩
              · have p5 : l.code ≤ 4 := by omega
                have N := Lib.hid (show nh = false by cases nh; rfl; exact absurd ⟨h0, h1, h2, h3, p4, p5⟩ (HNh.out.1 rfl))
                clear h0 h1 h2 h3 h5
                go_wp2_with fail
                refine (HSa.out _).mono ?_
                rintro e w' ⟨rfl, rfl⟩
                go_wp2_with fail
                refine (HDa.out _).mono ?_
                rintro e w' ⟨rfl, rfl⟩
                go_wp2_with fail
                refine (HTa.out _).mono ?_
                rintro e w' ⟨rfl, rfl⟩
                go_wp2_with fail
                refine (HPa.out _).mono ?_
                rintro e w' ⟨rfl, rfl⟩
                go_wp2_with fail
                go_meet
                exact ⟨by first | (rw [N.out]; done) | (rw [N.out]; rfl) | (rw [N.out]; simp; omega), rfl⟩
          · rw [show decide (stampOk l.ts) = false from decide_eq_false h3] at HPa
            have N := Lib.hid (show nh = true from HNh.out.2 (fun h => h3 h.2.2.2.1))
            clear h0 h1 h2 h3
            go_wp2_with fail
            refine (HSa.out _).mono ?_
            rintro e w' ⟨rfl, rfl⟩
            go_wp2_with fail
            refine (HDa.out _).mono ?_
            rintro e w' ⟨rfl, rfl⟩
            go_wp2_with fail
            refine (HTa.out _).mono ?_
            rintro e w' ⟨rfl, rfl⟩
            go_wp2_with fail
            refine (HPa.out _).mono ?_
            rintro e w' ⟨rfl, rfl⟩
            go_wp2_with fail
            go_meet
            exact ⟨by first | (rw [N.out]; done) | (rw [N.out]; rfl) | (rw [N.out]; simp; omega), rfl⟩
        · rw [show decide (txnOk l.txn) = false from decide_eq_false h2] at HTa
          have N := Lib.hid (show nh = true from HNh.out.2 (fun h => h2 h.2.2.1))
          clear h0 h1 h2
          go_wp2_with fail
          refine (HSa.out _).mono ?_
          rintro e w' ⟨rfl, rfl⟩
          go_wp2_with fail
          refine (HDa.out _).mono ?_
          rintro e w' ⟨rfl, rfl⟩
          go_wp2_with fail
          refine (HTa.out _).mono ?_
          rintro e w' ⟨rfl, rfl⟩
          go_wp2_with fail
          go_meet
          exact ⟨by first | (rw [N.out]; done) | (rw [N.out]; rfl) | (rw [N.out]; simp; omega), rfl⟩
      · rw [show decide (addr l.dst) = false from decide_eq_false h1] at HDa
        have N := Lib.hid (show nh = true from HNh.out.2 (fun h => h1 h.2.1))
        clear h0 h1
        go_wp2_with fail
        refine (HSa.out _).mono ?_
        rintro e w' ⟨rfl, rfl⟩
        go_wp2_with fail
        refine (HDa.out _).mono ?_
        rintro e w' ⟨rfl, rfl⟩
        go_wp2_with fail
        go_meet
        exact ⟨by first | (rw [N.out]; done) | (rw [N.out]; rfl) | (rw [N.out]; simp; omega), rfl⟩
    · rw [show decide (addr l.src) = false from decide_eq_false h0] at HSa
      have N := Lib.hid (show nh = true from HNh.out.2 (fun h => h0 h.1))
      clear h0
      go_wp2_with fail
      refine (HSa.out _).mono ?_
      rintro e w' ⟨rfl, rfl⟩
      go_wp2_with fail
      go_meet
      exact ⟨by first | (rw [N.out]; done) | (rw [N.out]; rfl) | (rw [N.out]; simp; omega), rfl⟩
  case rest =>
    obtain ⟨rfl, rfl⟩ := hcut
    have HB1 := Lib.hid HE.out.bel
    cases nh with
    | true =>
      have E := Lib.hid (ckN_head (HNh.out.1 rfl))
      clear HNh
      go_wp2_with fail
      go_ret
      exact ⟨by rw [E.out]; rfl, HB1.out⟩
    | false =>
      have hhead : headOk l := Classical.byContradiction fun h => by have := HNh.out.2 h; cases this
      have HHead := Lib.hid hhead
      clear HNh hhead
      go_upto_region 3 with fail
      obtain ⟨o, ho⟩ := bool_of (p := OneOk l)
      have HO := Lib.hid ho
      clear ho
      go_cut [3] (fun s wx => s = .bool o ∧ wx = wc)
      case first =>
        by_cases g1 : l.keys.length = 1
        · have q1 : ((l.keys.length : Int) == 1) = true := by rw [g1]; rfl
          obtain ⟨ad, rfl, _, hcl⟩ := HE.out.ks (by omega)
          have x1 := hcl 0 (by omega)
          rw [add_zero'] at x1
          have hmem : l.keys[0] ∈ l.keys := List.getElem_mem (by omega)
          have HK := Lib.hid (fun W => HKy.out W _ hmem)
          have hall : (∀ k ∈ l.keys, keyOk k) ↔ keyOk l.keys[0] := by
            obtain ⟨k, hk⟩ := list_one g1
            simp only [hk, List.mem_singleton, forall_eq, List.getElem_cons_zero]
          have HAll := Lib.hid hall
          have G1 := Lib.hid g1
          have g0 : 0 < l.keys.length := by omega
          clear hcl hall
          by_cases g2 : keyOk l.keys[0]
          · rw [show decide (keyOk l.keys[0]) = true from decide_eq_true g2] at HK
            generalize hz : l.keys[0] = z at x1 HK
            by_cases g3 : l.ws = []
            · have q3 : ((l.ws.length : Int) == 0) = true := by rw [g3]; rfl
              have N := Lib.hid (HO.out.2 ⟨G1.out, HAll.out.2 g2, g3⟩)
              clear g1 g2 g3 hz hmem HAll
              go_wp2_with fail
              refine (HK.out _).mono ?_
              rintro e w' ⟨rfl, rfl⟩
              go_wp2_with fail
              go_meet
              exact ⟨by first | (rw [N.out]; done) | (rw [N.out]; rfl), rfl⟩
            · have q3 : ((l.ws.length : Int) == 0) = false := by simp; exact g3
              have N := Lib.hid (show o = false by
                cases o
                · rfl
                · exact absurd (HO.out.1 rfl).2.2 g3)
              clear g1 g2 g3 hz hmem HAll
              go_wp2_with fail
              refine (HK.out _).mono ?_
              rintro e w' ⟨rfl, rfl⟩
              go_wp2_with fail
              go_meet
              exact ⟨by first | (rw [N.out]; done) | (rw [N.out]; rfl), rfl⟩
          · rw [show decide (keyOk l.keys[0]) = false from decide_eq_false g2] at HK
            have N := Lib.hid (show o = false by
              cases o
              · rfl
              · exact absurd (HAll.out.1 (HO.out.1 rfl).2.1) g2)
            generalize l.keys[0] = z at x1 HK
            clear g1 g2 hmem HAll
            go_wp2_with fail
            refine (HK.out _).mono ?_
            rintro e w' ⟨rfl, rfl⟩
            go_wp2_with fail
            go_meet
            exact ⟨by first | (rw [N.out]; done) | (rw [N.out]; rfl), rfl⟩
        · have q1 : ((l.keys.length : Int) == 1) = false := by simp; omega
          have N := Lib.hid (show o = false by
            cases o
            · rfl
            · exact absurd (HO.out.1 rfl).1 g1)
          clear g1
          go_wp2_with fail
          go_meet
          exact ⟨by first | (rw [N.out]; done) | (rw [N.out]; rfl), rfl⟩
      case rest =>
        obtain ⟨rfl, rfl⟩ := hcut
        go_upto_region 4 with fail
        obtain ⟨b, hb⟩ := bool_of (p := BareOk l)
        have HBa := Lib.hid hb
        clear hb
        obtain ⟨wo, rfl⟩ : ∃ wo : World, wo = wc := ⟨_, rfl⟩
        go_cut [4] (fun s wx => s = .bool b ∧ wx = wo)
        case first =>
          by_cases g1 : l.keys = []
          · have q1 : ((l.keys.length : Int) == 0) = true := by rw [g1]; rfl
            by_cases g2 : l.ws = []
            · have q2 : ((l.ws.length : Int) == 0) = true := by rw [g2]; rfl
              by_cases g3 : l.text = ⟨#[]⟩
              · have N := Lib.hid (HBa.out.2 ⟨g1, g2, g3⟩)
                rw [g3] at k6
                have t0 := text_eq ⟨#[]⟩
                clear g1 g2 g3
                go_wp2_with fail
                go_meet
                exact ⟨by first | (rw [N.out]; done) | (rw [N.out]; rfl), rfl⟩
              · have N := Lib.hid (show b = false by
                  cases b
                  · rfl
                  · exact absurd (HBa.out.1 rfl).2.2 g3)
                have t0 := text_ne g3
                have t1 := empty_list g3
                have t2 : l.text.toList.isEmpty = false := by rw [List.isEmpty_eq_false_iff]; exact t1
                clear g1 g2 g3
                go_wp2_with fail
                go_meet
                exact ⟨by first | (rw [N.out]; done) | (rw [N.out]; rfl), rfl⟩
            · have h3 : ¬ l.ws.length = 0 := fun h => g2 (List.length_eq_zero_iff.1 h)
              have q2 : ((l.ws.length : Int) == 0) = false := by simp; exact g2
              have N := Lib.hid (show b = false by
                cases b
                · rfl
                · exact absurd (HBa.out.1 rfl).2.1 g2)
              clear g1 g2 h3
              go_wp2_with fail
              go_meet
              exact ⟨by first | (rw [N.out]; done) | (rw [N.out]; rfl), rfl⟩
          · have q1 : ((l.keys.length : Int) == 0) = false := by simp; exact g1
            have N := Lib.hid (show b = false by
              cases b
              · rfl
              · exact absurd (HBa.out.1 rfl).1 g1)
            clear g1
            go_wp2_with fail
            go_meet
            exact ⟨by first | (rw [N.out]; done) | (rw [N.out]; rfl), rfl⟩
        case rest =>
          obtain ⟨rfl, rfl⟩ := hcut
          have HBb := Lib.hid HE.out.bel
          by_cases hkd : l.kind = 1
          · have e1 : (l.kind == 1) = true := by rw [beq_iff_eq]; exact hkd
            have e2 : (l.kind == 2) = false := by rw [beq_eq_false_iff_ne]; omega
            have e3 : (l.kind == 3) = false := by rw [beq_eq_false_iff_ne]; omega
            have e4 : (l.kind == 4) = false := by rw [beq_eq_false_iff_ne]; omega
            have e5 : (l.kind == 5) = false := by rw [beq_eq_false_iff_ne]; omega
            have e6 : (l.kind == 6) = false := by rw [beq_eq_false_iff_ne]; omega
            have e7 : (l.kind == 7) = false := by rw [beq_eq_false_iff_ne]; omega
            have e8 : (l.kind == 8) = false := by rw [beq_eq_false_iff_ne]; omega
            have HK := Lib.hid (kind_1 hkd)
            clear hkd
            cases o with
            | false =>
              have E := Lib.hid (ckN_bad (fun h => absurd (HO.out.2 (HK.out.1 h).1) (by simp)))
              go_wp2_with fail
              go_ret
              exact ⟨by rw [E.out]; rfl, HB1.out⟩
            | true =>
              by_cases g : l.text = ⟨#[]⟩
              · by_cases g2 : l.code = 0
                · have E := Lib.hid (ckN_ok HHead.out (HK.out.2 ⟨HO.out.1 rfl, g, g2⟩))
                  have q2 : (l.code == 0) = true := by rw [g2]; rfl
                  rw [g] at k6
                  have t0 := text_eq ⟨#[]⟩
                  clear g g2
                  go_wp2_with fail
                  go_ret
                  exact ⟨by rw [E.out]; rfl, HB1.out⟩
                · have E := Lib.hid (ckN_bad (fun h => g2 (HK.out.1 h).2.2))
                  have q2 : (l.code == 0) = false := by rw [beq_eq_false_iff_ne]; exact g2
                  rw [g] at k6
                  have t0 := text_eq ⟨#[]⟩
                  clear g g2
                  go_wp2_with fail
                  go_ret
                  exact ⟨by rw [E.out]; rfl, HB1.out⟩
              · have E := Lib.hid (ckN_bad (fun h => g (HK.out.1 h).2.1))
                have t0 := text_ne g
                have t1 := empty_list g
                have t2 : l.text.toList.isEmpty = false := by rw [List.isEmpty_eq_false_iff]; exact t1
                clear g
                go_wp2_with fail
                go_ret
                exact ⟨by rw [E.out]; rfl, HB1.out⟩
          by_cases hkd : l.kind = 2
          · have e1 : (l.kind == 1) = false := by rw [beq_eq_false_iff_ne]; omega
            have e2 : (l.kind == 2) = true := by rw [beq_iff_eq]; exact hkd
            have e3 : (l.kind == 3) = false := by rw [beq_eq_false_iff_ne]; omega
            have e4 : (l.kind == 4) = false := by rw [beq_eq_false_iff_ne]; omega
            have e5 : (l.kind == 5) = false := by rw [beq_eq_false_iff_ne]; omega
            have e6 : (l.kind == 6) = false := by rw [beq_eq_false_iff_ne]; omega
            have e7 : (l.kind == 7) = false := by rw [beq_eq_false_iff_ne]; omega
            have e8 : (l.kind == 8) = false := by rw [beq_eq_false_iff_ne]; omega
            have HK := Lib.hid (kind_2 hkd)
            clear hkd
            cases o with
            | false =>
              have E := Lib.hid (ckN_bad (fun h => absurd (HO.out.2 (HK.out.1 h).1) (by simp)))
              go_wp2_with fail
              go_ret
              exact ⟨by rw [E.out]; rfl, HB1.out⟩
            | true =>
              by_cases g : l.text = ⟨#[]⟩
              · have E := Lib.hid (ckN_ok HHead.out (HK.out.2 ⟨HO.out.1 rfl, by rw [g]; show (0 : Nat) ≤ 2052; omega, .inl g⟩))
                rw [g] at k6
                have t0 := text_eq ⟨#[]⟩
                clear g
                go_wp2_with fail
                go_ret
                exact ⟨by rw [E.out]; rfl, HB1.out⟩
              · have t0 := text_ne g
                have t1 := empty_list g
                have t2 : l.text.toList.isEmpty = false := by rw [List.isEmpty_eq_false_iff]; exact t1
                by_cases g3 : l.text.size ≤ 2052
                · have q3 : (l.text.size : Int) ≤ 2052 := by omega
                  by_cases g2 : l.code = 1
                  · have E := Lib.hid (ckN_ok HHead.out (HK.out.2 ⟨HO.out.1 rfl, g3, .inr g2⟩))
                    have q2 : (l.code == 1) = true := by rw [g2]; rfl
                    clear g g2 g3
                    go_wp2_with fail
                    go_ret
                    exact ⟨by rw [E.out]; rfl, HB1.out⟩
                  · have E := Lib.hid (ckN_bad (fun h => (HK.out.1 h).2.2.elim g g2))
                    have q2 : (l.code == 1) = false := by rw [beq_eq_false_iff_ne]; exact g2
                    clear g g2 g3
                    go_wp2_with fail
                    go_ret
                    exact ⟨by rw [E.out]; rfl, HB1.out⟩
                · have q3 : (2052 : Int) < (l.text.size : Int) := by omega
                  have E := Lib.hid (ckN_bad (fun h => g3 (HK.out.1 h).2.1))
                  clear g g3
                  go_wp2_with fail
                  go_ret
                  exact ⟨by rw [E.out]; rfl, HB1.out⟩
          by_cases hkd : l.kind = 3
          · have e1 : (l.kind == 1) = false := by rw [beq_eq_false_iff_ne]; omega
            have e2 : (l.kind == 2) = false := by rw [beq_eq_false_iff_ne]; omega
            have e3 : (l.kind == 3) = true := by rw [beq_iff_eq]; exact hkd
            have e4 : (l.kind == 4) = false := by rw [beq_eq_false_iff_ne]; omega
            have e5 : (l.kind == 5) = false := by rw [beq_eq_false_iff_ne]; omega
            have e6 : (l.kind == 6) = false := by rw [beq_eq_false_iff_ne]; omega
            have e7 : (l.kind == 7) = false := by rw [beq_eq_false_iff_ne]; omega
            have e8 : (l.kind == 8) = false := by rw [beq_eq_false_iff_ne]; omega
            have HK := Lib.hid (kind_3 hkd)
            clear hkd
            by_cases g1 : l.keys.length ≤ 16
            · have q1 : (l.keys.length : Int) ≤ 16 := by omega
              have HR := Lib.hid (HRi.out _ HE.out.ks)
              by_cases g2 : Rises l.keys
              · rw [risesB_true g2] at HR
                by_cases g3 : WritesOk l.ws
                · rw [writesB_true g3] at HWr
                  by_cases g : l.text = ⟨#[]⟩
                  · have T := Lib.hid g
                    have t0 := text_eq ⟨#[]⟩
                    by_cases g4 : l.code = 0
                    · have E := Lib.hid (ckN_ok HHead.out (HK.out.2 ⟨g1, g2, g3, g, g4⟩))
                      have q2 : (l.code == 0) = true := by rw [g4]; rfl
                      clear g g1 g2 g3 g4
                      go_wp2_with fail
                      refine HR.out.mono ?_
                      rintro e w2 ⟨rfl, hb2⟩
                      have HE2 := Lib.hid (HE.out.step hb2)
                      have HW2 := Lib.hid (HWr.out _ HE2.out.ws)
                      have k8' := HE2.out.cel.cell (i := 8) rfl
                      clear hb2
                      go_wp2_with fail
                      refine HW2.out.mono ?_
                      rintro e w3 ⟨rfl, hb3⟩
                      have HE3 := Lib.hid (HE2.out.step hb3)
                      have k6' := HE3.out.cel.cell (i := 6) rfl
                      have k5' := HE3.out.cel.cell (i := 5) rfl
                      clear hb3 k8'
                      rw [T.out] at k6'
                      have HBz := Lib.hid HE3.out.bel
                      go_wp2_with fail
                      go_ret
                      exact ⟨by rw [E.out]; rfl, HBz.out⟩
                    · have E := Lib.hid (ckN_bad (fun h => g4 (HK.out.1 h).2.2.2.2))
                      have q2 : (l.code == 0) = false := by rw [beq_eq_false_iff_ne]; exact g4
                      clear g g1 g2 g3 g4
                      go_wp2_with fail
                      refine HR.out.mono ?_
                      rintro e w2 ⟨rfl, hb2⟩
                      have HE2 := Lib.hid (HE.out.step hb2)
                      have HW2 := Lib.hid (HWr.out _ HE2.out.ws)
                      have k8' := HE2.out.cel.cell (i := 8) rfl
                      clear hb2
                      go_wp2_with fail
                      refine HW2.out.mono ?_
                      rintro e w3 ⟨rfl, hb3⟩
                      have HE3 := Lib.hid (HE2.out.step hb3)
                      have k6' := HE3.out.cel.cell (i := 6) rfl
                      have k5' := HE3.out.cel.cell (i := 5) rfl
                      clear hb3 k8'
                      rw [T.out] at k6'
                      have HBz := Lib.hid HE3.out.bel
                      go_wp2_with fail
                      go_ret
                      exact ⟨by rw [E.out]; rfl, HBz.out⟩
                  · have E := Lib.hid (ckN_bad (fun h => g (HK.out.1 h).2.2.2.1))
                    have t0 := text_ne g
                    have t1 := empty_list g
                    have t2 : l.text.toList.isEmpty = false := by rw [List.isEmpty_eq_false_iff]; exact t1
                    clear g g1 g2 g3
                    go_wp2_with fail
                    refine HR.out.mono ?_
                    rintro e w2 ⟨rfl, hb2⟩
                    have HE2 := Lib.hid (HE.out.step hb2)
                    have HW2 := Lib.hid (HWr.out _ HE2.out.ws)
                    have k8' := HE2.out.cel.cell (i := 8) rfl
                    clear hb2
                    go_wp2_with fail
                    refine HW2.out.mono ?_
                    rintro e w3 ⟨rfl, hb3⟩
                    have HE3 := Lib.hid (HE2.out.step hb3)
                    have k6' := HE3.out.cel.cell (i := 6) rfl
                    have k5' := HE3.out.cel.cell (i := 5) rfl
                    clear hb3 k8'
                    have HBz := Lib.hid HE3.out.bel
                    go_wp2_with fail
                    go_ret
                    exact ⟨by rw [E.out]; rfl, HBz.out⟩
                · rw [writesB_false g3] at HWr
                  have E := Lib.hid (ckN_bad (fun h => g3 (HK.out.1 h).2.2.1))
                  clear g1 g2 g3
                  go_wp2_with fail
                  refine HR.out.mono ?_
                  rintro e w2 ⟨rfl, hb2⟩
                  have HE2 := Lib.hid (HE.out.step hb2)
                  have HW2 := Lib.hid (HWr.out _ HE2.out.ws)
                  have k8' := HE2.out.cel.cell (i := 8) rfl
                  clear hb2
                  go_wp2_with fail
                  refine HW2.out.mono ?_
                  rintro e w3 ⟨rfl, hb3⟩
                  have HE3 := Lib.hid (HE2.out.step hb3)
                  have k6' := HE3.out.cel.cell (i := 6) rfl
                  have k5' := HE3.out.cel.cell (i := 5) rfl
                  clear hb3 k8'
                  have HBz := Lib.hid HE3.out.bel
                  go_wp2_with fail
                  go_ret
                  exact ⟨by rw [E.out]; rfl, HBz.out⟩
              · rw [risesB_false g2] at HR
                have E := Lib.hid (ckN_bad (fun h => g2 (HK.out.1 h).2.1))
                clear g1 g2
                go_wp2_with fail
                refine HR.out.mono ?_
                rintro e w2 ⟨rfl, hb2⟩
                have HE2 := Lib.hid (HE.out.step hb2)
                have HBz := Lib.hid HE2.out.bel
                clear hb2
                go_wp2_with fail
                go_ret
                exact ⟨by rw [E.out]; rfl, HBz.out⟩
            · have q1 : (16 : Int) < (l.keys.length : Int) := by omega
              have E := Lib.hid (ckN_bad (fun h => g1 (HK.out.1 h).1))
              clear g1
              go_wp2_with fail
              go_ret
              exact ⟨by rw [E.out]; rfl, HB1.out⟩
          by_cases hkd : l.kind = 4
          · have e1 : (l.kind == 1) = false := by rw [beq_eq_false_iff_ne]; omega
            have e2 : (l.kind == 2) = false := by rw [beq_eq_false_iff_ne]; omega
            have e3 : (l.kind == 3) = false := by rw [beq_eq_false_iff_ne]; omega
            have e4 : (l.kind == 4) = true := by rw [beq_iff_eq]; exact hkd
            have e5 : (l.kind == 5) = false := by rw [beq_eq_false_iff_ne]; omega
            have e6 : (l.kind == 6) = false := by rw [beq_eq_false_iff_ne]; omega
            have e7 : (l.kind == 7) = false := by rw [beq_eq_false_iff_ne]; omega
            have e8 : (l.kind == 8) = false := by rw [beq_eq_false_iff_ne]; omega
            have HK := Lib.hid (kind_4 hkd)
            clear hkd
            cases b with
            | false =>
              have E := Lib.hid (ckN_bad (fun h => absurd (HBa.out.2 (HK.out.1 h).1) (by simp)))
              go_wp2_with fail
              go_ret
              exact ⟨by rw [E.out]; rfl, HB1.out⟩
            | true =>
              by_cases g : l.code ≤ 1
              · have E := Lib.hid (ckN_ok HHead.out (HK.out.2 ⟨HBa.out.1 rfl, g⟩))
                go_wp2_with fail
                go_ret
                exact ⟨by rw [E.out]; rfl, HB1.out⟩
              · have E := Lib.hid (ckN_bad (fun h => g (HK.out.1 h).2))
                have q : 1 < l.code := by omega
                go_wp2_with fail
                go_ret
                exact ⟨by rw [E.out]; rfl, HB1.out⟩
          by_cases hkd : l.kind = 5
          · have e1 : (l.kind == 1) = false := by rw [beq_eq_false_iff_ne]; omega
            have e2 : (l.kind == 2) = false := by rw [beq_eq_false_iff_ne]; omega
            have e3 : (l.kind == 3) = false := by rw [beq_eq_false_iff_ne]; omega
            have e4 : (l.kind == 4) = false := by rw [beq_eq_false_iff_ne]; omega
            have e5 : (l.kind == 5) = true := by rw [beq_iff_eq]; exact hkd
            have e6 : (l.kind == 6) = false := by rw [beq_eq_false_iff_ne]; omega
            have e7 : (l.kind == 7) = false := by rw [beq_eq_false_iff_ne]; omega
            have e8 : (l.kind == 8) = false := by rw [beq_eq_false_iff_ne]; omega
            have HK := Lib.hid (kind_5 (.inl hkd))
            clear hkd
            cases b with
            | false =>
              have E := Lib.hid (ckN_bad (fun h => absurd (HBa.out.2 (HK.out.1 h).1) (by simp)))
              go_wp2_with fail
              go_ret
              exact ⟨by rw [E.out]; rfl, HB1.out⟩
            | true =>
              by_cases g : l.code = 0
              · have E := Lib.hid (ckN_ok HHead.out (HK.out.2 ⟨HBa.out.1 rfl, g⟩))
                have q2 : (l.code == 0) = true := by rw [g]; rfl
                clear g
                go_wp2_with fail
                go_ret
                exact ⟨by rw [E.out]; rfl, HB1.out⟩
              · have E := Lib.hid (ckN_bad (fun h => g (HK.out.1 h).2))
                have q2 : (l.code == 0) = false := by rw [beq_eq_false_iff_ne]; exact g
                clear g
                go_wp2_with fail
                go_ret
                exact ⟨by rw [E.out]; rfl, HB1.out⟩
          by_cases hkd : l.kind = 6
          · have e1 : (l.kind == 1) = false := by rw [beq_eq_false_iff_ne]; omega
            have e2 : (l.kind == 2) = false := by rw [beq_eq_false_iff_ne]; omega
            have e3 : (l.kind == 3) = false := by rw [beq_eq_false_iff_ne]; omega
            have e4 : (l.kind == 4) = false := by rw [beq_eq_false_iff_ne]; omega
            have e5 : (l.kind == 5) = false := by rw [beq_eq_false_iff_ne]; omega
            have e6 : (l.kind == 6) = true := by rw [beq_iff_eq]; exact hkd
            have e7 : (l.kind == 7) = false := by rw [beq_eq_false_iff_ne]; omega
            have e8 : (l.kind == 8) = false := by rw [beq_eq_false_iff_ne]; omega
            have HK := Lib.hid (kind_5 (.inr (.inl hkd)))
            clear hkd
            cases b with
            | false =>
              have E := Lib.hid (ckN_bad (fun h => absurd (HBa.out.2 (HK.out.1 h).1) (by simp)))
              go_wp2_with fail
              go_ret
              exact ⟨by rw [E.out]; rfl, HB1.out⟩
            | true =>
              by_cases g : l.code = 0
              · have E := Lib.hid (ckN_ok HHead.out (HK.out.2 ⟨HBa.out.1 rfl, g⟩))
                have q2 : (l.code == 0) = true := by rw [g]; rfl
                clear g
                go_wp2_with fail
                go_ret
                exact ⟨by rw [E.out]; rfl, HB1.out⟩
              · have E := Lib.hid (ckN_bad (fun h => g (HK.out.1 h).2))
                have q2 : (l.code == 0) = false := by rw [beq_eq_false_iff_ne]; exact g
                clear g
                go_wp2_with fail
                go_ret
                exact ⟨by rw [E.out]; rfl, HB1.out⟩
          by_cases hkd : l.kind = 7
          · have e1 : (l.kind == 1) = false := by rw [beq_eq_false_iff_ne]; omega
            have e2 : (l.kind == 2) = false := by rw [beq_eq_false_iff_ne]; omega
            have e3 : (l.kind == 3) = false := by rw [beq_eq_false_iff_ne]; omega
            have e4 : (l.kind == 4) = false := by rw [beq_eq_false_iff_ne]; omega
            have e5 : (l.kind == 5) = false := by rw [beq_eq_false_iff_ne]; omega
            have e6 : (l.kind == 6) = false := by rw [beq_eq_false_iff_ne]; omega
            have e7 : (l.kind == 7) = true := by rw [beq_iff_eq]; exact hkd
            have e8 : (l.kind == 8) = false := by rw [beq_eq_false_iff_ne]; omega
            have HK := Lib.hid (kind_5 (.inr (.inr hkd)))
            clear hkd
            cases b with
            | false =>
              have E := Lib.hid (ckN_bad (fun h => absurd (HBa.out.2 (HK.out.1 h).1) (by simp)))
              go_wp2_with fail
              go_ret
              exact ⟨by rw [E.out]; rfl, HB1.out⟩
            | true =>
              by_cases g : l.code = 0
              · have E := Lib.hid (ckN_ok HHead.out (HK.out.2 ⟨HBa.out.1 rfl, g⟩))
                have q2 : (l.code == 0) = true := by rw [g]; rfl
                clear g
                go_wp2_with fail
                go_ret
                exact ⟨by rw [E.out]; rfl, HB1.out⟩
              · have E := Lib.hid (ckN_bad (fun h => g (HK.out.1 h).2))
                have q2 : (l.code == 0) = false := by rw [beq_eq_false_iff_ne]; exact g
                clear g
                go_wp2_with fail
                go_ret
                exact ⟨by rw [E.out]; rfl, HB1.out⟩
          by_cases hkd : l.kind = 8
          · have e1 : (l.kind == 1) = false := by rw [beq_eq_false_iff_ne]; omega
            have e2 : (l.kind == 2) = false := by rw [beq_eq_false_iff_ne]; omega
            have e3 : (l.kind == 3) = false := by rw [beq_eq_false_iff_ne]; omega
            have e4 : (l.kind == 4) = false := by rw [beq_eq_false_iff_ne]; omega
            have e5 : (l.kind == 5) = false := by rw [beq_eq_false_iff_ne]; omega
            have e6 : (l.kind == 6) = false := by rw [beq_eq_false_iff_ne]; omega
            have e7 : (l.kind == 7) = false := by rw [beq_eq_false_iff_ne]; omega
            have e8 : (l.kind == 8) = true := by rw [beq_iff_eq]; exact hkd
            have HK := Lib.hid (kind_8 hkd)
            clear hkd
            cases b with
            | false =>
              have E := Lib.hid (ckN_bad (fun h => absurd (HBa.out.2 (HK.out.1 h).1) (by simp)))
              go_wp2_with fail
              go_ret
              exact ⟨by rw [E.out]; rfl, HB1.out⟩
            | true =>
              by_cases g : l.code ≤ 2
              · have E := Lib.hid (ckN_ok HHead.out (HK.out.2 ⟨HBa.out.1 rfl, g⟩))
                go_wp2_with fail
                go_ret
                exact ⟨by rw [E.out]; rfl, HB1.out⟩
              · have E := Lib.hid (ckN_bad (fun h => g (HK.out.1 h).2))
                have q : 2 < l.code := by omega
                go_wp2_with fail
                go_ret
                exact ⟨by rw [E.out]; rfl, HB1.out⟩
          have hno : l.kind < 1 ∨ 8 < l.kind := by omega
          have E := Lib.hid (ckN_bad (kind_no hno))
          have e1 : (l.kind == 1) = false := by rw [beq_eq_false_iff_ne]; omega
          have e2 : (l.kind == 2) = false := by rw [beq_eq_false_iff_ne]; omega
          have e3 : (l.kind == 3) = false := by rw [beq_eq_false_iff_ne]; omega
          have e4 : (l.kind == 4) = false := by rw [beq_eq_false_iff_ne]; omega
          have e5 : (l.kind == 5) = false := by rw [beq_eq_false_iff_ne]; omega
          have e6 : (l.kind == 6) = false := by rw [beq_eq_false_iff_ne]; omega
          have e7 : (l.kind == 7) = false := by rw [beq_eq_false_iff_ne]; omega
          have e8 : (l.kind == 8) = false := by rw [beq_eq_false_iff_ne]; omega
          clear hno
          go_wp2_with fail
          go_ret
          exact ⟨by rw [E.out]; rfl, HB1.out⟩

end Lt
end Go.Proofs.Ytkpcfakfkcghdaa

/- What the document's own Encode of letters answers; contract; no condition but the range. -/
namespace Go.Proofs.Ytkpcfakfkcghdaa
namespace Lt
open Go.RowKit Bk

attribute [local go_sem ↓] Go.wp_at_zero Go.wp_at_succ
attribute [local go_sem] floatUpon pick

open Classical in
/-- what Encode answers -/
noncomputable def encV (l : Let) : Value := if LetOk l then .tuple #[.string ⟨(letL l).toArray⟩, .int .i64 0] else .tuple #[.string ⟨#[]⟩, .int .i64 70]

theorem encV_ok {l : Let} (h : LetOk l) : encV l = .tuple #[.string ⟨(letL l).toArray⟩, .int .i64 0] := by unfold encV; rw [if_pos h]
theorem encV_bad {l : Let} (h : ¬ LetOk l) : encV l = .tuple #[.string ⟨#[]⟩, .int .i64 70] := by unfold encV; rw [if_neg h]

theorem ckN_of {l : Let} (h : LetOk l) : ckN l = 0 := ckN_zero.2 h
theorem ckN_not {l : Let} (h : ¬ LetOk l) : ckN l = 70 := by unfold ckN; rw [if_neg h]

end Lt
end Go.Proofs.Ytkpcfakfkcghdaa

/- What the document's own Pairs answers: writes of flags and texts; contract; no condition but the range. -/
namespace Go.Proofs.Ytkpcfakfkcghdaa
namespace Lt
open Go.RowKit Bk

attribute [local go_sem ↓] Go.wp_at_zero Go.wp_at_succ
attribute [local go_sem] floatUpon pick

theorem Try.infoWrite : (Try.prog.info? 82).map (fun i => (i.zero, i.size, i.bytes)) = some (some (.agg #[.string ⟨#[]⟩, .string ⟨#[]⟩, .bool false]), 3, 40) := by kernel_rfl

/-- a row's cells -/
def wrV (l : List Wr) : List Value := l.flatMap fun x => [.string x.key, .string x.shard, .bool x.dead]

theorem wrV_len (l : List Wr) : (wrV l).length = l.length * 3 := by
  induction l with
  | nil => rfl
  | cons x r ih =>
    show ([_, _, _] ++ wrV r).length = _
    rw [List.length_append, ih, List.length_cons]
    simp; omega

theorem wrV_snoc (l : List Wr) (x : Wr) : wrV (l ++ [x]) = wrV l ++ [.string x.key, .string x.shard, .bool x.dead] := by
  unfold wrV
  rw [List.flatMap_append]; rfl

theorem wrV_at : ∀ (l : List Wr) (i : Nat) (h : i < l.length), (wrV l)[i * 3]? = some (.string l[i].key) ∧ (wrV l)[i * 3 + 1]? = some (.string l[i].shard) ∧ (wrV l)[i * 3 + 2]? = some (.bool l[i].dead)
  | [], _, h => absurd h (by simp)
  | x :: r, 0, _ => ⟨rfl, rfl, rfl⟩
  | x :: r, i + 1, h => by
    have ih := wrV_at r i (by simpa using h)
    have e : wrV (x :: r) = .string x.key :: .string x.shard :: .bool x.dead :: wrV r := rfl
    rw [e, show (i + 1) * 3 = i * 3 + 3 by omega]
    exact ih

theorem wrs_own {w : World} {H n : Nat} {v : Value} {e : TypeId} {l : List Wr} (h : w.ownsRow H e 3 v n (wrV l)) (hl : n = l.length) : ∃ (A : Option Addr) (c : Nat), v = .slice A n c ∧ WrsAt w A l ∧ n ≤ c ∧ c ≤ maxLen ∧ (A = none → c = 0) := by
  rcases h.2 with ⟨rfl, rfl⟩ | ⟨g, cap, cur, rfl, _, hg, h1, h2, hsz, htk⟩
  · exact ⟨none, 0, rfl, fun hp => by omega, Nat.le_refl _, Nat.zero_le _, fun _ => rfl⟩
  · refine ⟨_, cap, rfl, fun _ => ⟨_, rfl, (Array.getElem?_eq_some_iff.1 hg).1, fun i hi => ?_⟩, h1, h2, fun e => by cases e⟩
    obtain ⟨x0, x1, x2⟩ := wrV_at l i hi
    have hlen : (wrV l).length = n * 3 := by rw [wrV_len, hl]
    have hc : ∀ j u, (wrV l)[j]? = some u → w.cell? ((⟨g, 0, none⟩ : Addr).add j) = some u := fun j u hu => by
      rw [addr_head]
      refine blk_cell hg ?_
      have hj := (List.getElem?_eq_some_iff.1 hu).1
      rw [← htk, List.getElem?_take_of_lt (by omega)] at hu
      rw [← Array.getElem?_toList]; exact hu
    exact ⟨hc _ _ x0, hc _ _ x1, hc _ _ x2⟩

/-- the writes of flags and texts -/
def pairL : List Int → List ByteArray → List Wr
  | f :: fs, k :: s :: ts => ⟨k, s, f == 1⟩ :: pairL fs ts
  | _, _ => []

theorem pairL_len : ∀ (fs : List Int) (ts : List ByteArray), ts.length = 2 * fs.length → (pairL fs ts).length = fs.length
  | [], _, _ => by simp [pairL]
  | f :: fs, [], h => by simp at h
  | f :: fs, [k], h => by simp at h; omega
  | f :: fs, k :: s :: ts, h => by
    rw [pairL, List.length_cons, List.length_cons, pairL_len fs ts (by simp at h; omega)]

theorem pairL_at : ∀ (fs : List Int) (ts : List ByteArray) (_h : ts.length = 2 * fs.length) (i : Nat) (hi : i < fs.length) (hp : i < (pairL fs ts).length) (h1 : 2 * i < ts.length) (h2 : 2 * i + 1 < ts.length), (pairL fs ts)[i] = ⟨ts[2 * i], ts[2 * i + 1], fs[i] == 1⟩
  | [], _, _, _, hi, _, _, _ => absurd hi (by simp)
  | f :: fs, [], h, _, _, _, _, _ => by simp at h
  | f :: fs, [k], h, _, _, _, _, _ => by simp at h; omega
  | f :: fs, k :: s :: ts, h, 0, _, _, _, _ => rfl
  | f :: fs, k :: s :: ts, h, i + 1, hi, hp, h1, h2 => by
    have ih := pairL_at fs ts (by simp at h; omega) i (by simpa using hi) (by simpa [pairL] using hp) (by simp at h1; omega) (by simp at h2; omega)
    simp only [pairL, List.getElem_cons_succ, ih]
    congr 1 <;> simp [show 2 * (i + 1) = 2 * i + 1 + 1 by omega]

theorem new_row {w : World} {g : Nat} {t : TypeId} {xs : List Value} (h : w.heap[g]? = some (.cells xs.toArray t (0, 0))) : ∀ j v, xs[j]? = some v → w.cell? ((⟨g, 0, none⟩ : Addr).add j) = some v := fun j v hv => by
  rw [addr_head]
  exact blk_cell h (by rw [List.getElem?_toArray]; exact hv)

/-- what Pairs answers -/
def PairsAns (fs : List Int) (ts : List ByteArray) (w : World) : Ending → World → Prop := fun e w' =>
  (ts.length = 2 * fs.length ∧ ∃ v, e = .returned (.tuple #[v, .bool true]) ∧ w'.ownsRow w.heap.size 82 3 v fs.length (wrV (pairL fs ts)) ∧ Below w.heap.size w w') ∨
  (ts.length ≠ 2 * fs.length ∧ e = .returned (.tuple #[.slice none 0 0, .bool false]) ∧ w' = w)

set_option maxRecDepth 20000 in
set_option maxHeartbeats 4000000 in
theorem pairs_any (A B : Option Addr) (c d : Nat) (fs : List Int) (ts : List ByteArray) (w : World) (ha : IntsAt w A fs) (hb : StrsAt w B ts) (h1 : fs.length ≤ 100000) (h2 : ts.length ≤ 100000) :
    Calls Try.prog 73 #[.slice A fs.length c, .slice B ts.length d] w (PairsAns fs ts w) := by
  obtain ⟨i0, hi, hz0, hz1, hz2⟩ := info_parts Try.infoWrite
  by_cases hl : ts.length = 2 * fs.length
  · have pl : (2 * (fs.length : Int)) = (ts.length : Int) := by omega
    have plb : ((ts.length : Int) != (ts.length : Int)) = false := by simp
    have hpl := pairL_len fs ts hl
    have pfl : (fs.length : Int) ≤ 100000 := by omega
    have HMk : Hid (∀ v w', w'.ownsRow w.heap.size 82 3 v fs.length (wrV (pairL fs ts)) → Below w.heap.size w w' → PairsAns fs ts w (.returned (.tuple #[v, .bool true])) w') := Lib.hid (fun v w' a b => .inl ⟨hl, v, rfl, a, b⟩)
    have HL := Lib.hid hl
    have HPl := Lib.hid hpl
    have HA := Lib.hid ha
    have HB := Lib.hid hb
    clear hl hpl ha hb h2
    go_enter Try.func73, Try.ntmps73
    go_wp2_with fail
    go_loopw [6, 7] (fun x i wr => ∃ (j : Nat) (u : Value), u = x ∧ j ≤ fs.length ∧ i = .int .i64 (j : Int) ∧ Hid (wr.ownsRow w.heap.size 82 3 u j (wrV ((pairL fs ts).take j))) ∧ Hid (Below w.heap.size w wr)) (fun _ i _ => fs.length - (intOf i).toNat)
    case atStart => exact ⟨0, _, rfl, by omega, rfl, World.ownsRow_nil _ _ _ _, Below.refl _ _⟩
    case round =>
      obtain ⟨j, u, rfl, hj, rfl, hown, hbel⟩ := hrel
      by_cases hlt : j < fs.length
      · have pj : (j : Int) < (fs.length : Int) := by omega
        have l1 : 2 * j < ts.length := by have := HL.out; omega
        have l2 : 2 * j + 1 < ts.length := by have := HL.out; omega
        obtain ⟨ad, rfl, _, _⟩ := HA.out (by omega)
        obtain ⟨bd, rfl, _, _⟩ := HB.out (by omega)
        have hp := pairL_at fs ts HL.out j hlt (by rw [HPl.out]; exact hlt) l1 l2
        obtain ⟨k, hk⟩ : ∃ k, k = ts[2 * j] := ⟨_, rfl⟩
        obtain ⟨s, hs⟩ : ∃ s, s = ts[2 * j + 1] := ⟨_, rfl⟩
        obtain ⟨f, hf⟩ : ∃ f, f = fs[j] := ⟨_, rfl⟩
        obtain ⟨dd, hd⟩ : ∃ dd, dd = (f == 1) := ⟨_, rfl⟩
        rw [← hk, ← hs, ← hf, ← hd] at hp
        have htk : wrV ((pairL fs ts).take (j + 1)) = wrV ((pairL fs ts).take j) ++ [.string k, .string s, .bool dd] := by
          rw [List.take_add_one, List.getElem?_eq_getElem (by rw [HPl.out]; exact hlt), hp]
          exact wrV_snoc _ _
        have hC : ∀ W, Below w.heap.size w W → W.cell? (bd.add (2 * j)) = some (.string k) ∧ W.cell? (bd.add (2 * j + 1)) = some (.string s) ∧ W.cell? (ad.add j) = some (.int .i64 f) := fun W hW => by
          obtain ⟨ad', e1, _, hca⟩ := (HA.out.below hW) (by omega)
          obtain ⟨bd', e2, _, hcb⟩ := (HB.out.below hW) (by omega)
          obtain rfl := Option.some.inj e1
          obtain rfl := Option.some.inj e2
          rw [hk, hs, hf]
          exact ⟨hcb _ l1, hcb _ l2, hca _ hlt⟩
        have HC := Lib.hid hC
        have HTk := Lib.hid htk
        have hdd : (f == 1) = dd := hd.symm
        have p1 : (2 * (j : Int)) < (ts.length : Int) := by omega
        have p2 : (2 * (j : Int)) + 1 < (ts.length : Int) := by omega
        have w2 : IntKind.i64.wrap (2 * (j : Int)) = 2 * (j : Int) := i64_wrap (by omega) (by omega)
        have w3 : IntKind.i64.wrap (2 * (j : Int) + 1) = 2 * (j : Int) + 1 := i64_wrap (by omega) (by omega)
        obtain ⟨q0, hq0⟩ : ∃ q, q = 2 * j := ⟨_, rfl⟩
        obtain ⟨q1, hq1⟩ : ∃ q, q = 2 * j + 1 := ⟨_, rfl⟩
        have t2 : (2 * (j : Int)).toNat = q0 := by omega
        have t3 : (2 * (j : Int) + 1).toNat = q1 := by omega
        rw [← hq1, ← hq0] at HC
        clear hC hp htk hk hs hf hd hq0 hq1
        go_upto_region 7 with fail
        refine wp_region_said 19 [20, 21, 22, 23, 24, 25, 26, 27, 28, 29, 30, 31, 32, 33, 34, 35, 36, 37, 38]
          [.is u, .is (.slice (some bd) ts.length d), .is (.int .i64 (j : Int)), .is (.int .i64 (2 * (j : Int))), .is (.pointer (some (bd.add q0))), .is (.string k), .is (.slice (some bd) ts.length d), .is (.int .i64 (j : Int)), .is (.int .i64 (2 * (j : Int))), .is (.int .i64 (2 * (j : Int) + 1)), .is (.pointer (some (bd.add q1))), .is (.string s), .is (.slice (some ad) fs.length c), .is (.int .i64 (j : Int)), .is (.pointer (some (ad.add j))), .is (.int .i64 f), .is (.bool dd), .is (.agg #[.string k, .string s, .bool dd]), .arr 82 #[.string k, .string s, .bool dd] 1 1]
          (fun W => W.ownsRow w.heap.size 82 3 u j (wrV ((pairL fs ts).take j)) ∧ Below w.heap.size w W) (by kernel_rfl) (by kernel_rfl) (by kernel_rfl) (by kernel_rfl) (by kernel_rfl) (fun W W' h hb => ⟨st_keep h.1 hb, h.2.trans (hb.mono h.2.size)⟩) ⟨hown.out, hbel.out⟩ ?steps ?last
        case steps =>
          simp only [List.take_succ_cons, List.take_zero]
          refine ⟨?_, ?_, ?_, ?_, ?_, ?_, ?_, ?_, ?_, ?_, ?_, ?_, ?_, ?_, ?_, ?_, ?_, ?_, ?_, trivial⟩
          all_goals
            intro vs W ρ hρ hc hf hg hI hH hd R' hR
            obtain ⟨z0, z1, z2⟩ := HC.out W hI.2
            have HR := Lib.hid hR
            simp [depsOf, Region.binds, sayAt, Say.holds] at hd
            clear hR hI
            go_simp
            first
              | exact HR.out _ _ (by simp [sayAt, Say.holds]) (Below.refl _ _) (by simp [sayAt, Say.isBlk])
              | exact HR.out _ _ ⟨_, hH, by simp, rfl, heap_alloc_new _ _⟩ ((Below.refl _ _).alloc (Nat.le_refl _) _) (fun h => by cases h)
              | trace_state
        case last =>
          intro vs W hI hb hg hd
          have g0 := hg 0 (by omega)
          obtain ⟨o, ho1, ho2, g18, ho⟩ := hg 18 (by omega)
          simp only [sayAt, Say.holds, List.getD_cons_zero] at g0
          simp only [List.take_succ_cons, List.take_zero, List.drop_succ_cons, List.drop_zero, putAll, Act.put, List.setIfInBounds_toArray, List.set_cons_succ, List.set_cons_zero, Nat.zero_add, Nat.reduceAdd]
          rw [g0, g18]
          have HI := Lib.hid hI
          clear g0 g18 hg hd hI hown hbel
          refine wpList_append_own_at _ rfl _ _ 33 rfl w.heap.size 82 i0 (.agg #[.string ⟨#[]⟩, .string ⟨#[]⟩, .bool false]) 3 40 Try.underlying33 hi hz0 hz1 hz2 rfl (by decide) _ _ _ rfl HI.out.1 ⟨o, 0, none⟩ 1 1 [.string k, .string s, .bool dd] rfl rfl ?d1 ?d2 ?d3 ?d4 HI.out.2.size ?_
          case d1 => exact new_row ho
          case d2 => intro q hq; simp at hq; rcases hq with rfl | rfl | rfl <;> rfl
          case d3 => unfold maxLen; omega
          case d4 => omega
          intro v' w5 hown' hgrow _ hat
          have HB5 := Lib.hid (HI.out.2.grown hgrow HI.out.2.size (fun k hk => (HI.out.1.lt k hk).1))
          rw [← HTk.out] at hown'
          have HO5 := Lib.hid hown'
          clear hown' hgrow hat HI ho ho1 ho2 hb
          go_wp2_with fail
          go_roundw
          case rel => exact ⟨j + 1, _, rfl, by omega, by go_num, HO5.out, HB5.out⟩
          case measure => simp [intOf]; omega
      · obtain rfl : j = fs.length := by omega
        have ho := hown.out
        rw [List.take_of_length_le (by rw [HPl.out]; exact Nat.le_refl _)] at ho
        have HO := Lib.hid ho
        clear ho hown
        go_wp2_with fail
        go_ret2
        exact HMk.out _ _ HO.out hbel.out
  · have plb : ((ts.length : Int) != 2 * (fs.length : Int)) = true := by simp; omega
    have HMk : Hid (PairsAns fs ts w (.returned (.tuple #[.slice none 0 0, .bool false])) w) := Lib.hid (.inr ⟨hl, rfl, rfl⟩)
    have pfl : (fs.length : Int) ≤ 100000 := by omega
    clear hl ha hb
    go_enter Try.func73, Try.ntmps73
    go_wp2_with fail
    go_ret2
    exact HMk.out

end Lt
end Go.Proofs.Ytkpcfakfkcghdaa

/- Which letter numbers and texts say, if they say one; no condition. -/
namespace Go.Proofs.Ytkpcfakfkcghdaa
namespace Lt
open Go.RowKit Bk

def manyOf (ns : List Int) : Nat := (ns.getD 6 0).toNat

/-- the one that they may say -/
def cand (ns : List Int) (ts : List ByteArray) : Let :=
  ⟨ns.getD 0 0, ns.getD 1 0, ns.getD 2 0, ns.getD 3 0, ns.getD 4 0, ns.getD 5 0, ts.getD 0 ⟨#[]⟩, (ts.drop 1).take (manyOf ns), pairL (ns.drop 7) (ts.drop (1 + manyOf ns))⟩

theorem pairL_of (ws : List Wr) : pairL (ws.map fun x => if x.dead then 1 else 0) (ws.flatMap fun x => [x.key, x.shard]) = ws := by
  induction ws with
  | nil => rfl
  | cons x r ih =>
    show (⟨x.key, x.shard, (if x.dead then (1 : Int) else 0) == 1⟩ : Wr) :: pairL (r.map fun x => if x.dead then 1 else 0) (r.flatMap fun x => [x.key, x.shard]) = _
    rw [ih]
    obtain ⟨k, s, d⟩ := x
    cases d <;> rfl

theorem cand_of (l : Let) : cand (numsOf l) (textsOf l) = l := by
  obtain ⟨kd, sr, ds, tn, ts, co, tt, ks, ws⟩ := l
  have hm : manyOf (numsOf ⟨kd, sr, ds, tn, ts, co, tt, ks, ws⟩) = ks.length := by
    simp [manyOf, numsOf]
  unfold cand
  rw [hm]
  have e1 : (textsOf ⟨kd, sr, ds, tn, ts, co, tt, ks, ws⟩).drop 1 = ks ++ ws.flatMap fun x => [x.key, x.shard] := rfl
  have e2 : (textsOf ⟨kd, sr, ds, tn, ts, co, tt, ks, ws⟩).drop (1 + ks.length) = ws.flatMap fun x => [x.key, x.shard] := by
    rw [← List.drop_drop, e1, List.drop_left]
  have e3 : (numsOf ⟨kd, sr, ds, tn, ts, co, tt, ks, ws⟩).drop 7 = ws.map fun x => if x.dead then 1 else 0 := rfl
  rw [e1, e2, e3, List.take_left, pairL_of]
  rfl

theorem nums_len (l : Let) : (numsOf l).length = 7 + l.ws.length := by
  unfold numsOf; rw [List.length_append, List.length_map]; rfl
theorem texts_len (l : Let) : (textsOf l).length = 1 + l.keys.length + 2 * l.ws.length := by
  unfold textsOf; rw [List.length_cons, List.length_append, flat_len]; omega
theorem many_of (l : Let) : manyOf (numsOf l) = l.keys.length := by simp [manyOf, numsOf]
theorem six_of (l : Let) : (numsOf l).getD 6 0 = (l.keys.length : Int) := by simp [numsOf]

/-- bytes that are read so are no other letter's -/
theorem says_nums {s : List UInt8} {ns : List Int} {ts : List ByteArray} {l : Let} (h : Pk.decL s = .ok (ns, ts)) (hl : LetOk l) (hs : s = letL l) : ns = numsOf l ∧ ts = textsOf l := by
  rw [hs] at h
  unfold letL at h
  rw [Pk.decL_back hl.pack] at h
  simp only [Except.ok.injEq, Prod.mk.injEq] at h
  exact ⟨h.1.symm, h.2.symm⟩

def noLet : Let := ⟨0, 0, 0, 0, 0, 0, ⟨#[]⟩, [], []⟩

/-- no letter's bytes -/
def NoLet (s : ByteArray) : Prop := ∀ l, LetOk l → s.data.toList ≠ letL l

/-- what the document's Decode answers -/
def LetDec (s : ByteArray) (w : World) : Ending → World → Prop := fun e w' =>
  (∃ (l : Let) (A B : Option Addr) (c d : Nat), LetOk l ∧ s.data.toList = letL l ∧ e = .returned (.tuple #[letV l A B c d, .int .i64 0]) ∧ StrsAt w' A l.keys ∧ WrsAt w' B l.ws ∧ Below w.heap.size w w') ∨
  (NoLet s ∧ e = .returned (.tuple #[letV noLet none none 0 0, .int .i64 70]) ∧ Below w.heap.size w w')

theorem NoLet.err {s : ByteArray} {e : Pk.Er} (h : Pk.decL s.data.toList = .error e) : NoLet s := fun l hl hs => by
  rw [hs] at h
  unfold letL at h
  rw [Pk.decL_back hl.pack] at h
  cases h

theorem NoLet.of {s : ByteArray} {ns : List Int} {ts : List ByteArray} (h : Pk.decL s.data.toList = .ok (ns, ts)) (hn : ∀ l, LetOk l → ns = numsOf l → ts = textsOf l → s.data.toList = letL l → False) : NoLet s := fun l hl hs => by
  obtain ⟨e1, e2⟩ := says_nums h hl hs
  exact hn l hl e1 e2 hs

/-- the ranges of one that a pack may say -/
theorem cand_range {ns : List Int} {ts : List ByteArray} (h : Pk.MayBe ns ts) : LetRng (cand ns ts) := by
  obtain ⟨h1, h2, h3, h4⟩ := h
  have rb : reachBytes = 140737488351232 := by unfold reachBytes; rfl
  have hi : ∀ i, -9223372036854775808 ≤ ns.getD i 0 ∧ ns.getD i 0 ≤ 9223372036854775807 := fun i => by
    rw [List.getD_eq_getElem?_getD]
    cases e : ns[i]? with
    | none => simp
    | some z =>
      have hz := h3 z (List.mem_of_getElem? e)
      unfold Pk.numOk at hz
      simp only [Option.getD_some]; omega
  have ht : ∀ t ∈ ts, t.size ≤ reachBytes := fun t ht => by have := h4 t ht; omega
  have hp : ∀ (fs : List Int) (us : List ByteArray), (∀ u ∈ us, u.size ≤ reachBytes) → ∀ x ∈ pairL fs us, x.key.size ≤ reachBytes ∧ x.shard.size ≤ reachBytes := by
    intro fs
    induction fs with
    | nil => intro us _ x hx; simp [pairL] at hx
    | cons f fs ih =>
      intro us hu x hx
      match us, hu, hx with
      | [], _, hx => simp [pairL] at hx
      | [k], _, hx => simp [pairL] at hx
      | k :: s :: r, hu, hx =>
        rcases List.mem_cons.1 hx with rfl | hx
        · exact ⟨hu _ (by simp), hu _ (by simp)⟩
        · exact ih r (fun u hr => hu u (by simp [hr])) x hx
  have hpl : ∀ (fs : List Int) (us : List ByteArray), (pairL fs us).length ≤ fs.length := by
    intro fs
    induction fs with
    | nil => intro us; simp [pairL]
    | cons f fs ih =>
      intro us
      match us with
      | [] => simp [pairL]
      | [k] => simp [pairL]
      | k :: s :: r => rw [pairL, List.length_cons, List.length_cons]; have := ih r; omega
  refine ⟨hi 0, hi 1, hi 2, hi 3, hi 4, hi 5, ?_, ?_, ?_, ?_, ?_⟩
  · show (ts.getD 0 ⟨#[]⟩).size ≤ _
    rw [List.getD_eq_getElem?_getD]
    cases e : ts[0]? with
    | none => simp only [Option.getD_none]; show (0 : Nat) ≤ _; omega
    | some t => exact ht t (List.mem_of_getElem? e)
  · show ((ts.drop 1).take (manyOf ns)).length * 16 ≤ _
    rw [List.length_take, List.length_drop]; omega
  · show (pairL (ns.drop 7) (ts.drop (1 + manyOf ns))).length * 16 ≤ _
    have := hpl (ns.drop 7) (ts.drop (1 + manyOf ns))
    rw [List.length_drop] at this; omega
  · intro t ht2
    exact ht t (List.mem_of_mem_drop (List.mem_of_mem_take ht2))
  · exact hp _ _ (fun u hu => ht u (List.mem_of_mem_drop hu))

end Lt
end Go.Proofs.Ytkpcfakfkcghdaa
