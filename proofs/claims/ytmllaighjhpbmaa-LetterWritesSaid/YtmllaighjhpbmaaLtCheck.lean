/- What the document's own Check of letters answers; contract; no condition but the range. -/
import Derived.Test.YtmllaighjhpbmaaLtEnv
namespace Go.Proofs.Ytmllaighjhpbmaa
namespace Lt
open Go.RowKit Bk

attribute [local go_sem ↓] Go.wp_at_zero Go.wp_at_succ
attribute [local go_sem] floatUpon pick

theorem bool_of {p : Prop} : ∃ b : Bool, (b = true ↔ p) := ⟨@decide p (Classical.propDecidable _), by rw [@decide_eq_true_eq _ (Classical.propDecidable _)]⟩

set_option maxRecDepth 20000 in
set_option maxHeartbeats 8000000 in
theorem check_any (A B : Option Addr) (c d : Nat) (l : Let) (w : World) (ha : StrsAt w A l.keys) (hb : WrsAt w B l.ws) (hr : LetRng l) :
    Calls Try.prog 14 #[letV l A B c d] w fun e w' => e = .returned (.int .i64 (ckN l : Int)) ∧ Below w.heap.size w w' := by
  have henv := LtEnv.start (c := c) (d := d) ha hb
  have rb : reachBytes ≤ 140737488351232 := by unfold reachBytes; omega
  have HSa := Lib.hid (fun W => address_any l.src W hr.src)
  have HDa := Lib.hid (fun W => address_any l.dst W hr.dst)
  have HTa := Lib.hid (fun W => txn_any l.txn W hr.txn)
  have HPa := Lib.hid (fun W => stamp_any l.ts W hr.ts)
  have nk : l.keys.length ≤ 9223372036854775807 := by have := hr.k16; omega
  have nw : l.ws.length * 16 + 16 ≤ 140737488355328 := by have := hr.w16; omega
  have HRi := Lib.hid (fun W (h : StrsAt W A l.keys) => rising_any A c l.keys W h nk (fun s hs => by have := hr.kr s hs; omega))
  have HWr := Lib.hid (fun W (h : WrsAt W B l.ws) => writes_any B d l.ws W h nw (fun x hx => by have := hr.wr x hx; omega))
  have HKy := Lib.hid (fun W s (hs : s ∈ l.keys) => key_any s W (by have := hr.kr s hs; omega))
  have tx : l.text.size ≤ 140737488351232 := by have := hr.text; omega
  have pk : (l.keys.length : Int) ≤ 9223372036854775807 := by omega
  have pw : (l.ws.length : Int) ≤ 9223372036854775807 := by omega
  have ptx : (l.text.size : Int) ≤ 140737488351232 := by omega
  have hcr := hr.code
  have hkr := hr.kind
  clear ha hb hr rb nk nw tx
  unfold letV
  go_enter Try.func14, Try.ntmps14
  go_upto_region 1 with fail
  generalize w.alloc (.cells #[.int .i64 l.kind, .int .i64 l.src, .int .i64 l.dst, .int .i64 l.txn, .int .i64 l.ts, .int .i64 l.code, .string l.text, .slice A l.keys.length c, .slice B l.ws.length d] 25) = W1 at henv ⊢
  have HE := Lib.hid henv
  have k0 := henv.cel.cell (i := 0) rfl
  have k1 := henv.cel.cell (i := 1) rfl
  have k2 := henv.cel.cell (i := 2) rfl
  have k3 := henv.cel.cell (i := 3) rfl
  have k4 := henv.cel.cell (i := 4) rfl
  have k5 := henv.cel.cell (i := 5) rfl
  have k6 := henv.cel.cell (i := 6) rfl
  have k7 := henv.cel.cell (i := 7) rfl
  have k8 := henv.cel.cell (i := 8) rfl
  clear henv
  obtain ⟨nh, hnh⟩ := bool_of (p := ¬ headOk l)
  have HNh := Lib.hid hnh
  clear hnh
  go_cut [37] (fun s wx => s = .bool nh ∧ wx = W1)
  case first =>

    by_cases h0 : addr l.src
    · rw [show decide (addr l.src) = true from decide_eq_true h0] at HSa
      by_cases h1 : addr l.dst
      · rw [show decide (addr l.dst) = true from decide_eq_true h1] at HDa
        by_cases h2 : txnOk l.txn
        · rw [show decide (txnOk l.txn) = true from decide_eq_true h2] at HTa
          by_cases h3 : stampOk l.ts
          · rw [show decide (stampOk l.ts) = true from decide_eq_true h3] at HPa
            by_cases h4 : l.code < 0
            · have N := Lib.hid (show nh = true from HNh.out.2 (fun h => by have := h.2.2.2.2.1; omega))
              clear h0 h1 h2 h3
              go_wp2_with fail
              refine (HSa.out _).mono ?_
              rintro e w' ⟨rfl, rfl⟩
              go_wp2_with fail
              refine (HDa.out _).mono ?_
              rintro e w' ⟨rfl, rfl⟩
              go_wp2_with fail
              refine (HTa.out _).mono ?_
              rintro e w' ⟨rfl, rfl⟩
              go_wp2_with fail
              refine (HPa.out _).mono ?_
              rintro e w' ⟨rfl, rfl⟩
              go_wp2_with fail
              go_meet
              exact ⟨by first | (rw [N.out]; done) | (rw [N.out]; rfl) | (rw [N.out]; simp; omega), rfl⟩
            · have p4 : 0 ≤ l.code := by omega
              clear h4
              by_cases h5 : 4 < l.code
              · have N := Lib.hid (show nh = true from HNh.out.2 (fun h => by have := h.2.2.2.2.2; omega))
                clear h0 h1 h2 h3
                go_wp2_with fail
                refine (HSa.out _).mono ?_
                rintro e w' ⟨rfl, rfl⟩
                go_wp2_with fail
                refine (HDa.out _).mono ?_
                rintro e w' ⟨rfl, rfl⟩
                go_wp2_with fail
                refine (HTa.out _).mono ?_
                rintro e w' ⟨rfl, rfl⟩
                go_wp2_with fail
                refine (HPa.out _).mono ?_
                rintro e w' ⟨rfl, rfl⟩
                go_wp2_with fail
                go_meet
                exact ⟨by first | (rw [N.out]; done) | (rw [N.out]; rfl) | (rw [N.out]; simp; omega), rfl⟩
              · have p5 : l.code ≤ 4 := by omega
                have N := Lib.hid (show nh = false by cases nh; rfl; exact absurd ⟨h0, h1, h2, h3, p4, p5⟩ (HNh.out.1 rfl))
                clear h0 h1 h2 h3 h5
                go_wp2_with fail
                refine (HSa.out _).mono ?_
                rintro e w' ⟨rfl, rfl⟩
                go_wp2_with fail
                refine (HDa.out _).mono ?_
                rintro e w' ⟨rfl, rfl⟩
                go_wp2_with fail
                refine (HTa.out _).mono ?_
                rintro e w' ⟨rfl, rfl⟩
                go_wp2_with fail
                refine (HPa.out _).mono ?_
                rintro e w' ⟨rfl, rfl⟩
                go_wp2_with fail
                go_meet
                exact ⟨by first | (rw [N.out]; done) | (rw [N.out]; rfl) | (rw [N.out]; simp; omega), rfl⟩
          · rw [show decide (stampOk l.ts) = false from decide_eq_false h3] at HPa
            have N := Lib.hid (show nh = true from HNh.out.2 (fun h => h3 h.2.2.2.1))
            clear h0 h1 h2 h3
            go_wp2_with fail
            refine (HSa.out _).mono ?_
            rintro e w' ⟨rfl, rfl⟩
            go_wp2_with fail
            refine (HDa.out _).mono ?_
            rintro e w' ⟨rfl, rfl⟩
            go_wp2_with fail
            refine (HTa.out _).mono ?_
            rintro e w' ⟨rfl, rfl⟩
            go_wp2_with fail
            refine (HPa.out _).mono ?_
            rintro e w' ⟨rfl, rfl⟩
            go_wp2_with fail
            go_meet
            exact ⟨by first | (rw [N.out]; done) | (rw [N.out]; rfl) | (rw [N.out]; simp; omega), rfl⟩
        · rw [show decide (txnOk l.txn) = false from decide_eq_false h2] at HTa
          have N := Lib.hid (show nh = true from HNh.out.2 (fun h => h2 h.2.2.1))
          clear h0 h1 h2
          go_wp2_with fail
          refine (HSa.out _).mono ?_
          rintro e w' ⟨rfl, rfl⟩
          go_wp2_with fail
          refine (HDa.out _).mono ?_
          rintro e w' ⟨rfl, rfl⟩
          go_wp2_with fail
          refine (HTa.out _).mono ?_
          rintro e w' ⟨rfl, rfl⟩
          go_wp2_with fail
          go_meet
          exact ⟨by first | (rw [N.out]; done) | (rw [N.out]; rfl) | (rw [N.out]; simp; omega), rfl⟩
      · rw [show decide (addr l.dst) = false from decide_eq_false h1] at HDa
        have N := Lib.hid (show nh = true from HNh.out.2 (fun h => h1 h.2.1))
        clear h0 h1
        go_wp2_with fail
        refine (HSa.out _).mono ?_
        rintro e w' ⟨rfl, rfl⟩
        go_wp2_with fail
        refine (HDa.out _).mono ?_
        rintro e w' ⟨rfl, rfl⟩
        go_wp2_with fail
        go_meet
        exact ⟨by first | (rw [N.out]; done) | (rw [N.out]; rfl) | (rw [N.out]; simp; omega), rfl⟩
    · rw [show decide (addr l.src) = false from decide_eq_false h0] at HSa
      have N := Lib.hid (show nh = true from HNh.out.2 (fun h => h0 h.1))
      clear h0
      go_wp2_with fail
      refine (HSa.out _).mono ?_
      rintro e w' ⟨rfl, rfl⟩
      go_wp2_with fail
      go_meet
      exact ⟨by first | (rw [N.out]; done) | (rw [N.out]; rfl) | (rw [N.out]; simp; omega), rfl⟩
  case rest =>
    obtain ⟨rfl, rfl⟩ := hcut
    have HB1 := Lib.hid HE.out.bel
    cases nh with
    | true =>
      have E := Lib.hid (ckN_head (HNh.out.1 rfl))
      clear HNh
      go_wp2_with fail
      go_ret
      exact ⟨by rw [E.out]; rfl, HB1.out⟩
    | false =>
      have hhead : headOk l := Classical.byContradiction fun h => by have := HNh.out.2 h; cases this
      have HHead := Lib.hid hhead
      clear HNh hhead
      go_upto_region 3 with fail
      obtain ⟨o, ho⟩ := bool_of (p := OneOk l)
      have HO := Lib.hid ho
      clear ho
      go_cut [3] (fun s wx => s = .bool o ∧ wx = wc)
      case first =>
        by_cases g1 : l.keys.length = 1
        · have q1 : ((l.keys.length : Int) == 1) = true := by rw [g1]; rfl
          obtain ⟨ad, rfl, _, hcl⟩ := HE.out.ks (by omega)
          have x1 := hcl 0 (by omega)
          rw [add_zero'] at x1
          have hmem : l.keys[0] ∈ l.keys := List.getElem_mem (by omega)
          have HK := Lib.hid (fun W => HKy.out W _ hmem)
          have hall : (∀ k ∈ l.keys, keyOk k) ↔ keyOk l.keys[0] := by
            obtain ⟨k, hk⟩ := list_one g1
            simp only [hk, List.mem_singleton, forall_eq, List.getElem_cons_zero]
          have HAll := Lib.hid hall
          have G1 := Lib.hid g1
          have g0 : 0 < l.keys.length := by omega
          clear hcl hall
          by_cases g2 : keyOk l.keys[0]
          · rw [show decide (keyOk l.keys[0]) = true from decide_eq_true g2] at HK
            generalize hz : l.keys[0] = z at x1 HK
            by_cases g3 : l.ws = []
            · have q3 : ((l.ws.length : Int) == 0) = true := by rw [g3]; rfl
              have N := Lib.hid (HO.out.2 ⟨G1.out, HAll.out.2 g2, g3⟩)
              clear g1 g2 g3 hz hmem HAll
              go_wp2_with fail
              refine (HK.out _).mono ?_
              rintro e w' ⟨rfl, rfl⟩
              go_wp2_with fail
              go_meet
              exact ⟨by first | (rw [N.out]; done) | (rw [N.out]; rfl), rfl⟩
            · have q3 : ((l.ws.length : Int) == 0) = false := by simp; exact g3
              have N := Lib.hid (show o = false by
                cases o
                · rfl
                · exact absurd (HO.out.1 rfl).2.2 g3)
              clear g1 g2 g3 hz hmem HAll
              go_wp2_with fail
              refine (HK.out _).mono ?_
              rintro e w' ⟨rfl, rfl⟩
              go_wp2_with fail
              go_meet
              exact ⟨by first | (rw [N.out]; done) | (rw [N.out]; rfl), rfl⟩
          · rw [show decide (keyOk l.keys[0]) = false from decide_eq_false g2] at HK
            have N := Lib.hid (show o = false by
              cases o
              · rfl
              · exact absurd (HAll.out.1 (HO.out.1 rfl).2.1) g2)
            generalize l.keys[0] = z at x1 HK
            clear g1 g2 hmem HAll
            go_wp2_with fail
            refine (HK.out _).mono ?_
            rintro e w' ⟨rfl, rfl⟩
            go_wp2_with fail
            go_meet
            exact ⟨by first | (rw [N.out]; done) | (rw [N.out]; rfl), rfl⟩
        · have q1 : ((l.keys.length : Int) == 1) = false := by simp; omega
          have N := Lib.hid (show o = false by
            cases o
            · rfl
            · exact absurd (HO.out.1 rfl).1 g1)
          clear g1
          go_wp2_with fail
          go_meet
          exact ⟨by first | (rw [N.out]; done) | (rw [N.out]; rfl), rfl⟩
      case rest =>
        obtain ⟨rfl, rfl⟩ := hcut
        go_upto_region 4 with fail
        obtain ⟨b, hb⟩ := bool_of (p := BareOk l)
        have HBa := Lib.hid hb
        clear hb
        obtain ⟨wo, rfl⟩ : ∃ wo : World, wo = wc := ⟨_, rfl⟩
        go_cut [4] (fun s wx => s = .bool b ∧ wx = wo)
        case first =>
          by_cases g1 : l.keys = []
          · have q1 : ((l.keys.length : Int) == 0) = true := by rw [g1]; rfl
            by_cases g2 : l.ws = []
            · have q2 : ((l.ws.length : Int) == 0) = true := by rw [g2]; rfl
              by_cases g3 : l.text = ⟨#[]⟩
              · have N := Lib.hid (HBa.out.2 ⟨g1, g2, g3⟩)
                rw [g3] at k6
                have t0 := text_eq ⟨#[]⟩
                clear g1 g2 g3
                go_wp2_with fail
                go_meet
                exact ⟨by first | (rw [N.out]; done) | (rw [N.out]; rfl), rfl⟩
              · have N := Lib.hid (show b = false by
                  cases b
                  · rfl
                  · exact absurd (HBa.out.1 rfl).2.2 g3)
                have t0 := text_ne g3
                have t1 := empty_list g3
                have t2 : l.text.toList.isEmpty = false := by rw [List.isEmpty_eq_false_iff]; exact t1
                clear g1 g2 g3
                go_wp2_with fail
                go_meet
                exact ⟨by first | (rw [N.out]; done) | (rw [N.out]; rfl), rfl⟩
            · have h3 : ¬ l.ws.length = 0 := fun h => g2 (List.length_eq_zero_iff.1 h)
              have q2 : ((l.ws.length : Int) == 0) = false := by simp; exact g2
              have N := Lib.hid (show b = false by
                cases b
                · rfl
                · exact absurd (HBa.out.1 rfl).2.1 g2)
              clear g1 g2 h3
              go_wp2_with fail
              go_meet
              exact ⟨by first | (rw [N.out]; done) | (rw [N.out]; rfl), rfl⟩
          · have q1 : ((l.keys.length : Int) == 0) = false := by simp; exact g1
            have N := Lib.hid (show b = false by
              cases b
              · rfl
              · exact absurd (HBa.out.1 rfl).1 g1)
            clear g1
            go_wp2_with fail
            go_meet
            exact ⟨by first | (rw [N.out]; done) | (rw [N.out]; rfl), rfl⟩
        case rest =>
          obtain ⟨rfl, rfl⟩ := hcut

          have HBb := Lib.hid HE.out.bel
          by_cases hkd : l.kind = 1
          · have e1 : (l.kind == 1) = true := by rw [beq_iff_eq]; exact hkd
            have e2 : (l.kind == 2) = false := by rw [beq_eq_false_iff_ne]; omega
            have e3 : (l.kind == 3) = false := by rw [beq_eq_false_iff_ne]; omega
            have e4 : (l.kind == 4) = false := by rw [beq_eq_false_iff_ne]; omega
            have e5 : (l.kind == 5) = false := by rw [beq_eq_false_iff_ne]; omega
            have e6 : (l.kind == 6) = false := by rw [beq_eq_false_iff_ne]; omega
            have e7 : (l.kind == 7) = false := by rw [beq_eq_false_iff_ne]; omega
            have e8 : (l.kind == 8) = false := by rw [beq_eq_false_iff_ne]; omega
            have HK := Lib.hid (kind_1 hkd)
            clear hkd
            cases o with
            | false =>
              have E := Lib.hid (ckN_bad (fun h => absurd (HO.out.2 (HK.out.1 h).1) (by simp)))
              go_wp2_with fail
              go_ret
              exact ⟨by rw [E.out]; rfl, HB1.out⟩
            | true =>
              by_cases g : l.text = ⟨#[]⟩
              · by_cases g2 : l.code = 0
                · have E := Lib.hid (ckN_ok HHead.out (HK.out.2 ⟨HO.out.1 rfl, g, g2⟩))
                  have q2 : (l.code == 0) = true := by rw [g2]; rfl
                  rw [g] at k6
                  have t0 := text_eq ⟨#[]⟩
                  clear g g2
                  go_wp2_with fail
                  go_ret
                  exact ⟨by rw [E.out]; rfl, HB1.out⟩
                · have E := Lib.hid (ckN_bad (fun h => g2 (HK.out.1 h).2.2))
                  have q2 : (l.code == 0) = false := by rw [beq_eq_false_iff_ne]; exact g2
                  rw [g] at k6
                  have t0 := text_eq ⟨#[]⟩
                  clear g g2
                  go_wp2_with fail
                  go_ret
                  exact ⟨by rw [E.out]; rfl, HB1.out⟩
              · have E := Lib.hid (ckN_bad (fun h => g (HK.out.1 h).2.1))
                have t0 := text_ne g
                have t1 := empty_list g
                have t2 : l.text.toList.isEmpty = false := by rw [List.isEmpty_eq_false_iff]; exact t1
                clear g
                go_wp2_with fail
                go_ret
                exact ⟨by rw [E.out]; rfl, HB1.out⟩
          by_cases hkd : l.kind = 2
          · have e1 : (l.kind == 1) = false := by rw [beq_eq_false_iff_ne]; omega
            have e2 : (l.kind == 2) = true := by rw [beq_iff_eq]; exact hkd
            have e3 : (l.kind == 3) = false := by rw [beq_eq_false_iff_ne]; omega
            have e4 : (l.kind == 4) = false := by rw [beq_eq_false_iff_ne]; omega
            have e5 : (l.kind == 5) = false := by rw [beq_eq_false_iff_ne]; omega
            have e6 : (l.kind == 6) = false := by rw [beq_eq_false_iff_ne]; omega
            have e7 : (l.kind == 7) = false := by rw [beq_eq_false_iff_ne]; omega
            have e8 : (l.kind == 8) = false := by rw [beq_eq_false_iff_ne]; omega
            have HK := Lib.hid (kind_2 hkd)
            clear hkd
            cases o with
            | false =>
              have E := Lib.hid (ckN_bad (fun h => absurd (HO.out.2 (HK.out.1 h).1) (by simp)))
              go_wp2_with fail
              go_ret
              exact ⟨by rw [E.out]; rfl, HB1.out⟩
            | true =>
              by_cases g : l.text = ⟨#[]⟩
              · have E := Lib.hid (ckN_ok HHead.out (HK.out.2 ⟨HO.out.1 rfl, by rw [g]; show (0 : Nat) ≤ 2052; omega, .inl g⟩))
                rw [g] at k6
                have t0 := text_eq ⟨#[]⟩
                clear g
                go_wp2_with fail
                go_ret
                exact ⟨by rw [E.out]; rfl, HB1.out⟩
              · have t0 := text_ne g
                have t1 := empty_list g
                have t2 : l.text.toList.isEmpty = false := by rw [List.isEmpty_eq_false_iff]; exact t1
                by_cases g3 : l.text.size ≤ 2052
                · have q3 : (l.text.size : Int) ≤ 2052 := by omega
                  by_cases g2 : l.code = 1
                  · have E := Lib.hid (ckN_ok HHead.out (HK.out.2 ⟨HO.out.1 rfl, g3, .inr g2⟩))
                    have q2 : (l.code == 1) = true := by rw [g2]; rfl
                    clear g g2 g3
                    go_wp2_with fail
                    go_ret
                    exact ⟨by rw [E.out]; rfl, HB1.out⟩
                  · have E := Lib.hid (ckN_bad (fun h => (HK.out.1 h).2.2.elim g g2))
                    have q2 : (l.code == 1) = false := by rw [beq_eq_false_iff_ne]; exact g2
                    clear g g2 g3
                    go_wp2_with fail
                    go_ret
                    exact ⟨by rw [E.out]; rfl, HB1.out⟩
                · have q3 : (2052 : Int) < (l.text.size : Int) := by omega
                  have E := Lib.hid (ckN_bad (fun h => g3 (HK.out.1 h).2.1))
                  clear g g3
                  go_wp2_with fail
                  go_ret
                  exact ⟨by rw [E.out]; rfl, HB1.out⟩
          by_cases hkd : l.kind = 3
          · have e1 : (l.kind == 1) = false := by rw [beq_eq_false_iff_ne]; omega
            have e2 : (l.kind == 2) = false := by rw [beq_eq_false_iff_ne]; omega
            have e3 : (l.kind == 3) = true := by rw [beq_iff_eq]; exact hkd
            have e4 : (l.kind == 4) = false := by rw [beq_eq_false_iff_ne]; omega
            have e5 : (l.kind == 5) = false := by rw [beq_eq_false_iff_ne]; omega
            have e6 : (l.kind == 6) = false := by rw [beq_eq_false_iff_ne]; omega
            have e7 : (l.kind == 7) = false := by rw [beq_eq_false_iff_ne]; omega
            have e8 : (l.kind == 8) = false := by rw [beq_eq_false_iff_ne]; omega
            have HK := Lib.hid (kind_3 hkd)
            clear hkd
            by_cases g1 : l.keys.length ≤ 16
            · have q1 : (l.keys.length : Int) ≤ 16 := by omega
              have HR := Lib.hid (HRi.out _ HE.out.ks)
              by_cases g2 : Rises l.keys
              · rw [risesB_true g2] at HR
                by_cases g3 : WritesOk l.ws
                · rw [writesB_true g3] at HWr
                  by_cases g : l.text = ⟨#[]⟩
                  · have T := Lib.hid g
                    have t0 := text_eq ⟨#[]⟩
                    by_cases g4 : l.code = 0
                    · have E := Lib.hid (ckN_ok HHead.out (HK.out.2 ⟨g1, g2, g3, g, g4⟩))
                      have q2 : (l.code == 0) = true := by rw [g4]; rfl
                      clear g g1 g2 g3 g4
                      go_wp2_with fail
                      refine HR.out.mono ?_
                      rintro e w2 ⟨rfl, hb2⟩
                      have HE2 := Lib.hid (HE.out.step hb2)
                      have HW2 := Lib.hid (HWr.out _ HE2.out.ws)
                      have k8' := HE2.out.cel.cell (i := 8) rfl
                      clear hb2
                      go_wp2_with fail
                      refine HW2.out.mono ?_
                      rintro e w3 ⟨rfl, hb3⟩
                      have HE3 := Lib.hid (HE2.out.step hb3)
                      have k6' := HE3.out.cel.cell (i := 6) rfl
                      have k5' := HE3.out.cel.cell (i := 5) rfl
                      clear hb3 k8'
                      rw [T.out] at k6'
                      have HBz := Lib.hid HE3.out.bel
                      go_wp2_with fail
                      go_ret
                      exact ⟨by rw [E.out]; rfl, HBz.out⟩
                    · have E := Lib.hid (ckN_bad (fun h => g4 (HK.out.1 h).2.2.2.2))
                      have q2 : (l.code == 0) = false := by rw [beq_eq_false_iff_ne]; exact g4
                      clear g g1 g2 g3 g4
                      go_wp2_with fail
                      refine HR.out.mono ?_
                      rintro e w2 ⟨rfl, hb2⟩
                      have HE2 := Lib.hid (HE.out.step hb2)
                      have HW2 := Lib.hid (HWr.out _ HE2.out.ws)
                      have k8' := HE2.out.cel.cell (i := 8) rfl
                      clear hb2
                      go_wp2_with fail
                      refine HW2.out.mono ?_
                      rintro e w3 ⟨rfl, hb3⟩
                      have HE3 := Lib.hid (HE2.out.step hb3)
                      have k6' := HE3.out.cel.cell (i := 6) rfl
                      have k5' := HE3.out.cel.cell (i := 5) rfl
                      clear hb3 k8'
                      rw [T.out] at k6'
                      have HBz := Lib.hid HE3.out.bel
                      go_wp2_with fail
                      go_ret
                      exact ⟨by rw [E.out]; rfl, HBz.out⟩
                  · have E := Lib.hid (ckN_bad (fun h => g (HK.out.1 h).2.2.2.1))
                    have t0 := text_ne g
                    have t1 := empty_list g
                    have t2 : l.text.toList.isEmpty = false := by rw [List.isEmpty_eq_false_iff]; exact t1
                    clear g g1 g2 g3
                    go_wp2_with fail
                    refine HR.out.mono ?_
                    rintro e w2 ⟨rfl, hb2⟩
                    have HE2 := Lib.hid (HE.out.step hb2)
                    have HW2 := Lib.hid (HWr.out _ HE2.out.ws)
                    have k8' := HE2.out.cel.cell (i := 8) rfl
                    clear hb2
                    go_wp2_with fail
                    refine HW2.out.mono ?_
                    rintro e w3 ⟨rfl, hb3⟩
                    have HE3 := Lib.hid (HE2.out.step hb3)
                    have k6' := HE3.out.cel.cell (i := 6) rfl
                    have k5' := HE3.out.cel.cell (i := 5) rfl
                    clear hb3 k8'
                    have HBz := Lib.hid HE3.out.bel
                    go_wp2_with fail
                    go_ret
                    exact ⟨by rw [E.out]; rfl, HBz.out⟩
                · rw [writesB_false g3] at HWr
                  have E := Lib.hid (ckN_bad (fun h => g3 (HK.out.1 h).2.2.1))
                  clear g1 g2 g3
                  go_wp2_with fail
                  refine HR.out.mono ?_
                  rintro e w2 ⟨rfl, hb2⟩
                  have HE2 := Lib.hid (HE.out.step hb2)
                  have HW2 := Lib.hid (HWr.out _ HE2.out.ws)
                  have k8' := HE2.out.cel.cell (i := 8) rfl
                  clear hb2
                  go_wp2_with fail
                  refine HW2.out.mono ?_
                  rintro e w3 ⟨rfl, hb3⟩
                  have HE3 := Lib.hid (HE2.out.step hb3)
                  have k6' := HE3.out.cel.cell (i := 6) rfl
                  have k5' := HE3.out.cel.cell (i := 5) rfl
                  clear hb3 k8'
                  have HBz := Lib.hid HE3.out.bel
                  go_wp2_with fail
                  go_ret
                  exact ⟨by rw [E.out]; rfl, HBz.out⟩
              · rw [risesB_false g2] at HR
                have E := Lib.hid (ckN_bad (fun h => g2 (HK.out.1 h).2.1))
                clear g1 g2
                go_wp2_with fail
                refine HR.out.mono ?_
                rintro e w2 ⟨rfl, hb2⟩
                have HE2 := Lib.hid (HE.out.step hb2)
                have HBz := Lib.hid HE2.out.bel
                clear hb2
                go_wp2_with fail
                go_ret
                exact ⟨by rw [E.out]; rfl, HBz.out⟩
            · have q1 : (16 : Int) < (l.keys.length : Int) := by omega
              have E := Lib.hid (ckN_bad (fun h => g1 (HK.out.1 h).1))
              clear g1
              go_wp2_with fail
              go_ret
              exact ⟨by rw [E.out]; rfl, HB1.out⟩
          by_cases hkd : l.kind = 4
          · have e1 : (l.kind == 1) = false := by rw [beq_eq_false_iff_ne]; omega
            have e2 : (l.kind == 2) = false := by rw [beq_eq_false_iff_ne]; omega
            have e3 : (l.kind == 3) = false := by rw [beq_eq_false_iff_ne]; omega
            have e4 : (l.kind == 4) = true := by rw [beq_iff_eq]; exact hkd
            have e5 : (l.kind == 5) = false := by rw [beq_eq_false_iff_ne]; omega
            have e6 : (l.kind == 6) = false := by rw [beq_eq_false_iff_ne]; omega
            have e7 : (l.kind == 7) = false := by rw [beq_eq_false_iff_ne]; omega
            have e8 : (l.kind == 8) = false := by rw [beq_eq_false_iff_ne]; omega
            have HK := Lib.hid (kind_4 hkd)
            clear hkd
            cases b with
            | false =>
              have E := Lib.hid (ckN_bad (fun h => absurd (HBa.out.2 (HK.out.1 h).1) (by simp)))
              go_wp2_with fail
              go_ret
              exact ⟨by rw [E.out]; rfl, HB1.out⟩
            | true =>
              by_cases g : l.code ≤ 1
              · have E := Lib.hid (ckN_ok HHead.out (HK.out.2 ⟨HBa.out.1 rfl, g⟩))
                go_wp2_with fail
                go_ret
                exact ⟨by rw [E.out]; rfl, HB1.out⟩
              · have E := Lib.hid (ckN_bad (fun h => g (HK.out.1 h).2))
                have q : 1 < l.code := by omega
                go_wp2_with fail
                go_ret
                exact ⟨by rw [E.out]; rfl, HB1.out⟩
          by_cases hkd : l.kind = 5
          · have e1 : (l.kind == 1) = false := by rw [beq_eq_false_iff_ne]; omega
            have e2 : (l.kind == 2) = false := by rw [beq_eq_false_iff_ne]; omega
            have e3 : (l.kind == 3) = false := by rw [beq_eq_false_iff_ne]; omega
            have e4 : (l.kind == 4) = false := by rw [beq_eq_false_iff_ne]; omega
            have e5 : (l.kind == 5) = true := by rw [beq_iff_eq]; exact hkd
            have e6 : (l.kind == 6) = false := by rw [beq_eq_false_iff_ne]; omega
            have e7 : (l.kind == 7) = false := by rw [beq_eq_false_iff_ne]; omega
            have e8 : (l.kind == 8) = false := by rw [beq_eq_false_iff_ne]; omega
            have HK := Lib.hid (kind_5 (.inl hkd))
            clear hkd
            cases b with
            | false =>
              have E := Lib.hid (ckN_bad (fun h => absurd (HBa.out.2 (HK.out.1 h).1) (by simp)))
              go_wp2_with fail
              go_ret
              exact ⟨by rw [E.out]; rfl, HB1.out⟩
            | true =>
              by_cases g : l.code = 0
              · have E := Lib.hid (ckN_ok HHead.out (HK.out.2 ⟨HBa.out.1 rfl, g⟩))
                have q2 : (l.code == 0) = true := by rw [g]; rfl
                clear g
                go_wp2_with fail
                go_ret
                exact ⟨by rw [E.out]; rfl, HB1.out⟩
              · have E := Lib.hid (ckN_bad (fun h => g (HK.out.1 h).2))
                have q2 : (l.code == 0) = false := by rw [beq_eq_false_iff_ne]; exact g
                clear g
                go_wp2_with fail
                go_ret
                exact ⟨by rw [E.out]; rfl, HB1.out⟩
          by_cases hkd : l.kind = 6
          · have e1 : (l.kind == 1) = false := by rw [beq_eq_false_iff_ne]; omega
            have e2 : (l.kind == 2) = false := by rw [beq_eq_false_iff_ne]; omega
            have e3 : (l.kind == 3) = false := by rw [beq_eq_false_iff_ne]; omega
            have e4 : (l.kind == 4) = false := by rw [beq_eq_false_iff_ne]; omega
            have e5 : (l.kind == 5) = false := by rw [beq_eq_false_iff_ne]; omega
            have e6 : (l.kind == 6) = true := by rw [beq_iff_eq]; exact hkd
            have e7 : (l.kind == 7) = false := by rw [beq_eq_false_iff_ne]; omega
            have e8 : (l.kind == 8) = false := by rw [beq_eq_false_iff_ne]; omega
            have HK := Lib.hid (kind_5 (.inr (.inl hkd)))
            clear hkd
            cases b with
            | false =>
              have E := Lib.hid (ckN_bad (fun h => absurd (HBa.out.2 (HK.out.1 h).1) (by simp)))
              go_wp2_with fail
              go_ret
              exact ⟨by rw [E.out]; rfl, HB1.out⟩
            | true =>
              by_cases g : l.code = 0
              · have E := Lib.hid (ckN_ok HHead.out (HK.out.2 ⟨HBa.out.1 rfl, g⟩))
                have q2 : (l.code == 0) = true := by rw [g]; rfl
                clear g
                go_wp2_with fail
                go_ret
                exact ⟨by rw [E.out]; rfl, HB1.out⟩
              · have E := Lib.hid (ckN_bad (fun h => g (HK.out.1 h).2))
                have q2 : (l.code == 0) = false := by rw [beq_eq_false_iff_ne]; exact g
                clear g
                go_wp2_with fail
                go_ret
                exact ⟨by rw [E.out]; rfl, HB1.out⟩
          by_cases hkd : l.kind = 7
          · have e1 : (l.kind == 1) = false := by rw [beq_eq_false_iff_ne]; omega
            have e2 : (l.kind == 2) = false := by rw [beq_eq_false_iff_ne]; omega
            have e3 : (l.kind == 3) = false := by rw [beq_eq_false_iff_ne]; omega
            have e4 : (l.kind == 4) = false := by rw [beq_eq_false_iff_ne]; omega
            have e5 : (l.kind == 5) = false := by rw [beq_eq_false_iff_ne]; omega
            have e6 : (l.kind == 6) = false := by rw [beq_eq_false_iff_ne]; omega
            have e7 : (l.kind == 7) = true := by rw [beq_iff_eq]; exact hkd
            have e8 : (l.kind == 8) = false := by rw [beq_eq_false_iff_ne]; omega
            have HK := Lib.hid (kind_5 (.inr (.inr hkd)))
            clear hkd
            cases b with
            | false =>
              have E := Lib.hid (ckN_bad (fun h => absurd (HBa.out.2 (HK.out.1 h).1) (by simp)))
              go_wp2_with fail
              go_ret
              exact ⟨by rw [E.out]; rfl, HB1.out⟩
            | true =>
              by_cases g : l.code = 0
              · have E := Lib.hid (ckN_ok HHead.out (HK.out.2 ⟨HBa.out.1 rfl, g⟩))
                have q2 : (l.code == 0) = true := by rw [g]; rfl
                clear g
                go_wp2_with fail
                go_ret
                exact ⟨by rw [E.out]; rfl, HB1.out⟩
              · have E := Lib.hid (ckN_bad (fun h => g (HK.out.1 h).2))
                have q2 : (l.code == 0) = false := by rw [beq_eq_false_iff_ne]; exact g
                clear g
                go_wp2_with fail
                go_ret
                exact ⟨by rw [E.out]; rfl, HB1.out⟩
          by_cases hkd : l.kind = 8
          · have e1 : (l.kind == 1) = false := by rw [beq_eq_false_iff_ne]; omega
            have e2 : (l.kind == 2) = false := by rw [beq_eq_false_iff_ne]; omega
            have e3 : (l.kind == 3) = false := by rw [beq_eq_false_iff_ne]; omega
            have e4 : (l.kind == 4) = false := by rw [beq_eq_false_iff_ne]; omega
            have e5 : (l.kind == 5) = false := by rw [beq_eq_false_iff_ne]; omega
            have e6 : (l.kind == 6) = false := by rw [beq_eq_false_iff_ne]; omega
            have e7 : (l.kind == 7) = false := by rw [beq_eq_false_iff_ne]; omega
            have e8 : (l.kind == 8) = true := by rw [beq_iff_eq]; exact hkd
            have HK := Lib.hid (kind_8 hkd)
            clear hkd
            cases b with
            | false =>
              have E := Lib.hid (ckN_bad (fun h => absurd (HBa.out.2 (HK.out.1 h).1) (by simp)))
              go_wp2_with fail
              go_ret
              exact ⟨by rw [E.out]; rfl, HB1.out⟩
            | true =>
              by_cases g : l.code ≤ 2
              · have E := Lib.hid (ckN_ok HHead.out (HK.out.2 ⟨HBa.out.1 rfl, g⟩))
                go_wp2_with fail
                go_ret
                exact ⟨by rw [E.out]; rfl, HB1.out⟩
              · have E := Lib.hid (ckN_bad (fun h => g (HK.out.1 h).2))
                have q : 2 < l.code := by omega
                go_wp2_with fail
                go_ret
                exact ⟨by rw [E.out]; rfl, HB1.out⟩
          have hno : l.kind < 1 ∨ 8 < l.kind := by omega
          have E := Lib.hid (ckN_bad (kind_no hno))
          have e1 : (l.kind == 1) = false := by rw [beq_eq_false_iff_ne]; omega
          have e2 : (l.kind == 2) = false := by rw [beq_eq_false_iff_ne]; omega
          have e3 : (l.kind == 3) = false := by rw [beq_eq_false_iff_ne]; omega
          have e4 : (l.kind == 4) = false := by rw [beq_eq_false_iff_ne]; omega
          have e5 : (l.kind == 5) = false := by rw [beq_eq_false_iff_ne]; omega
          have e6 : (l.kind == 6) = false := by rw [beq_eq_false_iff_ne]; omega
          have e7 : (l.kind == 7) = false := by rw [beq_eq_false_iff_ne]; omega
          have e8 : (l.kind == 8) = false := by rw [beq_eq_false_iff_ne]; omega
          clear hno
          go_wp2_with fail
          go_ret
          exact ⟨by rw [E.out]; rfl, HB1.out⟩

end Lt
end Go.Proofs.Ytmllaighjhpbmaa
