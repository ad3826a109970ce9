/- What the document's own Check of records answers, if its head may not be; contract; no condition but the range. (Written by wip/gen_rccheck.py.) -/
import Derived.Test.YtibekhigpamnjaaRcEnv
import Derived.Test.YtibekhigpamnjaaA4
namespace Go.Proofs.Ytibekhigpamnjaa
namespace Rc
open Go.RowKit Bk Lt

attribute [local go_sem ↓] Go.wp_at_zero Go.wp_at_succ
attribute [local go_sem] floatUpon pick

set_option maxRecDepth 20000 in
set_option maxHeartbeats 8000000 in
theorem check_bad (A B : Option Addr) (c d : Nat) (r : Rec) (w : World) (ha : StrsAt w A r.keys) (hb : WrsAt w B r.ws) (hr : RecRng r) (hbad : ¬ headOk r) :
    Calls Try.prog 12 #[recV r A B c d] w fun e w' => e = .returned (.int .i64 (ckN r : Int)) ∧ Below w.heap.size w w' := by
  have henv := RcEnv.start (c := c) (d := d) ha hb
  have rb : reachBytes ≤ 140737488351232 := by unfold reachBytes; omega
  have HTa := Lib.hid (fun W => txn_any r.txn W hr.txn)
  have HPa := Lib.hid (fun W => stamp_any r.ts W hr.ts)
  have nk : r.keys.length ≤ 9223372036854775807 := by have := hr.k16; omega
  have nw : r.ws.length * 16 + 16 ≤ 140737488355328 := by have := hr.w40; omega
  have HRi := Lib.hid (fun W (h : StrsAt W A r.keys) => rising_any A c r.keys W h nk (fun s hs => by have := hr.kr s hs; omega))
  have HWr := Lib.hid (fun W (h : WrsAt W B r.ws) => writes_any B d r.ws W h nw (fun x hx => by have := hr.wr x hx; omega))
  have HKy := Lib.hid (fun W => key_any r.key W (by have := hr.key; omega))
  have pk : (r.keys.length : Int) ≤ 9223372036854775807 := by omega
  have pw : (r.ws.length : Int) ≤ 9223372036854775807 := by omega
  have ptx : (r.text.size : Int) ≤ 140737488351232 := by have := hr.text; omega
  clear ha hb hr rb nk nw
  unfold recV
  go_enter Try.func12, Try.ntmps12
  go_upto_region 1 with fail
  generalize w.alloc (.cells #[.int .i64 r.kind, .int .i64 r.txn, .int .i64 r.ts, .int .i64 r.coord, .string r.key, .string r.text, .bool r.dead, .slice A r.keys.length c, .slice B r.ws.length d] 25) = W1 at henv ⊢
  have HE := Lib.hid henv
  have k0 := henv.cel.cell (i := 0) rfl
  have k1 := henv.cel.cell (i := 1) rfl
  have k2 := henv.cel.cell (i := 2) rfl
  have k3 := henv.cel.cell (i := 3) rfl
  have k4 := henv.cel.cell (i := 4) rfl
  have k5 := henv.cel.cell (i := 5) rfl
  have k6 := henv.cel.cell (i := 6) rfl
  have k7 := henv.cel.cell (i := 7) rfl
  have k8 := henv.cel.cell (i := 8) rfl
  clear henv
  have E := Lib.hid (ckN_head hbad)
  have HB1 := Lib.hid HE.out.bel
  by_cases h0 : r.txn = 0
  · have HT0 : r.txn = 0 ∨ txnOk r.txn := .inl h0
    have q0 : (r.txn != 0) = false := by simp [h0]
    by_cases h3 : stampOk r.ts
    · rw [show decide (stampOk r.ts) = true from decide_eq_true h3] at HPa
      by_cases h4 : r.coord < 0
      · clear h3 hbad h0 HT0
        go_wp2_with fail
        refine (HPa.out _).mono ?_
        rintro e w' ⟨rfl, rfl⟩
        go_wp2_with fail
        go_ret
        exact ⟨by rw [E.out]; rfl, HB1.out⟩
      · have p4 : 0 ≤ r.coord := by omega
        have p5 : 16 ≤ r.coord := by
          rcases Int.lt_or_le r.coord 16 with h5 | h5
          · exact absurd ⟨HT0, h3, p4, h5⟩ hbad
          · exact h5
        clear h3 h4 hbad h0 HT0
        go_wp2_with fail
        refine (HPa.out _).mono ?_
        rintro e w' ⟨rfl, rfl⟩
        go_wp2_with fail
        go_ret
        exact ⟨by rw [E.out]; rfl, HB1.out⟩
    · rw [show decide (stampOk r.ts) = false from decide_eq_false h3] at HPa
      clear h3 hbad h0 HT0
      go_wp2_with fail
      refine (HPa.out _).mono ?_
      rintro e w' ⟨rfl, rfl⟩
      go_wp2_with fail
      go_ret
      exact ⟨by rw [E.out]; rfl, HB1.out⟩
  · have q0 : (r.txn != 0) = true := by simp [h0]
    by_cases h1 : txnOk r.txn
    · have HT0 : r.txn = 0 ∨ txnOk r.txn := .inr h1
      rw [show decide (txnOk r.txn) = true from decide_eq_true h1] at HTa
      by_cases h3 : stampOk r.ts
      · rw [show decide (stampOk r.ts) = true from decide_eq_true h3] at HPa
        by_cases h4 : r.coord < 0
        · clear h3 hbad h0 h1 HT0
          go_wp2_with fail
          refine (HTa.out _).mono ?_
          rintro e w' ⟨rfl, rfl⟩
          go_wp2_with fail
          refine (HPa.out _).mono ?_
          rintro e w' ⟨rfl, rfl⟩
          go_wp2_with fail
          go_ret
          exact ⟨by rw [E.out]; rfl, HB1.out⟩
        · have p4 : 0 ≤ r.coord := by omega
          have p5 : 16 ≤ r.coord := by
            rcases Int.lt_or_le r.coord 16 with h5 | h5
            · exact absurd ⟨HT0, h3, p4, h5⟩ hbad
            · exact h5
          clear h3 h4 hbad h0 h1 HT0
          go_wp2_with fail
          refine (HTa.out _).mono ?_
          rintro e w' ⟨rfl, rfl⟩
          go_wp2_with fail
          refine (HPa.out _).mono ?_
          rintro e w' ⟨rfl, rfl⟩
          go_wp2_with fail
          go_ret
          exact ⟨by rw [E.out]; rfl, HB1.out⟩
      · rw [show decide (stampOk r.ts) = false from decide_eq_false h3] at HPa
        clear h3 hbad h0 h1 HT0
        go_wp2_with fail
        refine (HTa.out _).mono ?_
        rintro e w' ⟨rfl, rfl⟩
        go_wp2_with fail
        refine (HPa.out _).mono ?_
        rintro e w' ⟨rfl, rfl⟩
        go_wp2_with fail
        go_ret
        exact ⟨by rw [E.out]; rfl, HB1.out⟩
    · rw [show decide (txnOk r.txn) = false from decide_eq_false h1] at HTa
      clear h0 h1 hbad
      go_wp2_with fail
      refine (HTa.out _).mono ?_
      rintro e w' ⟨rfl, rfl⟩
      go_wp2_with fail
      go_ret
      exact ⟨by rw [E.out]; rfl, HB1.out⟩

end Rc
end Go.Proofs.Ytibekhigpamnjaa
