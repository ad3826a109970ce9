/- One call of both nets: Copy; no condition but the ranges. -/
import Derived.Test.YtkpcfakfkcghdaaNtPl2
namespace Go.Proofs.Ytkpcfakfkcghdaa
namespace Nt
open Go.RowKit Bk Lt
set_option linter.unusedVariables false

attribute [local go_sem ↓] Go.wp_at_zero Go.wp_at_succ
attribute [local go_sem] floatUpon pick

set_option maxRecDepth 20000 in
set_option maxHeartbeats 8000000 in
theorem step3_any {w0 W : World} {g b : Nat} {room : Int} {l : List Let} (a : AI) (h : TM w0 W (fun _ => False) g b room l l) (ha : ActRng w0 a) (hk : amongV a.k 6 = 3) :
    Calls Try.prog 11 #[.pointer (some ⟨g, 0, none⟩), .pointer (some ⟨b, 0, none⟩), actV a] W fun e w' => e = .returned (.bool true) ∧ ∃ l', TM w0 w' (fun _ => False) g b room l' l' := by
  have HA : Hid (∀ V : World, Calls Try.prog 13 #[.int .i64 a.k, .int .i64 6] V fun e w' => e = .returned (.int .i64 3) ∧ w' = V) := Lib.hid (fun V => by
    have h1 := among_any a.k 6 V (by omega) (by omega)
    rw [hk] at h1
    exact h1)
  have HR := Lib.hid ha
  have HH := Lib.hid h
  clear hk h ha
  unfold actV
  go_enter Try.func11, Try.ntmps11
  go_upto_region 1 with fail
  have hC : Cel (W.alloc (.cells #[.int .i64 a.k, .int .i64 a.n, .int .i64 a.x.l.kind, .int .i64 a.x.l.src, .int .i64 a.x.l.dst, .int .i64 a.x.l.txn, .int .i64 a.x.l.ts, .int .i64 a.x.l.code, .string a.x.l.text, .slice a.x.A a.x.l.keys.length a.x.c, .slice a.x.B a.x.l.ws.length a.x.d, .string a.text] 37)) W.heap.size 37 (acs a) := (blk1 W _).2
  have hal := (Below.refl W.heap.size W).alloc (Nat.le_refl _) (.cells #[.int .i64 a.k, .int .i64 a.n, .int .i64 a.x.l.kind, .int .i64 a.x.l.src, .int .i64 a.x.l.dst, .int .i64 a.x.l.txn, .int .i64 a.x.l.ts, .int .i64 a.x.l.code, .string a.x.l.text, .slice a.x.A a.x.l.keys.length a.x.c, .slice a.x.B a.x.l.ws.length a.x.d, .string a.text] 37)
  have hT := HH.out.box hal rfl hC.lt
  have hax := HR.out.x.below HH.out.bel
  have hax := hax.below hal
  generalize W.alloc (.cells #[.int .i64 a.k, .int .i64 a.n, .int .i64 a.x.l.kind, .int .i64 a.x.l.src, .int .i64 a.x.l.dst, .int .i64 a.x.l.txn, .int .i64 a.x.l.ts, .int .i64 a.x.l.code, .string a.x.l.text, .slice a.x.A a.x.l.keys.length a.x.c, .slice a.x.B a.x.l.ws.length a.x.d, .string a.text] 37) = W1 at hC hal hT hax ⊢
  generalize W.heap.size = b0 at hC hT ⊢
  have c0 := hC.cell (i := 0) rfl
  have HC := Lib.hid hC
  have HT := Lib.hid hT
  have HX := Lib.hid hax
  clear hC hal hT hax HH
  have c1 := HC.out.cell (i := 1) rfl
  have HL := Lib.hid (lq_copy HT.out HC.out (.inr rfl) a.n)
  clear HT
  go_wp2_with fail
  refine (HA.out _).mono ?_
  rintro e W2 ⟨rfl, rfl⟩
  clear HA HC HX c0
  go_upto_region 19 with fail
  go_region_held3 (fun w' => w'.cell? ⟨b0, 1, none⟩ = some (.int .i64 a.n))
    (first | assumption | go_keep)
    (first
      | (go_at_call 28
         refine (HD.out _ (by first | exact Below.refl _ _ | exact (Below.refl _ _).drew | exact ⟨rfl, rfl, rfl, Nat.le_refl _, fun _ _ => rfl⟩)).mono ?_
         rintro e W5 ⟨ed, rfl, hed, ht5, hC5⟩
         obtain rfl : ed = ec := hed.out.trans hec.out.symm
         have m1 := (show Cel W5 b0 37 (acs a) from hC5.out).cell (i := 1) rfl)
      | (go_at_call 18
         refine (HL.out _ (by first | exact Below.refl _ _ | exact (Below.refl _ _).drew | exact ⟨rfl, rfl, rfl, Nat.le_refl _, fun _ _ => rfl⟩)).mono ?_
         rintro e W4 ⟨ec, rfl, hec, ht4, hC4⟩
         have n1 := (show Cel W4 b0 37 (acs a) from hC4.out).cell (i := 1) rfl
         have HD := Lib.hid (dq_copy ht4.out hC4.out (.inr rfl) a.n)))
  all_goals
    clear HL HD hed hec ht4 hC4 hC5
    have HT5 := Lib.hid ht5.out.none
    clear ht5
    go_wp2_with fail
    go_ret
    exact ⟨rfl, _, HT5.out⟩

end Nt
end Go.Proofs.Ytkpcfakfkcghdaa
