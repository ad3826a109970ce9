/- A table under any calls answers, call by call, as the document has it: the walk; no condition. -/
import Derived.Test.YtlhcaankfhdakaaLsTake
import Derived.Test.YtlhcaankfhdakaaLlLaw
import Derived.Test.YtlhcaankfhdakaaLlOpen
import Derived.Test.YtlhcaankfhdakaaFloat
namespace Go.Proofs.Ytlhcaankfhdakaa
namespace Ll
open Go.RowKit Bk Ls

attribute [local go_sem ↓] Go.wp_at_zero Go.wp_at_succ
attribute [local go_sem] floatUpon pick

/-- both tables -/
structure T2 (w0 W : World) (b r : Nat) (D E : Tb) : Prop where
  q : ∃ v u, LQ W w0.heap.size b v D ∧ RQ W w0.heap.size r u E
  ok : Ok D
  ok2 : Ok E
  bel : Below w0.heap.size w0 W

/-- blocks of acts stay -/
def ActK (W W' : World) : Prop := ∀ k xs, Cel W k 32 xs → Cel W' k 32 xs

section
variable {w0 W W' : World} {b r : Nat} {D E D' E' : Tb}

theorem ty_ne {k k' : Nat} {c c' : Array Value} {T T' : TypeId} {f f' : Nat × Nat} (h : W.heap[k]? = some (.cells c T f)) (h' : W.heap[k']? = some (.cells c' T' f')) (hne : T ≠ T') : k ≠ k' := fun e => by
  subst e
  rw [h] at h'
  simp only [Option.some.injEq, Obj.cells.injEq] at h'
  exact hne h'.2.1

theorem LQ.ty {base : Nat} {v : Value} (h : LQ W base b v D) {p : Nat} (hp : v.ownBlock = some p) : ∃ c, W.heap[p]? = some (.cells c 58 (0, 0)) := by
  rcases h.row.2 with ⟨e, _⟩ | ⟨q, cap, cur, e, _, e3, _⟩
  · rw [e] at hp; cases hp
  · rw [e] at hp
    obtain rfl : q = p := Option.some.inj hp
    exact ⟨_, e3⟩
theorem _root_.Go.Proofs.Ytlhcaankfhdakaa.Ls.RQ.ty {base : Nat} {v : Value} (h : RQ W base b v D) {p : Nat} (hp : v.ownBlock = some p) : ∃ c, W.heap[p]? = some (.cells c 60 (0, 0)) := by
  rcases h.row.2 with ⟨e, _⟩ | ⟨q, cap, cur, e, _, e3, _⟩
  · rw [e] at hp; cases hp
  · rw [e] at hp
    obtain rfl : q = p := Option.some.inj hp
    exact ⟨_, e3⟩

/-- what a call of the landed table keeps -/
theorem LQ.keeps {base : Nat} {v v' : Value} (h : LQ W base b v D) (hm : LM W W' b v v') {k : Nat} {c : Array Value} {T : TypeId} (hk : W.heap[k]? = some (.cells c T (0, 0))) (h1 : T ≠ 51) (h2 : T ≠ 58) : W'.heap[k]? = W.heap[k]? :=
  hm.block k (Array.getElem?_eq_some_iff.1 hk).1 (ty_ne hk h.cel h1) (fun e => by obtain ⟨c', hc⟩ := h.ty e; exact ty_ne hk hc h2 rfl)
theorem RQ_keeps {base : Nat} {v v' : Value} (h : RQ W base b v D) (hm : RM W W' b v v') {k : Nat} {c : Array Value} {T : TypeId} (hk : W.heap[k]? = some (.cells c T (0, 0))) (h1 : T ≠ 41) (h2 : T ≠ 60) : W'.heap[k]? = W.heap[k]? :=
  hm.block k (Array.getElem?_eq_some_iff.1 hk).1 (ty_ne hk h.cel h1) (fun e => by obtain ⟨c', hc⟩ := h.ty e; exact ty_ne hk hc h2 rfl)

theorem T2.below (h : T2 w0 W b r D E) (hb : Below W.heap.size W W') : T2 w0 W' b r D E := by
  obtain ⟨⟨v, u, h1, h2⟩, h3, h3', h4⟩ := h
  exact ⟨⟨v, u, h1.below hb, h2.below hb⟩, h3, h3', h4.trans (hb.mono h4.size)⟩
theorem actK_below (hb : Below W.heap.size W W') : ActK W W' := fun _ _ h => h.below hb

theorem T2.actL {v u : Value} (h1 : LQ W w0.heap.size b v D) (h2 : RQ W w0.heap.size r u E) (ho' : Ok E) (h4 : Below w0.heap.size w0 W) (ho : Ok D') (hp : LP W w0.heap.size b v D' W') : T2 w0 W' b r D' E ∧ ActK W W' := by
  obtain ⟨v', h5, h6⟩ := hp
  refine ⟨⟨⟨v', u, h5, ⟨(h1.keeps h6 h2.cel (by decide) (by decide)).trans h2.cel, h2.row.same (fun p hp => by obtain ⟨c, hc⟩ := h2.ty hp; exact h1.keeps h6 hc (by decide) (by decide)), h2.far, h2.rb, Nat.le_trans h2.bs h6.size⟩⟩, ho, ho', h4.trans ⟨h6.os, h6.tape, h6.output, h6.size, fun k hk => h6.block k (Nat.lt_of_lt_of_le hk h4.size) (fun e => by have := h1.rb; omega) (fun e => by have := (h1.row.lt e).2; omega)⟩⟩, fun k xs h => (h1.keeps h6 h (by decide) (by decide)).trans h⟩
theorem T2.actR {v u : Value} (h1 : LQ W w0.heap.size b v D) (h2 : RQ W w0.heap.size r u E) (ho : Ok D) (h4 : Below w0.heap.size w0 W) (ho' : Ok E') (hp : RP W w0.heap.size r u E' W') : T2 w0 W' b r D E' ∧ ActK W W' := by
  obtain ⟨v', h5, h6⟩ := hp
  refine ⟨⟨⟨v, v', ⟨(RQ_keeps h2 h6 h1.cel (by decide) (by decide)).trans h1.cel, h1.row.same (fun p hp => by obtain ⟨c, hc⟩ := h1.ty hp; exact RQ_keeps h2 h6 hc (by decide) (by decide)), h1.far, h1.rb, Nat.le_trans h1.bs h6.size⟩, h5⟩, ho, ho', h4.trans ⟨h6.os, h6.tape, h6.output, h6.size, fun k hk => h6.block k (Nat.lt_of_lt_of_le hk h4.size) (fun e => by have := h2.rb; omega) (fun e => by have := (h2.row.lt e).2; omega)⟩⟩, fun k xs h => (RQ_keeps h2 h6 h (by decide) (by decide)).trans h⟩

theorem ttake (h : T2 w0 W b r D E) (hm : D.many ≤ 4611686018427387904) (now ts : Int) : Calls Try.prog 10 #[.pointer (some ⟨b, 0, none⟩), .int .i64 now, .int .i64 ts] W fun e W' => e = .returned (.tuple #[.int .i64 (takeB D now ts).2.1, .int .i64 (takeB D now ts).2.2]) ∧ T2 w0 W' b r (takeB D now ts).1 E ∧ ActK W W' := by
  obtain ⟨⟨v, u, h1, h2⟩, h3, h3', h4⟩ := h
  refine (ltake_any h1 h3 hm now ts).mono ?_
  rintro e W' ⟨rfl, hp⟩
  exact ⟨rfl, T2.actL h1 h2 h3' h4 (h3.take now ts) hp⟩
theorem tkeep (h : T2 w0 W b r D E) (now n : Int) : Calls Try.prog 12 #[.pointer (some ⟨b, 0, none⟩), .int .i64 now, .int .i64 n] W fun e W' => e = .returned (.int .i64 (keepB D now n).2) ∧ T2 w0 W' b r (keepB D now n).1 E ∧ ActK W W' := by
  obtain ⟨⟨v, u, h1, h2⟩, h3, h3', h4⟩ := h
  refine (lkeep_any h1 h3 now n).mono ?_
  rintro e W' ⟨rfl, hp⟩
  exact ⟨rfl, T2.actL h1 h2 h3' h4 (h3.keep now n) hp⟩
theorem tend (h : T2 w0 W b r D E) (n : Int) : Calls Try.prog 14 #[.pointer (some ⟨b, 0, none⟩), .int .i64 n] W fun e W' => e = .returned (.int .i64 (endB D n).2) ∧ T2 w0 W' b r (endB D n).1 E ∧ ActK W W' := by
  obtain ⟨⟨v, u, h1, h2⟩, h3, h3', h4⟩ := h
  refine (lend_any h1 h3 n).mono ?_
  rintro e W' ⟨rfl, hp⟩
  exact ⟨rfl, T2.actL h1 h2 h3' h4 (h3.endd n) hp⟩
theorem tcheck (h : T2 w0 W b r D E) (now n : Int) : Calls Try.prog 16 #[.pointer (some ⟨b, 0, none⟩), .int .i64 now, .int .i64 n] W fun e W' => e = .returned (.tuple #[.int .i64 (checkB D now n).1, .int .i64 (checkB D now n).2]) ∧ T2 w0 W' b r D E ∧ ActK W W' := by
  obtain ⟨v, u, h1, h2⟩ := h.q
  refine (lcheck_any h1 h.ok now n).mono ?_
  rintro e W' ⟨rfl, hb⟩
  exact ⟨rfl, h.below hb, actK_below hb⟩
theorem tlow (h : T2 w0 W b r D E) (now n : Int) : Calls Try.prog 18 #[.pointer (some ⟨b, 0, none⟩), .int .i64 now, .int .i64 n] W fun e W' => e = .returned (.tuple #[.int .i64 (lowB D now n).1, .int .i64 (lowB D now n).2]) ∧ T2 w0 W' b r D E ∧ ActK W W' := by
  obtain ⟨v, u, h1, h2⟩ := h.q
  refine (llow_any h1 h.ok now n).mono ?_
  rintro e W' ⟨rfl, hb⟩
  exact ⟨rfl, h.below hb, actK_below hb⟩

theorem utake (h : T2 w0 W b r D E) (hm : E.many ≤ 4611686018427387904) (now ts : Int) : Calls Try.prog 11 #[.pointer (some ⟨r, 0, none⟩), .int .i64 now, .int .i64 ts] W fun e W' => e = .returned (.tuple #[.int .i64 (takeB E now ts).2.1, .int .i64 (takeB E now ts).2.2]) ∧ T2 w0 W' b r D (takeB E now ts).1 ∧ ActK W W' := by
  obtain ⟨⟨v, u, h1, h2⟩, h3, h3', h4⟩ := h
  refine (rtake_any h2 h3'.len h3'.lo h3'.hi h3'.many hm now ts).mono ?_
  rintro e W' ⟨rfl, hp⟩
  exact ⟨rfl, T2.actR h1 h2 h3 h4 (h3'.take now ts) hp⟩
theorem ukeep (h : T2 w0 W b r D E) (now n : Int) : Calls Try.prog 13 #[.pointer (some ⟨r, 0, none⟩), .int .i64 now, .int .i64 n] W fun e W' => e = .returned (.int .i64 (keepB E now n).2) ∧ T2 w0 W' b r D (keepB E now n).1 ∧ ActK W W' := by
  obtain ⟨⟨v, u, h1, h2⟩, h3, h3', h4⟩ := h
  refine (rkeep_any h2 (by have := h3'.len; omega) h3'.lo h3'.hi now n).mono ?_
  rintro e W' ⟨rfl, hp⟩
  exact ⟨rfl, T2.actR h1 h2 h3 h4 (h3'.keep now n) hp⟩
theorem uend (h : T2 w0 W b r D E) (n : Int) : Calls Try.prog 15 #[.pointer (some ⟨r, 0, none⟩), .int .i64 n] W fun e W' => e = .returned (.int .i64 (endB E n).2) ∧ T2 w0 W' b r D (endB E n).1 ∧ ActK W W' := by
  obtain ⟨⟨v, u, h1, h2⟩, h3, h3', h4⟩ := h
  refine (rend_any h2 (by have := h3'.len; omega) n).mono ?_
  rintro e W' ⟨rfl, hp⟩
  exact ⟨rfl, T2.actR h1 h2 h3 h4 (h3'.endd n) hp⟩
theorem ucheck (h : T2 w0 W b r D E) (now n : Int) : Calls Try.prog 17 #[.pointer (some ⟨r, 0, none⟩), .int .i64 now, .int .i64 n] W fun e W' => e = .returned (.tuple #[.int .i64 (checkB E now n).1, .int .i64 (checkB E now n).2]) ∧ T2 w0 W' b r D E ∧ ActK W W' := by
  obtain ⟨v, u, h1, h2⟩ := h.q
  refine (rcheck_any h2 (by have := h.ok2.len; omega) now n).mono ?_
  rintro e W' ⟨rfl, rfl⟩
  exact ⟨rfl, h, fun _ _ h => h⟩
theorem ulow (h : T2 w0 W b r D E) (now n : Int) : Calls Try.prog 19 #[.pointer (some ⟨r, 0, none⟩), .int .i64 now, .int .i64 n] W fun e W' => e = .returned (.tuple #[.int .i64 (lowB E now n).1, .int .i64 (lowB E now n).2]) ∧ T2 w0 W' b r D E ∧ ActK W W' := by
  obtain ⟨v, u, h1, h2⟩ := h.q
  refine (rlow_any h2 (by have := h.ok2.len; omega) now n).mono ?_
  rintro e W' ⟨rfl, rfl⟩
  exact ⟨rfl, h, fun _ _ h => h⟩
theorem tlen (h : T2 w0 W b r D E) : Calls Try.prog 20 #[.pointer (some ⟨b, 0, none⟩)] W fun e W' => e = .returned (.int .i64 (D.L.length : Int)) ∧ W' = W := by
  obtain ⟨v, u, h1, h2⟩ := h.q
  exact llen_any h1
theorem T2.list (h : T2 w0 W b r D E) : ∃ A c, W.cell? ⟨r, 2, none⟩ = some (.slice A E.L.length c) := by
  obtain ⟨v, u, h1, h2⟩ := h.q
  obtain ⟨A, c, e⟩ := h2.row.form
  exact ⟨A, c, by rw [← e]; exact h2.cel.cell (i := 2) rfl⟩

end

theorem take_many (D : Tb) (now ts : Int) : (takeB D now ts).1.many ≤ D.many + 1 := by
  unfold takeB
  split
  · show D.many ≤ D.many + 1; omega
  · split
    · show D.many ≤ D.many + 1; omega
    · exact Int.le_refl _
theorem keep_many (D : Tb) (now n : Int) : (keepB D now n).1.many = D.many := by
  unfold keepB
  split <;> rfl
theorem end_many (D : Tb) (n : Int) : (endB D n).1.many = D.many := by
  unfold endB
  split <;> rfl

theorem add_fieldP (a : Addr) (n k : Nat) (hk : 0 < k) : (⟨(a.add n).block, (a.add n).off + k, none⟩ : Addr) = a.add (n + k) := by
  unfold Addr.add
  by_cases h : n = 0
  · rw [if_pos h, if_neg (by omega), h, Nat.zero_add]
  · rw [if_neg h, if_neg (by omega)]
    simp only [Nat.add_assoc]

/-- an act of the argument in the memory -/
theorem act_cells {w : World} {A : Option Addr} {L : List ActI} (HA : actsAt w A L) {ad : Addr} (hA : A = some ad) {m : Nat} (hm : m < L.length) {W : World} (hW : Below w.heap.size w W) :
    W.cell? (ad.add (m * 3)) = some (.int .i64 (L.getD m default).k) ∧ W.cell? ⟨(ad.add (m * 3)).block, (ad.add (m * 3)).off + 1, none⟩ = some (.int .i64 (L.getD m default).now) ∧ W.cell? ⟨(ad.add (m * 3)).block, (ad.add (m * 3)).off + 2, none⟩ = some (.int .i64 (L.getD m default).n) := by
  obtain ⟨ad', e1, _, hc⟩ := (HA.below hW) (by omega)
  rw [hA] at e1
  obtain rfl := Option.some.inj e1
  obtain ⟨x0, x1, x2⟩ := hc m hm
  have e2 : L.getD m default = L[m] := by rw [List.getD_eq_getElem?_getD, List.getElem?_eq_getElem hm]; rfl
  rw [e2, add_fieldP _ _ _ (by omega), add_fieldP _ _ _ (by omega)]
  exact ⟨x0, x1, x2⟩

set_option maxRecDepth 20000 in
set_option maxHeartbeats 32000000 in
theorem plays_walk (long : Int) (v : Value) (L : List ActI) (w : World) (hv : actsOf w v L) : Calls Try.prog 3 #[.int .i64 long, v] w fun e w' => e = .returned (.bool true) ∧ Below w.heap.size w w' := by
  obtain ⟨A, c, rfl, hA, hL16, _⟩ := hv
  have hL63 : (L.length : Int) ≤ 9223372036854775806 := by unfold reachBytes at hL16; omega
  have HAt := Lib.hid hA
  have HNew := Lib.hid (lnew_any long w)
  have HNew2 := Lib.hid (fun V => rnew_any long V)
  have HW := Lib.hid (fun V => works_any V)
  clear hA hL16
  by_cases hlong : 0 ≤ long ∧ long ≤ 1048576
  · unfold LNewP NewP at *
    simp only [if_pos hlong] at HNew HNew2
    go_enter Try.func3, Try.ntmps3
    go_wp2_with fail
    refine HNew.out.mono ?_
    rintro e w1 ⟨b, rfl, hq1, hb1⟩
    have HQ1 := Lib.hid hq1
    have HB1 := Lib.hid hb1
    clear hq1 hb1 HNew
    go_wp2_with fail
    refine (HNew2.out _).mono ?_
    rintro e w2 ⟨r, rfl, hq2, hb2⟩
    have h2 : T2 w w2 b r ⟨long, 0, []⟩ ⟨long, 0, []⟩ := by
      have hq3 := HQ1.out.below hb2
      have h1s := HB1.out.size
      have h2s := hb2.size
      exact ⟨⟨_, _, ⟨hq3.cel, hq3.row, hq3.far, hq3.rb, Nat.le_trans h1s h2s⟩, ⟨hq2.cel, hq2.row.mono h1s, hq2.far, Nat.le_trans h1s hq2.rb, Nat.le_trans h1s hq2.bs⟩⟩, Ok.new hlong, Ok.new hlong, HB1.out.trans (hb2.mono h1s)⟩
    have H2 := Lib.hid h2
    clear h2 hq2 hb2 HQ1 HB1 HNew2
    go_wp2_with fail
    refine (HW.out _).mono ?_
    rintro e w3 ⟨rfl, hb3⟩
    have H3 := Lib.hid (H2.out.below hb3)
    clear hb3 HW H2
    go_wp2_with fail
    go_loopw [9] (fun i wr => ∃ (j : Nat) (D : Tb), j ≤ L.length ∧ j ≤ 100 ∧ i = .int .i64 (j : Int) ∧ D.many ≤ (j : Int) ∧ Hid (T2 w wr b r D D)) (fun i _ => 100 - (intOf i).toNat)
    case atStart => exact ⟨0, _, by omega, by omega, rfl, Int.le_refl _, H3⟩
    case round =>
      obtain ⟨j, D, hj, hj1, rfl, hmD, ht⟩ := hrel
      clear H3
      by_cases hlt : j < L.length
      · have r1 : (j : Int) < (L.length : Int) := by omega
        by_cases hl1 : j < 100
        · have r2 : (j : Int) < 100 := by omega
          have hA0 : ∃ ad, A = some ad := by obtain ⟨ad, h1, _⟩ := HAt.out (by omega); exact ⟨ad, h1⟩
          obtain ⟨ad, rfl⟩ := hA0
          obtain ⟨x0, x1, x2⟩ := act_cells HAt.out rfl hlt ht.out.bel
          generalize L.getD j default = X at x0 x1 x2
          have hR0 : Cel (wr.alloc (.cells #[.int .i64 X.k, .int .i64 X.now, .int .i64 X.n] 32)) wr.heap.size 32 [.int .i64 X.k, .int .i64 X.now, .int .i64 X.n] := (blk1 wr _).2
          have hB0 : Below wr.heap.size wr (wr.alloc (.cells #[.int .i64 X.k, .int .i64 X.now, .int .i64 X.n] 32)) := (Below.refl _ wr).alloc (Nat.le_refl _) _
          have H4 := Lib.hid (ht.out.below hB0)
          have HR0 := Lib.hid hR0
          have hm2 : D.many ≤ 4611686018427387904 := by omega
          have hka := amongV_lt X.k 5 (by omega)
          have HA := Lib.hid (fun V => among_any X.k 5 V (by omega) (by omega))
          clear ht hlt hl1
          go_upto_region 11 with fail
          generalize hG : wr.heap.size = xb at *
          generalize wr.alloc (.cells #[.int .i64 X.k, .int .i64 X.now, .int .i64 X.n] 32) = W1 at *
          clear hR0 hB0 x0 x1 x2 hG
          -- ways
          have k0 := HR0.out.cell (i := 0) rfl
          go_wp2_with fail
          refine (HA.out _).mono ?_
          rintro e w5 ⟨rfl, e2⟩
          subst e2
          have k1 := HR0.out.cell (i := 1) rfl
          have k2 := HR0.out.cell (i := 2) rfl
          have h5 : amongV X.k 5 = 0 ∨ amongV X.k 5 = 1 ∨ amongV X.k 5 = 2 ∨ amongV X.k 5 = 3 ∨ amongV X.k 5 = 4 := by omega
          generalize amongV X.k 5 = kk at h5 ⊢
          clear HA hka
          rcases h5 with rfl | rfl | rfl | rfl | rfl
          · have HT := Lib.hid (ttake H4.out hm2 X.now X.n)
            have HM : Hid ((takeB D X.now X.n).1.many ≤ (j : Int) + 1) := Lib.hid (by have := take_many D X.now X.n; omega)
            clear H4
            go_wp2_with fail
            refine HT.out.mono ?_
            rintro e w6 ⟨rfl, h6, hk6⟩
            have HR6 := Lib.hid (hk6 _ _ HR0.out)
            have HU := Lib.hid (utake h6 hm2 X.now X.n)
            have k1 := HR6.out.cell (i := 1) rfl
            have k2 := HR6.out.cell (i := 2) rfl
            generalize (takeB D X.now X.n) = Z at HU HM ⊢
            obtain ⟨D1, N1, E1⟩ := Z
            simp only at HU HM ⊢
            clear h6 hk6 HT k0
            go_wp2_with fail
            refine HU.out.mono ?_
            rintro e w7 ⟨rfl, h7, hk7⟩
            have H7 := Lib.hid h7
            clear h7 hk7 HU k1 k2
            go_upto_region 26 with fail
            obtain ⟨A9, c9, hl9⟩ := H7.out.list
            have HW9 := Lib.hid hl9
            clear hl9
            refine wp_region_said 18 [144, 145, 146, 147, 148, 149, 150, 151, 152, 153, 154, 155, 156, 157, 158, 159, 160, 161]
              [.is (.int .i64 N1), .is (.int .i64 N1), .is (.bool false), .is (.bool false), .is (.int .i64 E1), .is (.int .i64 E1), .is (.bool false), .is (.bool false), .is (.bool false), .is (.pointer (some ⟨b, 0, none⟩)), .is (.int .i64 (D1.L.length : Int)), .is (.pointer (some ⟨r, 0, none⟩)), .is (.pointer (some ⟨r, 0, none⟩)), .is (.pointer (some ⟨r, 2, none⟩)), .is (.slice A9 D1.L.length c9), .is (.int .i64 (D1.L.length : Int)), .is (.bool false), .is (.bool false)]
              (fun V => Below w7.heap.size w7 V) (by kernel_rfl) (by kernel_rfl) (by kernel_rfl) (by kernel_rfl) (by kernel_rfl) (fun W W' h hb => h.trans (hb.mono h.size)) (Below.refl _ _) ?steps ?last
            case steps =>
              simp only [List.take_succ_cons, List.take_zero]
              refine ⟨?_, ?_, ?_, ?_, ?_, ?_, ?_, ?_, ?_, ?_, ?_, ?_, ?_, ?_, ?_, ?_, ?_, ?_, trivial⟩
              all_goals
                intro vs V ρ hρ hc hf hg hI hH hd R' hR
                have k0 := (cell_kept hI ⟨r, 2, none⟩ (World.block_lt_of_cell? w7 _ HW9.out)).trans HW9.out
                have HLn := Lib.hid (tlen (H7.out.below hI))
                have HR := Lib.hid hR
                simp [depsOf, Region.binds, sayAt, Say.holds] at hd
                clear hR hI
                try simp only [Region.wanted, hd, boolOf]
                go_simp
                first
                  | exact HR.out _ _ (by simp [sayAt, Say.holds]) (Below.refl _ _) (by simp [sayAt, Say.isBlk])
                  | (refine HLn.out.mono ?_
                     rintro e W' ⟨rfl, rfl⟩
                     exact ⟨_, rfl, HR.out _ _ (by simp [sayAt, Say.holds]) (Below.refl _ _) (by simp [sayAt, Say.isBlk])⟩)
                  | trace_state
            case last =>
              intro vs V hI hb hg hd
              have g17 := hg 17 (by omega)
              simp only [sayAt, Say.holds, List.getD_cons_succ, List.getD_cons_zero] at g17
              simp only [List.take_succ_cons, List.take_zero, List.drop_succ_cons, List.drop_zero, putAll, Act.put, List.setIfInBounds_toArray, List.set_cons_succ, List.set_cons_zero, Nat.zero_add, Nat.reduceAdd]
              rw [g17]
              have HI := Lib.hid (H7.out.below hI)
              clear hg hd hI hb g17
              go_wp2_with fail
              go_roundw
              case rel => exact ⟨j + 1, D1, by omega, by omega, by go_num, by have := HM.out; omega, HI⟩
              case measure => simp [intOf]; omega
          · have HT := Lib.hid (tkeep H4.out X.now X.n)
            have HM : Hid ((keepB D X.now X.n).1.many ≤ (j : Int) + 1) := Lib.hid (by have := keep_many D X.now X.n; omega)
            clear H4
            go_wp2_with fail
            refine HT.out.mono ?_
            rintro e w6 ⟨rfl, h6, hk6⟩
            have HR6 := Lib.hid (hk6 _ _ HR0.out)
            have HU := Lib.hid (ukeep h6 X.now X.n)
            have k1 := HR6.out.cell (i := 1) rfl
            have k2 := HR6.out.cell (i := 2) rfl
            generalize (keepB D X.now X.n) = Z at HU HM ⊢
            obtain ⟨D1, E1⟩ := Z
            simp only at HU HM ⊢
            clear h6 hk6 HT k0
            go_wp2_with fail
            refine HU.out.mono ?_
            rintro e w7 ⟨rfl, h7, hk7⟩
            have H7 := Lib.hid h7
            clear h7 hk7 HU k1 k2
            go_upto_region 26 with fail
            obtain ⟨A9, c9, hl9⟩ := H7.out.list
            have HW9 := Lib.hid hl9
            clear hl9
            refine wp_region_said 18 [144, 145, 146, 147, 148, 149, 150, 151, 152, 153, 154, 155, 156, 157, 158, 159, 160, 161]
              [.is (.int .i64 0), .is (.int .i64 0), .is (.bool false), .is (.bool false), .is (.int .i64 E1), .is (.int .i64 E1), .is (.bool false), .is (.bool false), .is (.bool false), .is (.pointer (some ⟨b, 0, none⟩)), .is (.int .i64 (D1.L.length : Int)), .is (.pointer (some ⟨r, 0, none⟩)), .is (.pointer (some ⟨r, 0, none⟩)), .is (.pointer (some ⟨r, 2, none⟩)), .is (.slice A9 D1.L.length c9), .is (.int .i64 (D1.L.length : Int)), .is (.bool false), .is (.bool false)]
              (fun V => Below w7.heap.size w7 V) (by kernel_rfl) (by kernel_rfl) (by kernel_rfl) (by kernel_rfl) (by kernel_rfl) (fun W W' h hb => h.trans (hb.mono h.size)) (Below.refl _ _) ?steps ?last
            case steps =>
              simp only [List.take_succ_cons, List.take_zero]
              refine ⟨?_, ?_, ?_, ?_, ?_, ?_, ?_, ?_, ?_, ?_, ?_, ?_, ?_, ?_, ?_, ?_, ?_, ?_, trivial⟩
              all_goals
                intro vs V ρ hρ hc hf hg hI hH hd R' hR
                have k0 := (cell_kept hI ⟨r, 2, none⟩ (World.block_lt_of_cell? w7 _ HW9.out)).trans HW9.out
                have HLn := Lib.hid (tlen (H7.out.below hI))
                have HR := Lib.hid hR
                simp [depsOf, Region.binds, sayAt, Say.holds] at hd
                clear hR hI
                try simp only [Region.wanted, hd, boolOf]
                go_simp
                first
                  | exact HR.out _ _ (by simp [sayAt, Say.holds]) (Below.refl _ _) (by simp [sayAt, Say.isBlk])
                  | (refine HLn.out.mono ?_
                     rintro e W' ⟨rfl, rfl⟩
                     exact ⟨_, rfl, HR.out _ _ (by simp [sayAt, Say.holds]) (Below.refl _ _) (by simp [sayAt, Say.isBlk])⟩)
                  | trace_state
            case last =>
              intro vs V hI hb hg hd
              have g17 := hg 17 (by omega)
              simp only [sayAt, Say.holds, List.getD_cons_succ, List.getD_cons_zero] at g17
              simp only [List.take_succ_cons, List.take_zero, List.drop_succ_cons, List.drop_zero, putAll, Act.put, List.setIfInBounds_toArray, List.set_cons_succ, List.set_cons_zero, Nat.zero_add, Nat.reduceAdd]
              rw [g17]
              have HI := Lib.hid (H7.out.below hI)
              clear hg hd hI hb g17
              go_wp2_with fail
              go_roundw
              case rel => exact ⟨j + 1, D1, by omega, by omega, by go_num, by have := HM.out; omega, HI⟩
              case measure => simp [intOf]; omega
          · have HT := Lib.hid (tend H4.out X.n)
            have HM : Hid ((endB D X.n).1.many ≤ (j : Int) + 1) := Lib.hid (by have := end_many D X.n; omega)
            clear H4
            go_wp2_with fail
            refine HT.out.mono ?_
            rintro e w6 ⟨rfl, h6, hk6⟩
            have HR6 := Lib.hid (hk6 _ _ HR0.out)
            have HU := Lib.hid (uend h6 X.n)
            have k1 := HR6.out.cell (i := 1) rfl
            have k2 := HR6.out.cell (i := 2) rfl
            generalize (endB D X.n) = Z at HU HM ⊢
            obtain ⟨D1, E1⟩ := Z
            simp only at HU HM ⊢
            clear h6 hk6 HT k0
            go_wp2_with fail
            refine HU.out.mono ?_
            rintro e w7 ⟨rfl, h7, hk7⟩
            have H7 := Lib.hid h7
            clear h7 hk7 HU k1 k2
            go_upto_region 26 with fail
            obtain ⟨A9, c9, hl9⟩ := H7.out.list
            have HW9 := Lib.hid hl9
            clear hl9
            refine wp_region_said 18 [144, 145, 146, 147, 148, 149, 150, 151, 152, 153, 154, 155, 156, 157, 158, 159, 160, 161]
              [.is (.int .i64 0), .is (.int .i64 0), .is (.bool false), .is (.bool false), .is (.int .i64 E1), .is (.int .i64 E1), .is (.bool false), .is (.bool false), .is (.bool false), .is (.pointer (some ⟨b, 0, none⟩)), .is (.int .i64 (D1.L.length : Int)), .is (.pointer (some ⟨r, 0, none⟩)), .is (.pointer (some ⟨r, 0, none⟩)), .is (.pointer (some ⟨r, 2, none⟩)), .is (.slice A9 D1.L.length c9), .is (.int .i64 (D1.L.length : Int)), .is (.bool false), .is (.bool false)]
              (fun V => Below w7.heap.size w7 V) (by kernel_rfl) (by kernel_rfl) (by kernel_rfl) (by kernel_rfl) (by kernel_rfl) (fun W W' h hb => h.trans (hb.mono h.size)) (Below.refl _ _) ?steps ?last
            case steps =>
              simp only [List.take_succ_cons, List.take_zero]
              refine ⟨?_, ?_, ?_, ?_, ?_, ?_, ?_, ?_, ?_, ?_, ?_, ?_, ?_, ?_, ?_, ?_, ?_, ?_, trivial⟩
              all_goals
                intro vs V ρ hρ hc hf hg hI hH hd R' hR
                have k0 := (cell_kept hI ⟨r, 2, none⟩ (World.block_lt_of_cell? w7 _ HW9.out)).trans HW9.out
                have HLn := Lib.hid (tlen (H7.out.below hI))
                have HR := Lib.hid hR
                simp [depsOf, Region.binds, sayAt, Say.holds] at hd
                clear hR hI
                try simp only [Region.wanted, hd, boolOf]
                go_simp
                first
                  | exact HR.out _ _ (by simp [sayAt, Say.holds]) (Below.refl _ _) (by simp [sayAt, Say.isBlk])
                  | (refine HLn.out.mono ?_
                     rintro e W' ⟨rfl, rfl⟩
                     exact ⟨_, rfl, HR.out _ _ (by simp [sayAt, Say.holds]) (Below.refl _ _) (by simp [sayAt, Say.isBlk])⟩)
                  | trace_state
            case last =>
              intro vs V hI hb hg hd
              have g17 := hg 17 (by omega)
              simp only [sayAt, Say.holds, List.getD_cons_succ, List.getD_cons_zero] at g17
              simp only [List.take_succ_cons, List.take_zero, List.drop_succ_cons, List.drop_zero, putAll, Act.put, List.setIfInBounds_toArray, List.set_cons_succ, List.set_cons_zero, Nat.zero_add, Nat.reduceAdd]
              rw [g17]
              have HI := Lib.hid (H7.out.below hI)
              clear hg hd hI hb g17
              go_wp2_with fail
              go_roundw
              case rel => exact ⟨j + 1, D1, by omega, by omega, by go_num, by have := HM.out; omega, HI⟩
              case measure => simp [intOf]; omega
          · have HT := Lib.hid (tcheck H4.out X.now X.n)
            have HM : Hid ((checkB D X.now X.n) = (checkB D X.now X.n) ∧ D.many ≤ (j : Int) + 1) := Lib.hid (⟨rfl, by omega⟩)
            clear H4
            go_wp2_with fail
            refine HT.out.mono ?_
            rintro e w6 ⟨rfl, h6, hk6⟩
            have HR6 := Lib.hid (hk6 _ _ HR0.out)
            have HU := Lib.hid (ucheck h6 X.now X.n)
            have k1 := HR6.out.cell (i := 1) rfl
            have k2 := HR6.out.cell (i := 2) rfl
            generalize (checkB D X.now X.n) = Z at HU HM ⊢
            obtain ⟨N1, E1⟩ := Z
            simp only at HU HM ⊢
            clear h6 hk6 HT k0
            go_wp2_with fail
            refine HU.out.mono ?_
            rintro e w7 ⟨rfl, h7, hk7⟩
            have H7 := Lib.hid h7
            clear h7 hk7 HU k1 k2
            go_upto_region 26 with fail
            obtain ⟨A9, c9, hl9⟩ := H7.out.list
            have HW9 := Lib.hid hl9
            clear hl9
            refine wp_region_said 18 [144, 145, 146, 147, 148, 149, 150, 151, 152, 153, 154, 155, 156, 157, 158, 159, 160, 161]
              [.is (.int .i64 N1), .is (.int .i64 N1), .is (.bool false), .is (.bool false), .is (.int .i64 E1), .is (.int .i64 E1), .is (.bool false), .is (.bool false), .is (.bool false), .is (.pointer (some ⟨b, 0, none⟩)), .is (.int .i64 (D.L.length : Int)), .is (.pointer (some ⟨r, 0, none⟩)), .is (.pointer (some ⟨r, 0, none⟩)), .is (.pointer (some ⟨r, 2, none⟩)), .is (.slice A9 D.L.length c9), .is (.int .i64 (D.L.length : Int)), .is (.bool false), .is (.bool false)]
              (fun V => Below w7.heap.size w7 V) (by kernel_rfl) (by kernel_rfl) (by kernel_rfl) (by kernel_rfl) (by kernel_rfl) (fun W W' h hb => h.trans (hb.mono h.size)) (Below.refl _ _) ?steps ?last
            case steps =>
              simp only [List.take_succ_cons, List.take_zero]
              refine ⟨?_, ?_, ?_, ?_, ?_, ?_, ?_, ?_, ?_, ?_, ?_, ?_, ?_, ?_, ?_, ?_, ?_, ?_, trivial⟩
              all_goals
                intro vs V ρ hρ hc hf hg hI hH hd R' hR
                have k0 := (cell_kept hI ⟨r, 2, none⟩ (World.block_lt_of_cell? w7 _ HW9.out)).trans HW9.out
                have HLn := Lib.hid (tlen (H7.out.below hI))
                have HR := Lib.hid hR
                simp [depsOf, Region.binds, sayAt, Say.holds] at hd
                clear hR hI
                try simp only [Region.wanted, hd, boolOf]
                go_simp
                first
                  | exact HR.out _ _ (by simp [sayAt, Say.holds]) (Below.refl _ _) (by simp [sayAt, Say.isBlk])
                  | (refine HLn.out.mono ?_
                     rintro e W' ⟨rfl, rfl⟩
                     exact ⟨_, rfl, HR.out _ _ (by simp [sayAt, Say.holds]) (Below.refl _ _) (by simp [sayAt, Say.isBlk])⟩)
                  | trace_state
            case last =>
              intro vs V hI hb hg hd
              have g17 := hg 17 (by omega)
              simp only [sayAt, Say.holds, List.getD_cons_succ, List.getD_cons_zero] at g17
              simp only [List.take_succ_cons, List.take_zero, List.drop_succ_cons, List.drop_zero, putAll, Act.put, List.setIfInBounds_toArray, List.set_cons_succ, List.set_cons_zero, Nat.zero_add, Nat.reduceAdd]
              rw [g17]
              have HI := Lib.hid (H7.out.below hI)
              clear hg hd hI hb g17
              go_wp2_with fail
              go_roundw
              case rel => exact ⟨j + 1, D, by omega, by omega, by go_num, by have := HM.out; omega, HI⟩
              case measure => simp [intOf]; omega
          · have HT := Lib.hid (tlow H4.out X.now X.n)
            have HM : Hid ((lowB D X.now X.n) = (lowB D X.now X.n) ∧ D.many ≤ (j : Int) + 1) := Lib.hid (⟨rfl, by omega⟩)
            clear H4
            go_wp2_with fail
            refine HT.out.mono ?_
            rintro e w6 ⟨rfl, h6, hk6⟩
            have HR6 := Lib.hid (hk6 _ _ HR0.out)
            have HU := Lib.hid (ulow h6 X.now X.n)
            have k1 := HR6.out.cell (i := 1) rfl
            have k2 := HR6.out.cell (i := 2) rfl
            generalize (lowB D X.now X.n) = Z at HU HM ⊢
            obtain ⟨N1, E1⟩ := Z
            simp only at HU HM ⊢
            clear h6 hk6 HT k0
            go_wp2_with fail
            refine HU.out.mono ?_
            rintro e w7 ⟨rfl, h7, hk7⟩
            have H7 := Lib.hid h7
            clear h7 hk7 HU k1 k2
            go_upto_region 26 with fail
            obtain ⟨A9, c9, hl9⟩ := H7.out.list
            have HW9 := Lib.hid hl9
            clear hl9
            refine wp_region_said 18 [144, 145, 146, 147, 148, 149, 150, 151, 152, 153, 154, 155, 156, 157, 158, 159, 160, 161]
              [.is (.int .i64 N1), .is (.int .i64 N1), .is (.bool false), .is (.bool false), .is (.int .i64 E1), .is (.int .i64 E1), .is (.bool false), .is (.bool false), .is (.bool false), .is (.pointer (some ⟨b, 0, none⟩)), .is (.int .i64 (D.L.length : Int)), .is (.pointer (some ⟨r, 0, none⟩)), .is (.pointer (some ⟨r, 0, none⟩)), .is (.pointer (some ⟨r, 2, none⟩)), .is (.slice A9 D.L.length c9), .is (.int .i64 (D.L.length : Int)), .is (.bool false), .is (.bool false)]
              (fun V => Below w7.heap.size w7 V) (by kernel_rfl) (by kernel_rfl) (by kernel_rfl) (by kernel_rfl) (by kernel_rfl) (fun W W' h hb => h.trans (hb.mono h.size)) (Below.refl _ _) ?steps ?last
            case steps =>
              simp only [List.take_succ_cons, List.take_zero]
              refine ⟨?_, ?_, ?_, ?_, ?_, ?_, ?_, ?_, ?_, ?_, ?_, ?_, ?_, ?_, ?_, ?_, ?_, ?_, trivial⟩
              all_goals
                intro vs V ρ hρ hc hf hg hI hH hd R' hR
                have k0 := (cell_kept hI ⟨r, 2, none⟩ (World.block_lt_of_cell? w7 _ HW9.out)).trans HW9.out
                have HLn := Lib.hid (tlen (H7.out.below hI))
                have HR := Lib.hid hR
                simp [depsOf, Region.binds, sayAt, Say.holds] at hd
                clear hR hI
                try simp only [Region.wanted, hd, boolOf]
                go_simp
                first
                  | exact HR.out _ _ (by simp [sayAt, Say.holds]) (Below.refl _ _) (by simp [sayAt, Say.isBlk])
                  | (refine HLn.out.mono ?_
                     rintro e W' ⟨rfl, rfl⟩
                     exact ⟨_, rfl, HR.out _ _ (by simp [sayAt, Say.holds]) (Below.refl _ _) (by simp [sayAt, Say.isBlk])⟩)
                  | trace_state
            case last =>
              intro vs V hI hb hg hd
              have g17 := hg 17 (by omega)
              simp only [sayAt, Say.holds, List.getD_cons_succ, List.getD_cons_zero] at g17
              simp only [List.take_succ_cons, List.take_zero, List.drop_succ_cons, List.drop_zero, putAll, Act.put, List.setIfInBounds_toArray, List.set_cons_succ, List.set_cons_zero, Nat.zero_add, Nat.reduceAdd]
              rw [g17]
              have HI := Lib.hid (H7.out.below hI)
              clear hg hd hI hb g17
              go_wp2_with fail
              go_roundw
              case rel => exact ⟨j + 1, D, by omega, by omega, by go_num, by have := HM.out; omega, HI⟩
              case measure => simp [intOf]; omega
        · obtain rfl : j = 100 := by omega
          have HB := Lib.hid ht.out.bel
          clear ht hlt hl1
          go_wp2_with fail
          go_ret
          exact ⟨rfl, HB.out⟩
      · have r1 : (L.length : Int) ≤ (j : Int) := by omega
        have HB := Lib.hid ht.out.bel
        clear ht hlt
        go_wp2_with fail
        go_ret
        exact ⟨rfl, HB.out⟩
  · unfold LNewP NewP at *
    simp only [if_neg hlong] at HNew HNew2
    clear hlong
    go_enter Try.func3, Try.ntmps3
    go_wp2_with fail
    refine HNew.out.mono ?_
    rintro e w1 ⟨rfl, hb1⟩
    have HB1 := Lib.hid hb1
    clear hb1 HNew
    go_wp2_with fail
    refine (HNew2.out _).mono ?_
    rintro e w2 ⟨rfl, hb2⟩
    have HB2 := Lib.hid (HB1.out.trans (hb2.mono HB1.out.size))
    clear hb2 HB1 HNew2
    go_wp2_with fail
    refine (HW.out _).mono ?_
    rintro e w3 ⟨rfl, hb3⟩
    have HB3 := Lib.hid (HB2.out.trans (hb3.mono HB2.out.size))
    clear hb3 HW HB2
    go_wp2_with fail
    go_loopw [9] (fun i wr => i = .int .i64 0 ∧ wr = w3) (fun _ _ => 0)
    case atStart => exact ⟨rfl, rfl⟩
    case round =>
      obtain ⟨rfl, rfl⟩ := hrel
      go_wp2_with fail
      go_ret
      exact ⟨rfl, HB3.out⟩

end Ll
end Go.Proofs.Ytlhcaankfhdakaa
