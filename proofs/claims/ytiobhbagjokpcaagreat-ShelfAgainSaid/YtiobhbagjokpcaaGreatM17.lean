/- Parts of the proof, joined: LtCopy, RcBook, RcLaw, RcBackW; their conditions stand with each. -/
import Derived.Test.YtiobhbagjokpcaaGreatM11
import Derived.Test.YtiobhbagjokpcaaGreatM12
import Derived.Test.YtiobhbagjokpcaaGreatM16

/- What the copy of a letter is; contract; no condition but the range. -/
namespace Go.Proofs.YtiobhbagjokpcaaGreat
namespace Lt
open Go.RowKit Bk

attribute [local go_sem ↓] Go.wp_at_zero Go.wp_at_succ
attribute [local go_sem] floatUpon pick

/-- append of a row that may be nil onto an owned row, three cells each -/
theorem run_append_opt3 {P : Program} (w : World) (base : Nat) (t ty e : TypeId) (i : TypeInfo) (z : Value) (bytes : Nat) (ht : P.underlying t = some (.slice e)) (hi : P.info? e = some i) (hz : i.zero = some z)
    (hsize : i.size = 3) (hby : i.bytes = bytes) (hzs : z.cells.size = 3) (v : Value) (n : Nat) (xs : List Value) (hown : w.ownsRow base e 3 v n xs)
    (A : Option Addr) (m c : Nat) (news : List Value) (hl : news.length = m * 3) (hA : A = none → m = 0 ∧ c = 0) (hnews : ∀ ad, A = some ad → ∀ j u, news[j]? = some u → w.cell? (ad.add j) = some u) (h1 : ∀ u ∈ news, u.oneCell' = true)
    (h63 : n + m ≤ maxLen) (hbytes : (n + m) * bytes ≤ 140737488355328) (hbase : base ≤ w.heap.size) :
    ∃ v' w', (Builtin.append_ #[t, t] ty #[v, .slice A m c]).run P w = .ok v' w' ∧ w'.ownsRow base e 3 v' (n + m) (xs ++ news) ∧ w.grownBy w' v.ownBlock ∧ (v'.ownBlock = v.ownBlock ∨ v'.ownBlock = some w.heap.size) := by
  cases A with
  | none =>
    obtain ⟨rfl, rfl⟩ := hA rfl
    obtain rfl : news = [] := List.eq_nil_of_length_eq_zero (by omega)
    exact ⟨v, w, run_append_owned_none (P := P) w base t ty e i 3 ht hi _ _ _ hown, by rw [List.append_nil]; exact hown, ⟨rfl, rfl, rfl, Nat.le_refl _, fun _ _ _ => rfl⟩, .inl rfl⟩
  | some ad =>
    obtain ⟨v', w', hr, h2, h3, _, h5⟩ := run_append_own_at (P := P) w base t ty e i z 3 bytes ht hi hz hsize hby hzs (by omega) v n xs hown ad m c news hl (hnews ad rfl) h1 h63 hbytes hbase
    exact ⟨v', w', hr, h2, h3, h5⟩

theorem wpList_append_opt3 {P : Program} {w : World} {ops : Array Oper} {rest : List Oper} {o : Oper} {a : Act} {Q : Exit → Act → World → Prop} (hgd : o.guard = none) (s x : Operand) (t : TypeId)
    (ho : o.op = .call { callee := .builtin .append, args := #[s, x], argTypes := #[t, t] })
    (base : Nat) (e : TypeId) (i : TypeInfo) (z : Value) (bytes : Nat) (ht : P.underlying t = some (.slice e)) (hi : P.info? e = some i) (hz : i.zero = some z)
    (hsize : i.size = 3) (hby : i.bytes = bytes) (hzs : z.cells.size = 3) (v : Value) (n : Nat) (xs : List Value) (hs : a.eval s = v) (hown : w.ownsRow base e 3 v n xs)
    (A : Option Addr) (m c : Nat) (news : List Value) (hx : a.eval x = .slice A m c) (hl : news.length = m * 3) (hA : A = none → m = 0 ∧ c = 0) (hnews : ∀ ad, A = some ad → ∀ j u, news[j]? = some u → w.cell? (ad.add j) = some u) (h1 : ∀ u ∈ news, u.oneCell' = true)
    (h63 : n + m ≤ maxLen) (hbytes : (n + m) * bytes ≤ 140737488355328) (hbase : base ≤ w.heap.size)
    (h : ∀ v' w', w'.ownsRow base e 3 v' (n + m) (xs ++ news) → w.grownBy w' v.ownBlock → (v'.ownBlock = v.ownBlock ∨ v'.ownBlock = some w.heap.size) → wpList P ops Q rest (a.put o.dst v') w') :
    wpList P ops Q (o :: rest) a w := by
  refine wpList_plain hgd fun K hK => ?_
  obtain ⟨v', w', hr, h2, h3, h5⟩ := run_append_opt3 (P := P) w base t o.type e i z bytes ht hi hz hsize hby hzs v n xs hown A m c news hl hA hnews h1 h63 hbytes hbase
  unfold Oper.wp execOp
  simp only [ho, resolve, invoke, builtin, Sem.run_bind, Sem.run_pure, Result.andThen_ok, List.map_toArray, List.map_cons, List.map_nil, hs, hx, hr]
  exact hK _ _ (h v' w' h2 h3 h5)

theorem WrsAt.news {w : World} {ad : Addr} {l : List Wr} (h : WrsAt w (some ad) l) : ∀ j u, (wrV l)[j]? = some u → w.cell? (ad.add j) = some u := fun j u hu => by
  have hj : j < l.length * 3 := by
    have := (List.getElem?_eq_some_iff.1 hu).1
    rwa [wrV_len] at this
  obtain ⟨a', e, _, h3⟩ := h (by omega)
  obtain rfl := Option.some.inj e
  obtain ⟨y0, y1, y2⟩ := wrV_at l (j / 3) (by omega)
  obtain ⟨x0, x1, x2⟩ := h3 (j / 3) (by omega)
  have hc : j % 3 = 0 ∨ j % 3 = 1 ∨ j % 3 = 2 := by omega
  rcases hc with r | r | r
  · have ej : j = j / 3 * 3 := by omega
    rw [← ej] at y0 x0
    rw [y0] at hu; rw [x0]; exact hu
  · have ej : j = j / 3 * 3 + 1 := by omega
    rw [← ej] at y1 x1
    rw [y1] at hu; rw [x1]; exact hu
  · have ej : j = j / 3 * 3 + 2 := by omega
    rw [← ej] at y2 x2
    rw [y2] at hu; rw [x2]; exact hu

theorem wrV_one (l : List Wr) : ∀ u ∈ wrV l, u.oneCell' = true := fun u hu => by
  obtain ⟨x, _, hx⟩ := List.mem_flatMap.1 hu
  simp only [List.mem_cons, List.not_mem_nil, or_false] at hx
  rcases hx with rfl | rfl | rfl <;> rfl

theorem own_wrs {w : World} {H c : Nat} {A : Option Addr} {e : TypeId} {l : List Wr} (h : w.ownsRow H e 3 (.slice A l.length c) l.length (wrV l)) : WrsAt w A l ∧ l.length ≤ c ∧ c ≤ maxLen ∧ (A = none → l = [] ∧ c = 0) := by
  obtain ⟨A', c', e1, h1, h2, h3, h4⟩ := wrs_own h rfl
  simp only [Value.slice.injEq] at e1
  obtain ⟨rfl, _, rfl⟩ := e1
  exact ⟨h1, h2, h3, fun e => ⟨List.eq_nil_of_length_eq_zero (by have := h4 e; omega), h4 e⟩⟩

theorem own_strs {w : World} {H c : Nat} {A : Option Addr} {e : TypeId} {l : List ByteArray} (h : w.ownsRow H e 1 (.slice A l.length c) l.length (strV l)) : StrsAt w A l ∧ l.length ≤ c ∧ c ≤ maxLen ∧ (A = none → l = [] ∧ c = 0) := by
  obtain ⟨A', c', hv, hs⟩ := strs_of_own2 h rfl
  simp only [Value.slice.injEq] at hv
  obtain ⟨rfl, _, rfl⟩ := hv
  rcases h.2 with ⟨h1, h2⟩ | ⟨g, cap, cur, h1, _, _, h3, h4, _⟩
  · simp only [Value.slice.injEq] at h1
    obtain ⟨rfl, hl, rfl⟩ := h1
    exact ⟨hs, by omega, Nat.zero_le _, fun _ => ⟨List.eq_nil_of_length_eq_zero hl, rfl⟩⟩
  · simp only [Value.slice.injEq] at h1
    obtain ⟨rfl, _, rfl⟩ := h1
    exact ⟨hs, h3, h4, fun e => by cases e⟩

theorem set9_own {W : World} {H R s n : Nat} {e : TypeId} {v v0 v1 v2 v3 v4 v5 v6 v7 v8 : Value} {xs : List Value} (h : W.ownsRow H e s v n xs) (hn : v.ownBlock ≠ some R) : (set9 W R v0 v1 v2 v3 v4 v5 v6 v7 v8).ownsRow H e s v n xs :=
  ownsRow_setCell_other (a := ⟨R, 8, none⟩) (ownsRow_setCell_other (a := ⟨R, 7, none⟩) (ownsRow_setCell_other (a := ⟨R, 6, none⟩) (ownsRow_setCell_other (a := ⟨R, 5, none⟩) (ownsRow_setCell_other (a := ⟨R, 4, none⟩) (ownsRow_setCell_other (a := ⟨R, 3, none⟩) (ownsRow_setCell_other (a := ⟨R, 2, none⟩) (ownsRow_setCell_other (a := ⟨R, 1, none⟩) (ownsRow_setCell_other (a := ⟨R, 0, none⟩) h hn _) hn _) hn _) hn _) hn _) hn _) hn _) hn _) hn _

end Lt
end Go.Proofs.YtiobhbagjokpcaaGreat

/- Whether records are the same, and a record's copy; contracts; no condition but the range. -/
namespace Go.Proofs.YtiobhbagjokpcaaGreat
namespace Rc
open Go.RowKit Bk Lt

attribute [local go_sem ↓] Go.wp_at_zero Go.wp_at_succ
attribute [local go_sem] floatUpon pick

theorem rec_ext {x y : Rec} (h0 : x.kind = y.kind) (h1 : x.txn = y.txn) (h2 : x.ts = y.ts) (h3 : x.coord = y.coord) (h4 : x.key = y.key) (h5 : x.text = y.text) (h6 : x.dead = y.dead) (h7 : x.keys = y.keys) (h8 : x.ws = y.ws) : x = y := by
  obtain ⟨a0, a1, a2, a3, a4, a5, a6, a7, a8⟩ := x
  obtain ⟨b0, b1, b2, b3, b4, b5, b6, b7, b8⟩ := y
  simp only at h0 h1 h2 h3 h4 h5 h6 h7 h8
  subst h0 h1 h2 h3 h4 h5 h6 h7 h8; rfl

noncomputable def sameB (x y : Rec) : Bool := @decide (x = y) (Classical.propDecidable _)
theorem sameB_true {x y : Rec} (h : x = y) : sameB x y = true := by unfold sameB; exact @decide_eq_true _ (Classical.propDecidable _) h
theorem sameB_false {x y : Rec} (h : ¬ x = y) : sameB x y = false := by unfold sameB; exact @decide_eq_false _ (Classical.propDecidable _) h
theorem sameB_self (x : Rec) : sameB x x = true := sameB_true rfl

/-- what the comparison says, part by part -/
theorem sameB_parts (x y : Rec) : sameB x y = (decide (x.kind = y.kind) && (decide (x.txn = y.txn) && (decide (x.ts = y.ts) && (decide (x.coord = y.coord) && (decide (x.key = y.key) && (decide (x.text = y.text) && (decide (x.dead = y.dead) && (decide (x.keys = y.keys) && decide (x.ws = y.ws))))))))) := by
  by_cases h : x = y
  · subst h; rw [sameB_self]; simp
  · rw [sameB_false h]
    symm
    rw [Bool.eq_false_iff]
    intro hh
    simp only [Bool.and_eq_true, decide_eq_true_eq] at hh
    obtain ⟨h0, h1, h2, h3, h4, h5, h6, h7, h8⟩ := hh
    exact h (rec_ext h0 h1 h2 h3 h4 h5 h6 h7 h8)

set_option maxRecDepth 20000 in
set_option maxHeartbeats 8000000 in
theorem sameRec_any (A B A' B' : Option Addr) (c d c' d' : Nat) (x y : Rec) (w : World) (ha : StrsAt w A x.keys) (hb : WrsAt w B x.ws) (ha' : StrsAt w A' y.keys) (hb' : WrsAt w B' y.ws) (hn : x.keys.length ≤ 9223372036854775807) (hn2 : x.ws.length ≤ 9223372036854775807) :
    Calls Tryz.prog 13 #[recV x A B c d, recV y A' B' c' d'] w fun e w' => e = .returned (.bool (sameB x y)) ∧ Below w.heap.size w w' := by
  have HK := Lib.hid (fun W (hbl : Below w.heap.size w W) => same_any A A' c c' x.keys y.keys W (ha.below hbl) (ha'.below hbl) hn)
  have HW := Lib.hid (fun W (hbl : Below w.heap.size w W) => sameWrs_any B B' d d' x.ws y.ws W (hb.below hbl) (hb'.below hbl) hn2)
  unfold recV
  obtain ⟨s2, b1, b2⟩ := blk2 w (.cells #[.int .i64 x.kind, .int .i64 x.txn, .int .i64 x.ts, .int .i64 x.coord, .string x.key, .string x.text, .bool x.dead, .slice A x.keys.length c, .slice B x.ws.length d] 37) (.cells #[.int .i64 y.kind, .int .i64 y.txn, .int .i64 y.ts, .int .i64 y.coord, .string y.key, .string y.text, .bool y.dead, .slice A' y.keys.length c', .slice B' y.ws.length d'] 37)
  have hB : Below w.heap.size w ((w.alloc (.cells #[.int .i64 x.kind, .int .i64 x.txn, .int .i64 x.ts, .int .i64 x.coord, .string x.key, .string x.text, .bool x.dead, .slice A x.keys.length c, .slice B x.ws.length d] 37)).alloc (.cells #[.int .i64 y.kind, .int .i64 y.txn, .int .i64 y.ts, .int .i64 y.coord, .string y.key, .string y.text, .bool y.dead, .slice A' y.keys.length c', .slice B' y.ws.length d'] 37)) :=
    ((Below.refl _ w).alloc (Nat.le_refl _) _).alloc (by simp) _
  have HB := Lib.hid hB
  have E := Lib.hid (sameB_parts x y)
  have C1 : Cel _ _ _ [_, _, _, _, _, _, _, _, _] := b1
  have C2 : Cel _ _ _ [_, _, _, _, _, _, _, _, _] := b2
  have HC1 := Lib.hid C1
  have HC2 := Lib.hid C2
  clear hB s2 b1 b2 C1 C2 ha hb ha' hb' hn hn2
  go_enter Tryz.func13, Tryz.ntmps13
  go_upto_region 1 with fail
  generalize ((w.alloc (.cells #[.int .i64 x.kind, .int .i64 x.txn, .int .i64 x.ts, .int .i64 x.coord, .string x.key, .string x.text, .bool x.dead, .slice A x.keys.length c, .slice B x.ws.length d] 37)).alloc (.cells #[.int .i64 y.kind, .int .i64 y.txn, .int .i64 y.ts, .int .i64 y.coord, .string y.key, .string y.text, .bool y.dead, .slice A' y.keys.length c', .slice B' y.ws.length d'] 37)) = W1 at HB HC1 HC2 ⊢
  have p0 := HC1.out.cell (i := 0) rfl
  have p1 := HC1.out.cell (i := 1) rfl
  have p2 := HC1.out.cell (i := 2) rfl
  have p3 := HC1.out.cell (i := 3) rfl
  have p4 := HC1.out.cell (i := 4) rfl
  have p5 := HC1.out.cell (i := 5) rfl
  have p6 := HC1.out.cell (i := 6) rfl
  have p7 := HC1.out.cell (i := 7) rfl
  have p8 := HC1.out.cell (i := 8) rfl
  have q0 := HC2.out.cell (i := 0) rfl
  have q1 := HC2.out.cell (i := 1) rfl
  have q2 := HC2.out.cell (i := 2) rfl
  have q3 := HC2.out.cell (i := 3) rfl
  have q4 := HC2.out.cell (i := 4) rfl
  have q5 := HC2.out.cell (i := 5) rfl
  have q6 := HC2.out.cell (i := 6) rfl
  have q7 := HC2.out.cell (i := 7) rfl
  have q8 := HC2.out.cell (i := 8) rfl
  have e0 : ((x.kind == y.kind) : Bool) = decide (x.kind = y.kind) := by rfl
  have e1 : ((x.txn == y.txn) : Bool) = decide (x.txn = y.txn) := by rfl
  have e2 : ((x.ts == y.ts) : Bool) = decide (x.ts = y.ts) := by rfl
  have e3 : ((x.coord == y.coord) : Bool) = decide (x.coord = y.coord) := by rfl
  have e4 := eql_dec x.key y.key
  have e5 := eql_dec x.text y.text
  have e6 : (x.dead == y.dead) = decide (x.dead = y.dead) := by cases x.dead <;> cases y.dead <;> rfl
  generalize decide (x.kind = y.kind) = r0 at *
  generalize decide (x.txn = y.txn) = r1 at *
  generalize decide (x.ts = y.ts) = r2 at *
  generalize decide (x.coord = y.coord) = r3 at *
  generalize decide (x.key = y.key) = r4 at *
  generalize decide (x.text = y.text) = r5 at *
  generalize decide (x.dead = y.dead) = r6 at *
  generalize decide (x.keys = y.keys) = r7 at *
  generalize decide (x.ws = y.ws) = r8 at *
  clear HC1 HC2
  cases r0 with
  | false =>
    go_wp2_with fail
    go_ret
    exact ⟨by rw [E.out]; rfl, HB.out⟩
  | true =>
  cases r1 with
  | false =>
    go_wp2_with fail
    go_ret
    exact ⟨by rw [E.out]; rfl, HB.out⟩
  | true =>
  cases r2 with
  | false =>
    go_wp2_with fail
    go_ret
    exact ⟨by rw [E.out]; rfl, HB.out⟩
  | true =>
  cases r3 with
  | false =>
    go_wp2_with fail
    go_ret
    exact ⟨by rw [E.out]; rfl, HB.out⟩
  | true =>
  cases r4 with
  | false =>
    go_wp2_with fail
    go_ret
    exact ⟨by rw [E.out]; rfl, HB.out⟩
  | true =>
  cases r5 with
  | false =>
    go_wp2_with fail
    go_ret
    exact ⟨by rw [E.out]; rfl, HB.out⟩
  | true =>
  cases r6 with
  | false =>
    go_wp2_with fail
    go_ret
    exact ⟨by rw [E.out]; rfl, HB.out⟩
  | true =>
  cases r7 with
  | false =>
    go_wp2_with fail
    refine (HK.out _ HB.out).mono ?_
    rintro e w2 ⟨rfl, n, rfl⟩
    have HB2 : Hid (Below w.heap.size w (W1.drewN n)) := Lib.hid ⟨HB.out.1, HB.out.2, HB.out.3, HB.out.4, HB.out.5⟩
    go_wp2_with fail
    go_ret
    exact ⟨by rw [E.out]; rfl, HB2.out⟩
  | true =>
    go_wp2_with fail
    refine (HK.out _ HB.out).mono ?_
    rintro e w2 ⟨rfl, n, rfl⟩
    have HB2 : Hid (Below w.heap.size w (W1.drewN n)) := Lib.hid ⟨HB.out.1, HB.out.2, HB.out.3, HB.out.4, HB.out.5⟩
    have k8 : (W1.drewN n).cell? ⟨w.heap.size, 8, none⟩ = some (.slice B x.ws.length d) := p8
    have m8 : (W1.drewN n).cell? ⟨w.heap.size + 1, 8, none⟩ = some (.slice B' y.ws.length d') := q8
    clear HB HK p0 p1 p2 p3 p4 p5 p6 p7 p8 q0 q1 q2 q3 q4 q5 q6 q7 q8
    generalize W1.drewN n = W2 at *
    go_wp2_with fail
    refine (HW.out _ HB2.out).mono ?_
    rintro e w3 ⟨rfl, hb⟩
    have HB3 := Lib.hid (HB2.out.trans (hb.mono HB2.out.size))
    clear hb HB2 HW
    go_wp2_with fail
    go_ret
    exact ⟨by rw [E.out]; simp, HB3.out⟩

set_option maxRecDepth 20000 in
set_option maxHeartbeats 8000000 in
theorem copy_any (A B : Option Addr) (c d : Nat) (r : Rec) (w : World) (h : RecVal w A B c d r) :
    Calls Tryz.prog 9 #[recV r A B c d] w fun e w' => ∃ (A1 B1 : Option Addr) (c1 d1 : Nat), e = .returned (recV r A1 B1 c1 d1) ∧ RecVal w' A1 B1 c1 d1 r ∧ Below w.heap.size w w' := by
  obtain ⟨i0, hi, hz0, hz1, hz2⟩ := info_parts Tryz.infoStr
  obtain ⟨i1, hi', hz0', hz1', hz2'⟩ := info_parts Tryz.infoWrite
  have henv := RcEnv.start (c := c) (d := d) h.ks h.ws
  have HV := Lib.hid h
  have k16 : r.keys.length * 16 ≤ 140737488351232 := by have := h.rng.k16; unfold reachBytes at this; omega
  have w40 : r.ws.length * 40 ≤ 140737488351232 := by have := h.rng.w40; unfold reachBytes at this; omega
  clear h
  unfold recV
  go_enter Tryz.func9, Tryz.ntmps9
  go_upto_region 1 with fail
  have hE1 := henv.step ((Below.refl _ _).alloc (Nat.le_refl _) (.cells #[.int .i64 0, .int .i64 0, .int .i64 0, .int .i64 0, .string ⟨#[]⟩, .string ⟨#[]⟩, .bool false, .slice none 0 0, .slice none 0 0] 37))
  have hR1 : Cel ((w.alloc (.cells #[.int .i64 r.kind, .int .i64 r.txn, .int .i64 r.ts, .int .i64 r.coord, .string r.key, .string r.text, .bool r.dead, .slice A r.keys.length c, .slice B r.ws.length d] 37)).alloc (.cells #[.int .i64 0, .int .i64 0, .int .i64 0, .int .i64 0, .string ⟨#[]⟩, .string ⟨#[]⟩, .bool false, .slice none 0 0, .slice none 0 0] 37)) (w.heap.size + 1) 37 [.int .i64 0, .int .i64 0, .int .i64 0, .int .i64 0, .string ⟨#[]⟩, .string ⟨#[]⟩, .bool false, .slice none 0 0, .slice none 0 0] := (blk2 w _ _).2.2
  have hsz1 : w.heap.size + 1 < ((w.alloc (.cells #[.int .i64 r.kind, .int .i64 r.txn, .int .i64 r.ts, .int .i64 r.coord, .string r.key, .string r.text, .bool r.dead, .slice A r.keys.length c, .slice B r.ws.length d] 37)).alloc (.cells #[.int .i64 0, .int .i64 0, .int .i64 0, .int .i64 0, .string ⟨#[]⟩, .string ⟨#[]⟩, .bool false, .slice none 0 0, .slice none 0 0] 37)).heap.size := hR1.lt
  generalize (w.alloc (.cells #[.int .i64 r.kind, .int .i64 r.txn, .int .i64 r.ts, .int .i64 r.coord, .string r.key, .string r.text, .bool r.dead, .slice A r.keys.length c, .slice B r.ws.length d] 37)).alloc (.cells #[.int .i64 0, .int .i64 0, .int .i64 0, .int .i64 0, .string ⟨#[]⟩, .string ⟨#[]⟩, .bool false, .slice none 0 0, .slice none 0 0] 37) = W1 at hE1 hR1 hsz1 ⊢
  have HE := Lib.hid hE1
  have HR := Lib.hid hR1
  clear henv hE1 hR1
  have k7 := fun o : Obj => (HE.out.step ((Below.refl _ W1).alloc (Nat.le_refl _) o)).cel.cell (i := 7) rfl
  have hO0 : (W1.alloc (.cells #[] 9)).ownsRow W1.heap.size 9 1 (.slice (some ⟨W1.heap.size, 0, none⟩) 0 0) 0 [] := World.ownsRow_lit (base := W1.heap.size) (e := 9) (size := 1) W1 #[] 0 (Nat.le_refl _) (by unfold maxLen; omega) rfl
  have HO0 := Lib.hid hO0
  have HAn := Lib.hid (show A = none → r.keys.length = 0 ∧ c = 0 from fun e => by
    obtain ⟨h1, h2⟩ := HV.out.kn e
    exact ⟨by rw [h1]; rfl, h2⟩)
  have HBn := Lib.hid (show B = none → r.ws.length = 0 ∧ d = 0 from fun e => by
    obtain ⟨h1, h2⟩ := HV.out.wn e
    exact ⟨by rw [h1]; rfl, h2⟩)
  clear hO0
  go_wp2_with (at_builtin; refine wpList_append_opt rfl _ _ 23 rfl W1.heap.size 9 i0 (.string ⟨#[]⟩) 16 Tryz.underlying23 hi hz0 hz1 hz2 rfl _ 0 _ rfl HO0.out A r.keys.length c (strV r.keys) rfl (strV_len _) HAn.out ?c1 ?c2 ?c3 ?c4 (by simp) ?_)
  case c1 => exact fun ad e => by subst e; exact (HE.out.ks.alloc _).news
  case c2 => intro u hu; obtain ⟨s, _, rfl⟩ := List.mem_map.1 hu; rfl
  case c3 => unfold maxLen; omega
  case c4 => omega
  intro v' w3 ho hg hat
  have hb3 : Below W1.heap.size W1 w3 := ((Below.refl _ W1).alloc (Nat.le_refl _) (.cells #[] 9)).grown hg (by simp) (fun k hk => (HO0.out.lt k hk).1)
  have hX3 := hb3.size
  obtain ⟨A1, c1, rfl, f1, f2⟩ := Pk.own_form ho
  have hE3 := HE.out.step hb3
  have hR3 := HR.out.below hb3
  have kq := fun i => hE3.cel.free (i := i)
  have k3 := hE3.cel.cell (i := 7) rfl
  have hN : (Value.slice A1 r.keys.length c1).ownBlock ≠ some w.heap.size := fun e => by have := (ho.lt _ e).1; omega
  have hN2 : (Value.slice A1 r.keys.length c1).ownBlock ≠ some (w.heap.size + 1) := fun e => by have := (ho.lt _ e).1; omega
  have HO3 := Lib.hid ho
  have HE3 := Lib.hid hE3
  have HR3 := Lib.hid hR3
  have HN := Lib.hid hN
  have HN2 := Lib.hid hN2
  clear ho hg hat hb3 hE3 hR3 hN hN2 k7 HO0 HE HR f1 f2
  go_upto_region 2 with fail
  have hC4 : Cel (w3.setCell ⟨w.heap.size, 7, none⟩ (.slice A1 r.keys.length c1)) w.heap.size 37 [.int .i64 r.kind, .int .i64 r.txn, .int .i64 r.ts, .int .i64 r.coord, .string r.key, .string r.text, .bool r.dead, .slice A1 r.keys.length c1, .slice B r.ws.length d] := HE3.out.cel.set
  have hR4 : Cel (w3.setCell ⟨w.heap.size, 7, none⟩ (.slice A1 r.keys.length c1)) (w.heap.size + 1) 37 _ := HR3.out.far (by omega)
  have hO4 := ownsRow_setCell_other (a := ⟨w.heap.size, 7, none⟩) HO3.out HN.out (.slice A1 r.keys.length c1)
  have hB4 := HE3.out.bel.setCell (p := ⟨w.heap.size, 7, none⟩) (Nat.le_refl _) (.slice A1 r.keys.length c1)
  have hX4 : W1.heap.size ≤ (w3.setCell ⟨w.heap.size, 7, none⟩ (.slice A1 r.keys.length c1)).heap.size := by simpa using hX3
  generalize w3.setCell ⟨w.heap.size, 7, none⟩ (.slice A1 r.keys.length c1) = W4 at hC4 hR4 hO4 hB4 hX4 ⊢
  have HC4 := Lib.hid hC4
  have HR4 := Lib.hid hR4
  have HO4 := Lib.hid hO4
  have HB4 := Lib.hid hB4
  have k8 := fun o : Obj => (HC4.out.below ((Below.refl _ W4).alloc (Nat.le_refl _) o)).cell (i := 8) rfl
  have hO0 : (W4.alloc (.cells #[] 45)).ownsRow W4.heap.size 45 3 (.slice (some ⟨W4.heap.size, 0, none⟩) 0 0) 0 [] := World.ownsRow_lit (base := W4.heap.size) (e := 45) (size := 3) W4 #[] 0 (Nat.le_refl _) (by unfold maxLen; omega) rfl
  have HO0 := Lib.hid hO0
  have HWs := Lib.hid (HV.out.ws.below HB4.out)
  clear hC4 hR4 hO4 hB4 hO0 HO3 HE3 HR3 kq k3 hX3
  go_wp2_with (at_builtin; refine wpList_append_opt3 rfl _ _ 35 rfl W4.heap.size 45 i1 (.agg #[.string ⟨#[]⟩, .string ⟨#[]⟩, .bool false]) 40 Tryz.underlying35 hi' hz0' hz1' hz2' rfl _ 0 _ rfl HO0.out B r.ws.length d (wrV r.ws) rfl (wrV_len _) HBn.out ?d1 ?d2 ?d3 ?d4 (by simp) ?_)
  case d1 => exact fun ad e => by subst e; exact (HWs.out.alloc _).news
  case d2 => exact wrV_one _
  case d3 => unfold maxLen; omega
  case d4 => omega
  intro v' w5 ho hg hat
  have hb5 : Below W4.heap.size W4 w5 := ((Below.refl _ W4).alloc (Nat.le_refl _) (.cells #[] 45)).grown hg (by simp) (fun k hk => (HO0.out.lt k hk).1)
  obtain ⟨B1, d1, rfl⟩ : ∃ B1 d1, v' = .slice B1 r.ws.length d1 := by
    obtain ⟨B1, d1, e, _⟩ := wrs_own ho rfl
    exact ⟨B1, d1, e⟩
  have hC5 := HC4.out.below hb5
  have hR5 := HR4.out.below hb5
  have hO5 := st_keep HO4.out hb5
  have hB5 := HB4.out.trans (hb5.mono HB4.out.size)
  have hM : (Value.slice B1 r.ws.length d1).ownBlock ≠ some w.heap.size := fun e => by have := (ho.lt _ e).1; omega
  have hM2 : (Value.slice B1 r.ws.length d1).ownBlock ≠ some (w.heap.size + 1) := fun e => by have := (ho.lt _ e).1; omega
  have kq := fun i => hC5.free (i := i)
  have k3 := hC5.cell (i := 8) rfl
  have hC6 : Cel (w5.setCell ⟨w.heap.size, 8, none⟩ (.slice B1 r.ws.length d1)) w.heap.size 37 [.int .i64 r.kind, .int .i64 r.txn, .int .i64 r.ts, .int .i64 r.coord, .string r.key, .string r.text, .bool r.dead, .slice A1 r.keys.length c1, .slice B1 r.ws.length d1] := hC5.set
  have hR6 : Cel (w5.setCell ⟨w.heap.size, 8, none⟩ (.slice B1 r.ws.length d1)) (w.heap.size + 1) 37 _ := hR5.far (by omega)
  have hO6 := ownsRow_setCell_other (a := ⟨w.heap.size, 8, none⟩) hO5 HN.out (.slice B1 r.ws.length d1)
  have hP6 := ownsRow_setCell_other (a := ⟨w.heap.size, 8, none⟩) ho hM (.slice B1 r.ws.length d1)
  have hB6 := hB5.setCell (p := ⟨w.heap.size, 8, none⟩) (Nat.le_refl _) (.slice B1 r.ws.length d1)
  have HR6 := Lib.hid hR6
  have HC6 := Lib.hid hC6
  have HO6 := Lib.hid hO6
  have HP6 := Lib.hid hP6
  have HB6 := Lib.hid hB6
  have HM2 := Lib.hid hM2
  clear ho hg hat hb5 hC5 hR5 hO5 hB5 hM hM2 hC6 hR6 hO6 hP6 hB6 k8 HO0 HC4 HR4 HO4 HB4 HWs
  go_upto_region 3 with fail
  generalize w5.setCell ⟨w.heap.size, 8, none⟩ (.slice B1 r.ws.length d1) = W6 at HR6 HC6 HO6 HP6 HB6 ⊢
  clear kq k3
  have k0 := HC6.out.cell (i := 0) rfl
  have k1 := HC6.out.cell (i := 1) rfl
  have k2 := HC6.out.cell (i := 2) rfl
  have k3 := HC6.out.cell (i := 3) rfl
  have k4 := HC6.out.cell (i := 4) rfl
  have k5 := HC6.out.cell (i := 5) rfl
  have k6 := HC6.out.cell (i := 6) rfl
  have k7 := HC6.out.cell (i := 7) rfl
  have k8 := HC6.out.cell (i := 8) rfl
  have q0 := HR6.out.cell (i := 0) rfl
  have q1 := HR6.out.cell (i := 1) rfl
  have q2 := HR6.out.cell (i := 2) rfl
  have q3 := HR6.out.cell (i := 3) rfl
  have q4 := HR6.out.cell (i := 4) rfl
  have q5 := HR6.out.cell (i := 5) rfl
  have q6 := HR6.out.cell (i := 6) rfl
  have q7 := HR6.out.cell (i := 7) rfl
  have q8 := HR6.out.cell (i := 8) rfl
  have zq := fun i => HR6.out.free (i := i)
  go_wp2_with fail
  have HF := Lib.hid (set9_cel (v0 := .int .i64 r.kind) (v1 := .int .i64 r.txn) (v2 := .int .i64 r.ts) (v3 := .int .i64 r.coord) (v4 := .string r.key) (v5 := .string r.text) (v6 := .bool r.dead) (v7 := .slice A1 r.keys.length c1) (v8 := .slice B1 r.ws.length d1) HR6.out)
  have z0 := HF.out.cell (i := 0) rfl
  have z1 := HF.out.cell (i := 1) rfl
  have z2 := HF.out.cell (i := 2) rfl
  have z3 := HF.out.cell (i := 3) rfl
  have z4 := HF.out.cell (i := 4) rfl
  have z5 := HF.out.cell (i := 5) rfl
  have z6 := HF.out.cell (i := 6) rfl
  have z7 := HF.out.cell (i := 7) rfl
  have z8 := HF.out.cell (i := 8) rfl
  have HO7 := Lib.hid (set9_own (v0 := .int .i64 r.kind) (v1 := .int .i64 r.txn) (v2 := .int .i64 r.ts) (v3 := .int .i64 r.coord) (v4 := .string r.key) (v5 := .string r.text) (v6 := .bool r.dead) (v7 := .slice A1 r.keys.length c1) (v8 := .slice B1 r.ws.length d1) HO6.out HN2.out)
  have HP7 := Lib.hid (set9_own (v0 := .int .i64 r.kind) (v1 := .int .i64 r.txn) (v2 := .int .i64 r.ts) (v3 := .int .i64 r.coord) (v4 := .string r.key) (v5 := .string r.text) (v6 := .bool r.dead) (v7 := .slice A1 r.keys.length c1) (v8 := .slice B1 r.ws.length d1) HP6.out HM2.out)
  unfold set9 at z0 z1 z2 z3 z4 z5 z6 z7 z8
  have hk := own_strs HO7.out
  have hw := own_wrs HP7.out
  exact bodyPost_ret (v := recV r A1 B1 c1 d1) (by simp [results, Tryz.results9, go_sem, recV, z0, z1, z2, z3, z4, z5, z6, z7, z8]) rfl
    ⟨A1, B1, c1, d1, rfl, ⟨hk.1, hw.1, ⟨HV.out.rng.toRecRng, hk.2.1, hw.2.1, hk.2.2.1, hw.2.2.1⟩, hk.2.2.2, hw.2.2.2⟩, set9_below HB6.out (Nat.le_succ _)⟩

end Rc
end Go.Proofs.YtiobhbagjokpcaaGreat

/- What is asked of the landed package record; the example. -/
namespace Go.Proofs.YtiobhbagjokpcaaGreat
namespace Rc
open Go.RowKit Bk Lt

attribute [local go_sem ↓] Go.wp_at_zero Go.wp_at_succ
attribute [local go_sem] floatUpon pick

/-- what is asked of record.Check -/
def CheckAll : Prop := ∀ (A B : Option Addr) (c d : Nat) (r : Rec) (w : World), RecVal w A B c d r →
  Calls Tryz.prog 28 #[recV r A B c d] w fun e w' => e = .returned (.int .i64 (ckN r : Int)) ∧ Below w.heap.size w w'

theorem nil_strs (w : World) (A : Option Addr) : StrsAt w A [] := fun h => absurd h (by simp)
theorem nil_wrs (w : World) (A : Option Addr) : WrsAt w A [] := fun h => absurd h (by simp)

/-- a record of numbers alone -/
def bareR (k t s : Int) : Rec := ⟨k, t, s, 0, ⟨#[]⟩, ⟨#[]⟩, false, [], []⟩

theorem bare_val (w : World) (k t s : Int) (h : RecOk (bareR k t s)) : RecVal w none none 0 0 (bareR k t s) :=
  ⟨nil_strs _ _, nil_wrs _ _, ⟨h.rng, Nat.le_refl _, Nat.le_refl _, Nat.zero_le _, Nat.zero_le _⟩, fun _ => ⟨rfl, rfl⟩, fun _ => ⟨rfl, rfl⟩⟩

theorem no_val (w : World) : RecVal w none none 0 0 noRec := by
  refine ⟨nil_strs _ _, nil_wrs _ _, ⟨⟨?_, ?_, ?_, ?_, Nat.zero_le _, Nat.zero_le _, Nat.zero_le _, Nat.zero_le _, fun s h => absurd h (by simp [noRec]), fun x h => absurd h (by simp [noRec])⟩, Nat.le_refl _, Nat.le_refl _, Nat.zero_le _, Nat.zero_le _⟩, fun _ => ⟨rfl, rfl⟩, fun _ => ⟨rfl, rfl⟩⟩ <;> (show (-9223372036854775808 : Int) ≤ 0 ∧ (0 : Int) ≤ 9223372036854775807; omega)

theorem example_ok : RecOk (bareR 2 5 9) := by
  refine ⟨⟨.inr ?_, ?_, ?_, ?_⟩, (kind_2 rfl).2 ⟨⟨⟨rfl, rfl⟩, ⟨rfl, rfl, rfl⟩, rfl⟩, ?_⟩⟩
  · show txnOk 5; decide
  · show stampOk 9; decide
  · show (0 : Int) ≤ 0; decide
  · show (0 : Int) < 16; decide
  · show (5 : Int) ≠ 0; decide

theorem example_bytes : recL (bareR 2 5 9) = [6, 4, 10, 18, 0, 0, 0, 2, 0, 0] := by
  have h0 : Pk.plain 6 = [6] := Pk.plain_small (by omega)
  have h1 : Pk.signed 2 = [4] := Pk.plain_small (by show Pk.zig 2 < 128; decide)
  have h2 : Pk.signed 5 = [10] := Pk.plain_small (by show Pk.zig 5 < 128; decide)
  have h3 : Pk.signed 9 = [18] := Pk.plain_small (by show Pk.zig 9 < 128; decide)
  have h4 : Pk.signed 0 = [0] := Pk.plain_small (by show Pk.zig 0 < 128; decide)
  have h5 : Pk.plain 2 = [2] := Pk.plain_small (by omega)
  have h6 : Pk.plain 0 = [0] := Pk.plain_small (by omega)
  show Pk.plain 6 ++ ((Pk.signed 2 ++ (Pk.signed 5 ++ (Pk.signed 9 ++ (Pk.signed 0 ++ (Pk.signed 0 ++ (Pk.signed 0 ++ [])))))) ++ (Pk.plain 2 ++ ((Pk.plain 0 ++ []) ++ ((Pk.plain 0 ++ []) ++ [])))) = _
  rw [h0, h1, h2, h3, h4, h5, h6]; rfl

end Rc
end Go.Proofs.YtiobhbagjokpcaaGreat

/- The law of records there and back; no condition but the range. -/
namespace Go.Proofs.YtiobhbagjokpcaaGreat
namespace Rc
open Go.RowKit Bk Lt

attribute [local go_sem ↓] Go.wp_at_zero Go.wp_at_succ
attribute [local go_sem] floatUpon pick

theorem sameV (A B A2 B2 : Option Addr) (c d c2 d2 : Nat) (l : Rec) (W : World) (h : RecVal W A B c d l) (h2 : StrsAt W A2 l.keys) (h3 : WrsAt W B2 l.ws) :
    Calls Tryz.prog 13 #[recV l A B c d, recV l A2 B2 c2 d2] W fun e w' => e = .returned (.bool true) ∧ Below W.heap.size W w' := by
  have := sameRec_any A B A2 B2 c d c2 d2 l l W h.ks h.ws h2 h3 (by have := h.rng.k16; unfold reachBytes at this; omega) (by have := h.rng.w40; unfold reachBytes at this; omega)
  rwa [sameB_self] at this

end Rc
end Go.Proofs.YtiobhbagjokpcaaGreat
