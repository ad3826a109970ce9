/- What the copy of a letter is; contract; no condition but the range. -/
import Derived.Test.YtmllaighjhpbmaaLtLaw
import Derived.Test.YtmllaighjhpbmaaLtDec0
import Derived.Test.YtmllaighjhpbmaaLtBook
namespace Go.Proofs.Ytmllaighjhpbmaa
namespace Lt
open Go.RowKit Bk

attribute [local go_sem ↓] Go.wp_at_zero Go.wp_at_succ
attribute [local go_sem] floatUpon pick

/-- append of a row that may be nil onto an owned row, three cells each -/
theorem run_append_opt3 {P : Program} (w : World) (base : Nat) (t ty e : TypeId) (i : TypeInfo) (z : Value) (bytes : Nat) (ht : P.underlying t = some (.slice e)) (hi : P.info? e = some i) (hz : i.zero = some z)
    (hsize : i.size = 3) (hby : i.bytes = bytes) (hzs : z.cells.size = 3) (v : Value) (n : Nat) (xs : List Value) (hown : w.ownsRow base e 3 v n xs)
    (A : Option Addr) (m c : Nat) (news : List Value) (hl : news.length = m * 3) (hA : A = none → m = 0 ∧ c = 0) (hnews : ∀ ad, A = some ad → ∀ j u, news[j]? = some u → w.cell? (ad.add j) = some u) (h1 : ∀ u ∈ news, u.oneCell' = true)
    (h63 : n + m ≤ maxLen) (hbytes : (n + m) * bytes ≤ 140737488355328) (hbase : base ≤ w.heap.size) :
    ∃ v' w', (Builtin.append_ #[t, t] ty #[v, .slice A m c]).run P w = .ok v' w' ∧ w'.ownsRow base e 3 v' (n + m) (xs ++ news) ∧ w.grownBy w' v.ownBlock ∧ (v'.ownBlock = v.ownBlock ∨ v'.ownBlock = some w.heap.size) := by
  cases A with
  | none =>
    obtain ⟨rfl, rfl⟩ := hA rfl
    obtain rfl : news = [] := List.eq_nil_of_length_eq_zero (by omega)
    exact ⟨v, w, run_append_owned_none (P := P) w base t ty e i 3 ht hi _ _ _ hown, by rw [List.append_nil]; exact hown, ⟨rfl, rfl, rfl, Nat.le_refl _, fun _ _ _ => rfl⟩, .inl rfl⟩
  | some ad =>
    obtain ⟨v', w', hr, h2, h3, _, h5⟩ := run_append_own_at (P := P) w base t ty e i z 3 bytes ht hi hz hsize hby hzs (by omega) v n xs hown ad m c news hl (hnews ad rfl) h1 h63 hbytes hbase
    exact ⟨v', w', hr, h2, h3, h5⟩

theorem wpList_append_opt3 {P : Program} {w : World} {ops : Array Oper} {rest : List Oper} {o : Oper} {a : Act} {Q : Exit → Act → World → Prop} (hgd : o.guard = none) (s x : Operand) (t : TypeId)
    (ho : o.op = .call { callee := .builtin .append, args := #[s, x], argTypes := #[t, t] })
    (base : Nat) (e : TypeId) (i : TypeInfo) (z : Value) (bytes : Nat) (ht : P.underlying t = some (.slice e)) (hi : P.info? e = some i) (hz : i.zero = some z)
    (hsize : i.size = 3) (hby : i.bytes = bytes) (hzs : z.cells.size = 3) (v : Value) (n : Nat) (xs : List Value) (hs : a.eval s = v) (hown : w.ownsRow base e 3 v n xs)
    (A : Option Addr) (m c : Nat) (news : List Value) (hx : a.eval x = .slice A m c) (hl : news.length = m * 3) (hA : A = none → m = 0 ∧ c = 0) (hnews : ∀ ad, A = some ad → ∀ j u, news[j]? = some u → w.cell? (ad.add j) = some u) (h1 : ∀ u ∈ news, u.oneCell' = true)
    (h63 : n + m ≤ maxLen) (hbytes : (n + m) * bytes ≤ 140737488355328) (hbase : base ≤ w.heap.size)
    (h : ∀ v' w', w'.ownsRow base e 3 v' (n + m) (xs ++ news) → w.grownBy w' v.ownBlock → (v'.ownBlock = v.ownBlock ∨ v'.ownBlock = some w.heap.size) → wpList P ops Q rest (a.put o.dst v') w') :
    wpList P ops Q (o :: rest) a w := by
  refine wpList_plain hgd fun K hK => ?_
  obtain ⟨v', w', hr, h2, h3, h5⟩ := run_append_opt3 (P := P) w base t o.type e i z bytes ht hi hz hsize hby hzs v n xs hown A m c news hl hA hnews h1 h63 hbytes hbase
  unfold Oper.wp execOp
  simp only [ho, resolve, invoke, builtin, Sem.run_bind, Sem.run_pure, Result.andThen_ok, List.map_toArray, List.map_cons, List.map_nil, hs, hx, hr]
  exact hK _ _ (h v' w' h2 h3 h5)

theorem WrsAt.news {w : World} {ad : Addr} {l : List Wr} (h : WrsAt w (some ad) l) : ∀ j u, (wrV l)[j]? = some u → w.cell? (ad.add j) = some u := fun j u hu => by
  have hj : j < l.length * 3 := by
    have := (List.getElem?_eq_some_iff.1 hu).1
    rwa [wrV_len] at this
  obtain ⟨a', e, _, h3⟩ := h (by omega)
  obtain rfl := Option.some.inj e
  obtain ⟨y0, y1, y2⟩ := wrV_at l (j / 3) (by omega)
  obtain ⟨x0, x1, x2⟩ := h3 (j / 3) (by omega)
  have hc : j % 3 = 0 ∨ j % 3 = 1 ∨ j % 3 = 2 := by omega
  rcases hc with r | r | r
  · have ej : j = j / 3 * 3 := by omega
    rw [← ej] at y0 x0
    rw [y0] at hu; rw [x0]; exact hu
  · have ej : j = j / 3 * 3 + 1 := by omega
    rw [← ej] at y1 x1
    rw [y1] at hu; rw [x1]; exact hu
  · have ej : j = j / 3 * 3 + 2 := by omega
    rw [← ej] at y2 x2
    rw [y2] at hu; rw [x2]; exact hu

theorem wrV_one (l : List Wr) : ∀ u ∈ wrV l, u.oneCell' = true := fun u hu => by
  obtain ⟨x, _, hx⟩ := List.mem_flatMap.1 hu
  simp only [List.mem_cons, List.not_mem_nil, or_false] at hx
  rcases hx with rfl | rfl | rfl <;> rfl

theorem own_wrs {w : World} {H c : Nat} {A : Option Addr} {e : TypeId} {l : List Wr} (h : w.ownsRow H e 3 (.slice A l.length c) l.length (wrV l)) : WrsAt w A l ∧ l.length ≤ c ∧ c ≤ maxLen ∧ (A = none → l = [] ∧ c = 0) := by
  obtain ⟨A', c', e1, h1, h2, h3, h4⟩ := wrs_own h rfl
  simp only [Value.slice.injEq] at e1
  obtain ⟨rfl, _, rfl⟩ := e1
  exact ⟨h1, h2, h3, fun e => ⟨List.eq_nil_of_length_eq_zero (by have := h4 e; omega), h4 e⟩⟩

theorem own_strs {w : World} {H c : Nat} {A : Option Addr} {e : TypeId} {l : List ByteArray} (h : w.ownsRow H e 1 (.slice A l.length c) l.length (strV l)) : StrsAt w A l ∧ l.length ≤ c ∧ c ≤ maxLen ∧ (A = none → l = [] ∧ c = 0) := by
  obtain ⟨A', c', hv, hs⟩ := strs_of_own2 h rfl
  simp only [Value.slice.injEq] at hv
  obtain ⟨rfl, _, rfl⟩ := hv
  rcases h.2 with ⟨h1, h2⟩ | ⟨g, cap, cur, h1, _, _, h3, h4, _⟩
  · simp only [Value.slice.injEq] at h1
    obtain ⟨rfl, hl, rfl⟩ := h1
    exact ⟨hs, by omega, Nat.zero_le _, fun _ => ⟨List.eq_nil_of_length_eq_zero hl, rfl⟩⟩
  · simp only [Value.slice.injEq] at h1
    obtain ⟨rfl, _, rfl⟩ := h1
    exact ⟨hs, h3, h4, fun e => by cases e⟩

theorem set9_own {W : World} {H R s n : Nat} {e : TypeId} {v v0 v1 v2 v3 v4 v5 v6 v7 v8 : Value} {xs : List Value} (h : W.ownsRow H e s v n xs) (hn : v.ownBlock ≠ some R) : (set9 W R v0 v1 v2 v3 v4 v5 v6 v7 v8).ownsRow H e s v n xs :=
  ownsRow_setCell_other (a := ⟨R, 8, none⟩) (ownsRow_setCell_other (a := ⟨R, 7, none⟩) (ownsRow_setCell_other (a := ⟨R, 6, none⟩) (ownsRow_setCell_other (a := ⟨R, 5, none⟩) (ownsRow_setCell_other (a := ⟨R, 4, none⟩) (ownsRow_setCell_other (a := ⟨R, 3, none⟩) (ownsRow_setCell_other (a := ⟨R, 2, none⟩) (ownsRow_setCell_other (a := ⟨R, 1, none⟩) (ownsRow_setCell_other (a := ⟨R, 0, none⟩) h hn _) hn _) hn _) hn _) hn _) hn _) hn _) hn _) hn _

set_option maxRecDepth 20000 in
set_option maxHeartbeats 8000000 in
theorem copy_any (A B : Option Addr) (c d : Nat) (l : Let) (w : World) (h : LetVal w A B c d l) (w40 : l.ws.length * 40 ≤ 140737488351232) :
    Calls Try.prog 9 #[letV l A B c d] w fun e w' => ∃ (A1 B1 : Option Addr) (c1 d1 : Nat), e = .returned (letV l A1 B1 c1 d1) ∧ LetVal w' A1 B1 c1 d1 l ∧ Below w.heap.size w w' := by
  obtain ⟨i0, hi, hz0, hz1, hz2⟩ := info_parts Try.infoStr
  obtain ⟨i1, hi', hz0', hz1', hz2'⟩ := info_parts Try.infoWrite
  have henv := LtEnv.start (c := c) (d := d) h.ks h.ws
  have HV := Lib.hid h
  have k16 : l.keys.length * 16 ≤ 140737488351232 := by have := h.rng.k16; unfold reachBytes at this; omega
  clear h
  unfold letV
  go_enter Try.func9, Try.ntmps9
  go_upto_region 1 with fail
  have hE1 := henv.step ((Below.refl _ _).alloc (Nat.le_refl _) (.cells #[.int .i64 0, .int .i64 0, .int .i64 0, .int .i64 0, .int .i64 0, .int .i64 0, .string ⟨#[]⟩, .slice none 0 0, .slice none 0 0] 25))
  have hR1 : Cel ((w.alloc (.cells #[.int .i64 l.kind, .int .i64 l.src, .int .i64 l.dst, .int .i64 l.txn, .int .i64 l.ts, .int .i64 l.code, .string l.text, .slice A l.keys.length c, .slice B l.ws.length d] 25)).alloc (.cells #[.int .i64 0, .int .i64 0, .int .i64 0, .int .i64 0, .int .i64 0, .int .i64 0, .string ⟨#[]⟩, .slice none 0 0, .slice none 0 0] 25)) (w.heap.size + 1) 25 [.int .i64 0, .int .i64 0, .int .i64 0, .int .i64 0, .int .i64 0, .int .i64 0, .string ⟨#[]⟩, .slice none 0 0, .slice none 0 0] := (blk2 w _ _).2.2
  have hsz1 : w.heap.size + 1 < ((w.alloc (.cells #[.int .i64 l.kind, .int .i64 l.src, .int .i64 l.dst, .int .i64 l.txn, .int .i64 l.ts, .int .i64 l.code, .string l.text, .slice A l.keys.length c, .slice B l.ws.length d] 25)).alloc (.cells #[.int .i64 0, .int .i64 0, .int .i64 0, .int .i64 0, .int .i64 0, .int .i64 0, .string ⟨#[]⟩, .slice none 0 0, .slice none 0 0] 25)).heap.size := hR1.lt
  generalize (w.alloc (.cells #[.int .i64 l.kind, .int .i64 l.src, .int .i64 l.dst, .int .i64 l.txn, .int .i64 l.ts, .int .i64 l.code, .string l.text, .slice A l.keys.length c, .slice B l.ws.length d] 25)).alloc (.cells #[.int .i64 0, .int .i64 0, .int .i64 0, .int .i64 0, .int .i64 0, .int .i64 0, .string ⟨#[]⟩, .slice none 0 0, .slice none 0 0] 25) = W1 at hE1 hR1 hsz1 ⊢
  have HE := Lib.hid hE1
  have HR := Lib.hid hR1
  clear henv hE1 hR1
  have k7 := fun o : Obj => (HE.out.step ((Below.refl _ W1).alloc (Nat.le_refl _) o)).cel.cell (i := 7) rfl
  have hO0 : (W1.alloc (.cells #[] 9)).ownsRow W1.heap.size 9 1 (.slice (some ⟨W1.heap.size, 0, none⟩) 0 0) 0 [] := World.ownsRow_lit (base := W1.heap.size) (e := 9) (size := 1) W1 #[] 0 (Nat.le_refl _) (by unfold maxLen; omega) rfl
  have HO0 := Lib.hid hO0
  have HAn := Lib.hid (show A = none → l.keys.length = 0 ∧ c = 0 from fun e => by
    obtain ⟨h1, h2⟩ := HV.out.kn e
    exact ⟨by rw [h1]; rfl, h2⟩)
  have HBn := Lib.hid (show B = none → l.ws.length = 0 ∧ d = 0 from fun e => by
    obtain ⟨h1, h2⟩ := HV.out.wn e
    exact ⟨by rw [h1]; rfl, h2⟩)
  clear hO0
  go_wp2_with (at_builtin; refine wpList_append_opt rfl _ _ 22 rfl W1.heap.size 9 i0 (.string ⟨#[]⟩) 16 Try.underlying22 hi hz0 hz1 hz2 rfl _ 0 _ rfl HO0.out A l.keys.length c (strV l.keys) rfl (strV_len _) HAn.out ?c1 ?c2 ?c3 ?c4 (by simp) ?_)
  case c1 => exact fun ad e => by subst e; exact (HE.out.ks.alloc _).news
  case c2 => intro u hu; obtain ⟨s, _, rfl⟩ := List.mem_map.1 hu; rfl
  case c3 => unfold maxLen; omega
  case c4 => omega
  intro v' w3 ho hg hat
  have hb3 : Below W1.heap.size W1 w3 := ((Below.refl _ W1).alloc (Nat.le_refl _) (.cells #[] 9)).grown hg (by simp) (fun k hk => (HO0.out.lt k hk).1)
  have hX3 := hb3.size
  obtain ⟨A1, c1, rfl, f1, f2⟩ := Pk.own_form ho
  have hE3 := HE.out.step hb3
  have hR3 := HR.out.below hb3
  have kq := fun i => hE3.cel.free (i := i)
  have k3 := hE3.cel.cell (i := 7) rfl
  have hN : (Value.slice A1 l.keys.length c1).ownBlock ≠ some w.heap.size := fun e => by have := (ho.lt _ e).1; omega
  have hN2 : (Value.slice A1 l.keys.length c1).ownBlock ≠ some (w.heap.size + 1) := fun e => by have := (ho.lt _ e).1; omega
  have HO3 := Lib.hid ho
  have HE3 := Lib.hid hE3
  have HR3 := Lib.hid hR3
  have HN := Lib.hid hN
  have HN2 := Lib.hid hN2
  clear ho hg hat hb3 hE3 hR3 hN hN2 k7 HO0 HE HR f1 f2
  go_upto_region 2 with fail
  have hC4 : Cel (w3.setCell ⟨w.heap.size, 7, none⟩ (.slice A1 l.keys.length c1)) w.heap.size 25 [.int .i64 l.kind, .int .i64 l.src, .int .i64 l.dst, .int .i64 l.txn, .int .i64 l.ts, .int .i64 l.code, .string l.text, .slice A1 l.keys.length c1, .slice B l.ws.length d] := HE3.out.cel.set
  have hR4 : Cel (w3.setCell ⟨w.heap.size, 7, none⟩ (.slice A1 l.keys.length c1)) (w.heap.size + 1) 25 _ := HR3.out.far (by omega)
  have hO4 := ownsRow_setCell_other (a := ⟨w.heap.size, 7, none⟩) HO3.out HN.out (.slice A1 l.keys.length c1)
  have hB4 := HE3.out.bel.setCell (p := ⟨w.heap.size, 7, none⟩) (Nat.le_refl _) (.slice A1 l.keys.length c1)
  have hX4 : W1.heap.size ≤ (w3.setCell ⟨w.heap.size, 7, none⟩ (.slice A1 l.keys.length c1)).heap.size := by simpa using hX3
  generalize w3.setCell ⟨w.heap.size, 7, none⟩ (.slice A1 l.keys.length c1) = W4 at hC4 hR4 hO4 hB4 hX4 ⊢
  have HC4 := Lib.hid hC4
  have HR4 := Lib.hid hR4
  have HO4 := Lib.hid hO4
  have HB4 := Lib.hid hB4
  have k8 := fun o : Obj => (HC4.out.below ((Below.refl _ W4).alloc (Nat.le_refl _) o)).cell (i := 8) rfl
  have hO0 : (W4.alloc (.cells #[] 77)).ownsRow W4.heap.size 77 3 (.slice (some ⟨W4.heap.size, 0, none⟩) 0 0) 0 [] := World.ownsRow_lit (base := W4.heap.size) (e := 77) (size := 3) W4 #[] 0 (Nat.le_refl _) (by unfold maxLen; omega) rfl
  have HO0 := Lib.hid hO0
  have HWs := Lib.hid (HV.out.ws.below HB4.out)
  clear hC4 hR4 hO4 hB4 hO0 HO3 HE3 HR3 kq k3 hX3
  go_wp2_with (at_builtin; refine wpList_append_opt3 rfl _ _ 23 rfl W4.heap.size 77 i1 (.agg #[.string ⟨#[]⟩, .string ⟨#[]⟩, .bool false]) 40 Try.underlying23 hi' hz0' hz1' hz2' rfl _ 0 _ rfl HO0.out B l.ws.length d (wrV l.ws) rfl (wrV_len _) HBn.out ?d1 ?d2 ?d3 ?d4 (by simp) ?_)
  case d1 => exact fun ad e => by subst e; exact (HWs.out.alloc _).news
  case d2 => exact wrV_one _
  case d3 => unfold maxLen; omega
  case d4 => omega
  intro v' w5 ho hg hat
  have hb5 : Below W4.heap.size W4 w5 := ((Below.refl _ W4).alloc (Nat.le_refl _) (.cells #[] 77)).grown hg (by simp) (fun k hk => (HO0.out.lt k hk).1)
  obtain ⟨B1, d1, rfl⟩ : ∃ B1 d1, v' = .slice B1 l.ws.length d1 := by
    obtain ⟨B1, d1, e, _⟩ := wrs_own ho rfl
    exact ⟨B1, d1, e⟩
  have hC5 := HC4.out.below hb5
  have hR5 := HR4.out.below hb5
  have hO5 := st_keep HO4.out hb5
  have hB5 := HB4.out.trans (hb5.mono HB4.out.size)
  have hM : (Value.slice B1 l.ws.length d1).ownBlock ≠ some w.heap.size := fun e => by have := (ho.lt _ e).1; omega
  have hM2 : (Value.slice B1 l.ws.length d1).ownBlock ≠ some (w.heap.size + 1) := fun e => by have := (ho.lt _ e).1; omega
  have kq := fun i => hC5.free (i := i)
  have k3 := hC5.cell (i := 8) rfl
  have hC6 : Cel (w5.setCell ⟨w.heap.size, 8, none⟩ (.slice B1 l.ws.length d1)) w.heap.size 25 [.int .i64 l.kind, .int .i64 l.src, .int .i64 l.dst, .int .i64 l.txn, .int .i64 l.ts, .int .i64 l.code, .string l.text, .slice A1 l.keys.length c1, .slice B1 l.ws.length d1] := hC5.set
  have hR6 : Cel (w5.setCell ⟨w.heap.size, 8, none⟩ (.slice B1 l.ws.length d1)) (w.heap.size + 1) 25 _ := hR5.far (by omega)
  have hO6 := ownsRow_setCell_other (a := ⟨w.heap.size, 8, none⟩) hO5 HN.out (.slice B1 l.ws.length d1)
  have hP6 := ownsRow_setCell_other (a := ⟨w.heap.size, 8, none⟩) ho hM (.slice B1 l.ws.length d1)
  have hB6 := hB5.setCell (p := ⟨w.heap.size, 8, none⟩) (Nat.le_refl _) (.slice B1 l.ws.length d1)
  have HR6 := Lib.hid hR6
  have HC6 := Lib.hid hC6
  have HO6 := Lib.hid hO6
  have HP6 := Lib.hid hP6
  have HB6 := Lib.hid hB6
  have HM2 := Lib.hid hM2
  clear ho hg hat hb5 hC5 hR5 hO5 hB5 hM hM2 hC6 hR6 hO6 hP6 hB6 k8 HO0 HC4 HR4 HO4 HB4 HWs
  go_upto_region 3 with fail
  generalize w5.setCell ⟨w.heap.size, 8, none⟩ (.slice B1 l.ws.length d1) = W6 at HR6 HC6 HO6 HP6 HB6 ⊢
  clear kq k3
  have k0 := HC6.out.cell (i := 0) rfl
  have k1 := HC6.out.cell (i := 1) rfl
  have k2 := HC6.out.cell (i := 2) rfl
  have k3 := HC6.out.cell (i := 3) rfl
  have k4 := HC6.out.cell (i := 4) rfl
  have k5 := HC6.out.cell (i := 5) rfl
  have k6 := HC6.out.cell (i := 6) rfl
  have k7 := HC6.out.cell (i := 7) rfl
  have k8 := HC6.out.cell (i := 8) rfl
  have q0 := HR6.out.cell (i := 0) rfl
  have q1 := HR6.out.cell (i := 1) rfl
  have q2 := HR6.out.cell (i := 2) rfl
  have q3 := HR6.out.cell (i := 3) rfl
  have q4 := HR6.out.cell (i := 4) rfl
  have q5 := HR6.out.cell (i := 5) rfl
  have q6 := HR6.out.cell (i := 6) rfl
  have q7 := HR6.out.cell (i := 7) rfl
  have q8 := HR6.out.cell (i := 8) rfl
  have zq := fun i => HR6.out.free (i := i)
  go_wp2_with fail
  have HF := Lib.hid (set9_cel (v0 := .int .i64 l.kind) (v1 := .int .i64 l.src) (v2 := .int .i64 l.dst) (v3 := .int .i64 l.txn) (v4 := .int .i64 l.ts) (v5 := .int .i64 l.code) (v6 := .string l.text) (v7 := .slice A1 l.keys.length c1) (v8 := .slice B1 l.ws.length d1) HR6.out)
  have z0 := HF.out.cell (i := 0) rfl
  have z1 := HF.out.cell (i := 1) rfl
  have z2 := HF.out.cell (i := 2) rfl
  have z3 := HF.out.cell (i := 3) rfl
  have z4 := HF.out.cell (i := 4) rfl
  have z5 := HF.out.cell (i := 5) rfl
  have z6 := HF.out.cell (i := 6) rfl
  have z7 := HF.out.cell (i := 7) rfl
  have z8 := HF.out.cell (i := 8) rfl
  have HO7 := Lib.hid (set9_own (v0 := .int .i64 l.kind) (v1 := .int .i64 l.src) (v2 := .int .i64 l.dst) (v3 := .int .i64 l.txn) (v4 := .int .i64 l.ts) (v5 := .int .i64 l.code) (v6 := .string l.text) (v7 := .slice A1 l.keys.length c1) (v8 := .slice B1 l.ws.length d1) HO6.out HN2.out)
  have HP7 := Lib.hid (set9_own (v0 := .int .i64 l.kind) (v1 := .int .i64 l.src) (v2 := .int .i64 l.dst) (v3 := .int .i64 l.txn) (v4 := .int .i64 l.ts) (v5 := .int .i64 l.code) (v6 := .string l.text) (v7 := .slice A1 l.keys.length c1) (v8 := .slice B1 l.ws.length d1) HP6.out HM2.out)
  unfold set9 at z0 z1 z2 z3 z4 z5 z6 z7 z8
  have hk := own_strs HO7.out
  have hw := own_wrs HP7.out
  exact bodyPost_ret (v := letV l A1 B1 c1 d1) (by simp [results, Try.results9, go_sem, letV, z0, z1, z2, z3, z4, z5, z6, z7, z8]) rfl
    ⟨A1, B1, c1, d1, rfl, ⟨hk.1, hw.1, ⟨HV.out.rng.toLetRng, hk.2.1, hw.2.1, hk.2.2.1, hw.2.2.1⟩, hk.2.2.2, hw.2.2.2⟩, set9_below HB6.out (Nat.le_succ _)⟩

end Lt
end Go.Proofs.Ytmllaighjhpbmaa
