/- Parts of the proof, joined: LtLaw, LtCopy, RcBook, RcLaw, RcBackW, SuLaw2, SuTurn, RdWorks; their conditions stand with each. -/
import Derived.Test.YtjehjbkcdpidbaaGreatB2
import Derived.Test.YtjehjbkcdpidbaaGreatB9
import Derived.Test.YtjehjbkcdpidbaaGreatB12
import Derived.Test.YtjehjbkcdpidbaaGreatB14

/- What is asked of the landed package letter; which letter any bytes are; the example; whether letters are the same. -/
namespace Go.Proofs.YtjehjbkcdpidbaaGreat
namespace Lt
open Go.RowKit Bk

attribute [local go_sem ↓] Go.wp_at_zero Go.wp_at_succ
attribute [local go_sem] floatUpon pick

/-- a letter's lists in the memory, as an argument or a result has them -/
structure LetVal (w : World) (A B : Option Addr) (c d : Nat) (l : Let) : Prop where
  ks : StrsAt w A l.keys
  ws : WrsAt w B l.ws
  rng : LetRange l c d
  kn : A = none → l.keys = [] ∧ c = 0
  wn : B = none → l.ws = [] ∧ d = 0

theorem LetVal.below {w W : World} {A B : Option Addr} {c d : Nat} {l : Let} (h : LetVal w A B c d l) (hb : Below w.heap.size w W) : LetVal W A B c d l :=
  ⟨h.ks.below hb, h.ws.below hb, h.rng, h.kn, h.wn⟩

/-- what is asked of letter.Check -/
def CheckAll : Prop := ∀ (A B : Option Addr) (c d : Nat) (l : Let) (w : World), LetVal w A B c d l →
  Calls Tryz.prog 146 #[letV l A B c d] w fun e w' => e = .returned (.int .i64 (ckN l : Int)) ∧ Below w.heap.size w w'

open Classical in
/-- which letter bytes are, and what is told -/
noncomputable def decX (s : ByteArray) : Let × Nat := if h : ∃ l, LetOk l ∧ s.data.toList = letL l then (Classical.choose h, 0) else (noLet, 70)

theorem decX_ok {s : ByteArray} {l : Let} (h : LetOk l) (hs : s.data.toList = letL l) : decX s = (l, 0) := by
  have hx : ∃ l, LetOk l ∧ s.data.toList = letL l := ⟨l, h, hs⟩
  unfold decX
  rw [dif_pos hx]
  have hc := Classical.choose_spec hx
  rw [letL_inj hc.1 h (hc.2.symm.trans hs)]

theorem decX_no {s : ByteArray} (h : NoLet s) : decX s = (noLet, 70) := by
  unfold decX
  rw [dif_neg (fun ⟨l, h1, h2⟩ => h l h1 h2)]

theorem decX_cases (s : ByteArray) : (∃ l, LetOk l ∧ s.data.toList = letL l ∧ decX s = (l, 0)) ∨ (NoLet s ∧ decX s = (noLet, 70)) := by
  by_cases h : ∃ l, LetOk l ∧ s.data.toList = letL l
  · obtain ⟨l, h1, h2⟩ := h
    exact .inl ⟨l, h1, h2, decX_ok h1 h2⟩
  · have hn : NoLet s := fun l h1 h2 => h ⟨l, h1, h2⟩
    exact .inr ⟨hn, decX_no hn⟩

theorem decX_bytes {l : Let} (h : LetOk l) : decX ⟨(letL l).toArray⟩ = (l, 0) := decX_ok h (by simp)

/-- what is asked of letter.Key -/
def KeyAll : Prop := ∀ (s : ByteArray) (w : World), s.size ≤ 140737488355328 →
  Calls Tryz.prog 169 #[.string s] w fun e w' => e = .returned (.bool (decide (keyOk s))) ∧ Below w.heap.size w w'

/-- what is asked of letter.Rising -/
def RisingAll : Prop := ∀ (A : Option Addr) (c : Nat) (l : List ByteArray) (w : World), StrsAt w A l → l.length * 16 ≤ 140737488355328 → (∀ s ∈ l, s.size ≤ 140737488355328) → l.length ≤ c → c ≤ maxLen → (A = none → l = [] ∧ c = 0) →
  Calls Tryz.prog 167 #[.slice A l.length c] w fun e w' => e = .returned (.bool (risesB l)) ∧ Below w.heap.size w w'

theorem nil_strs (w : World) (A : Option Addr) : StrsAt w A [] := fun h => absurd h (by simp)
theorem nil_wrs (w : World) (A : Option Addr) : WrsAt w A [] := fun h => absurd h (by simp)

theorem LetOk.rng {l : Let} (h : LetOk l) : LetRng l := by
  obtain ⟨b1, b2, b3, b4, b5, b6, b7⟩ := h.bounds
  obtain ⟨⟨h1, h2, h3, h4, h5, h6⟩, _⟩ := h
  have rb : reachBytes = 140737488351232 := by unfold reachBytes; rfl
  unfold addr at h1 h2
  unfold txnOk at h3
  unfold stampOk at h4
  exact ⟨by omega, by omega, by omega, by omega, by omega, by omega, by omega, by omega, by omega, fun k hk => by have := b4 k hk; unfold keyOk at this; omega, fun x hx => by have := b5 x hx; unfold keyOk at this; omega⟩

/-- a letter of numbers alone -/
def bareL (k a b t s : Int) : Let := ⟨k, a, b, t, s, 0, ⟨#[]⟩, [], []⟩

theorem bare_val (w : World) (k a b t s : Int) (h : LetOk (bareL k a b t s)) : LetVal w none none 0 0 (bareL k a b t s) :=
  ⟨nil_strs _ _, nil_wrs _ _, ⟨h.rng, Nat.le_refl _, Nat.le_refl _, Nat.zero_le _, Nat.zero_le _⟩, fun _ => ⟨rfl, rfl⟩, fun _ => ⟨rfl, rfl⟩⟩

theorem example_ok : LetOk (bareL 7 1 2 5 0) := by
  refine ⟨⟨?_, ?_, ?_, ?_, ?_, ?_⟩, (kind_5 (by decide)).2 ⟨⟨rfl, rfl, rfl⟩, rfl⟩⟩
  · show addr 1; decide
  · show addr 2; decide
  · show txnOk 5; decide
  · show stampOk 0; decide
  · show (0 : Int) ≤ 0; decide
  · show (0 : Int) ≤ 4; decide

theorem example_bytes : letL (bareL 7 1 2 5 0) = [7, 14, 2, 4, 10, 0, 0, 0, 1, 0] := by
  have h0 : Pk.plain 7 = [7] := Pk.plain_small (by omega)
  have h1 : Pk.signed 7 = [14] := Pk.plain_small (by show Pk.zig 7 < 128; decide)
  have h2 : Pk.signed 1 = [2] := Pk.plain_small (by show Pk.zig 1 < 128; decide)
  have h3 : Pk.signed 2 = [4] := Pk.plain_small (by show Pk.zig 2 < 128; decide)
  have h4 : Pk.signed 5 = [10] := Pk.plain_small (by show Pk.zig 5 < 128; decide)
  have h5 : Pk.signed 0 = [0] := Pk.plain_small (by show Pk.zig 0 < 128; decide)
  have h6 : Pk.plain 1 = [1] := Pk.plain_small (by omega)
  have h7 : Pk.plain 0 = [0] := Pk.plain_small (by omega)
  show Pk.plain 7 ++ ((Pk.signed 7 ++ (Pk.signed 1 ++ (Pk.signed 2 ++ (Pk.signed 5 ++ (Pk.signed 0 ++ (Pk.signed 0 ++ (Pk.signed 0 ++ []))))))) ++ (Pk.plain 1 ++ ((Pk.plain 0 ++ []) ++ []))) = _
  rw [h0, h1, h2, h3, h4, h5, h6, h7]; rfl

def kK : ByteArray := ⟨#[107]⟩
def kA : ByteArray := ⟨#[97]⟩
def kB : ByteArray := ⟨#[98]⟩

theorem rises_ab : risesB [kA, kB] = true := risesB_true fun i h => by
  match i, h with
  | 0, _ => exact ⟨by show keyOk kA; decide, fun h0 => absurd h0 (by omega)⟩
  | 1, _ =>
    refine ⟨by show keyOk kB; decide, fun _ => ?_⟩
    show leT kB kA = false
    unfold leT; rw [ByteArray.toList_eq, ByteArray.toList_eq]; decide

theorem rises_aa : risesB [kA, kA] = false := risesB_false (not_rises (j := 1) (by decide) (fun h => by
  have h2 := h.2 (by omega)
  have h3 : leT kA kA = true := by unfold leT; rw [ByteArray.toList_eq]; decide
  exact absurd (h3.symm.trans h2) (by decide)))

end Lt
end Go.Proofs.YtjehjbkcdpidbaaGreat

/- What the copy of a letter is; contract; no condition but the range. -/
namespace Go.Proofs.YtjehjbkcdpidbaaGreat
namespace Lt
open Go.RowKit Bk

attribute [local go_sem ↓] Go.wp_at_zero Go.wp_at_succ
attribute [local go_sem] floatUpon pick

/-- append of a row that may be nil onto an owned row, three cells each -/
theorem run_append_opt3 {P : Program} (w : World) (base : Nat) (t ty e : TypeId) (i : TypeInfo) (z : Value) (bytes : Nat) (ht : P.underlying t = some (.slice e)) (hi : P.info? e = some i) (hz : i.zero = some z)
    (hsize : i.size = 3) (hby : i.bytes = bytes) (hzs : z.cells.size = 3) (v : Value) (n : Nat) (xs : List Value) (hown : w.ownsRow base e 3 v n xs)
    (A : Option Addr) (m c : Nat) (news : List Value) (hl : news.length = m * 3) (hA : A = none → m = 0 ∧ c = 0) (hnews : ∀ ad, A = some ad → ∀ j u, news[j]? = some u → w.cell? (ad.add j) = some u) (h1 : ∀ u ∈ news, u.oneCell' = true)
    (h63 : n + m ≤ maxLen) (hbytes : (n + m) * bytes ≤ 140737488355328) (hbase : base ≤ w.heap.size) :
    ∃ v' w', (Builtin.append_ #[t, t] ty #[v, .slice A m c]).run P w = .ok v' w' ∧ w'.ownsRow base e 3 v' (n + m) (xs ++ news) ∧ w.grownBy w' v.ownBlock ∧ (v'.ownBlock = v.ownBlock ∨ v'.ownBlock = some w.heap.size) := by
  cases A with
  | none =>
    obtain ⟨rfl, rfl⟩ := hA rfl
    obtain rfl : news = [] := List.eq_nil_of_length_eq_zero (by omega)
    exact ⟨v, w, run_append_owned_none (P := P) w base t ty e i 3 ht hi _ _ _ hown, by rw [List.append_nil]; exact hown, ⟨rfl, rfl, rfl, Nat.le_refl _, fun _ _ _ => rfl⟩, .inl rfl⟩
  | some ad =>
    obtain ⟨v', w', hr, h2, h3, _, h5⟩ := run_append_own_at (P := P) w base t ty e i z 3 bytes ht hi hz hsize hby hzs (by omega) v n xs hown ad m c news hl (hnews ad rfl) h1 h63 hbytes hbase
    exact ⟨v', w', hr, h2, h3, h5⟩

theorem wpList_append_opt3 {P : Program} {w : World} {ops : Array Oper} {rest : List Oper} {o : Oper} {a : Act} {Q : Exit → Act → World → Prop} (hgd : o.guard = none) (s x : Operand) (t : TypeId)
    (ho : o.op = .call { callee := .builtin .append, args := #[s, x], argTypes := #[t, t] })
    (base : Nat) (e : TypeId) (i : TypeInfo) (z : Value) (bytes : Nat) (ht : P.underlying t = some (.slice e)) (hi : P.info? e = some i) (hz : i.zero = some z)
    (hsize : i.size = 3) (hby : i.bytes = bytes) (hzs : z.cells.size = 3) (v : Value) (n : Nat) (xs : List Value) (hs : a.eval s = v) (hown : w.ownsRow base e 3 v n xs)
    (A : Option Addr) (m c : Nat) (news : List Value) (hx : a.eval x = .slice A m c) (hl : news.length = m * 3) (hA : A = none → m = 0 ∧ c = 0) (hnews : ∀ ad, A = some ad → ∀ j u, news[j]? = some u → w.cell? (ad.add j) = some u) (h1 : ∀ u ∈ news, u.oneCell' = true)
    (h63 : n + m ≤ maxLen) (hbytes : (n + m) * bytes ≤ 140737488355328) (hbase : base ≤ w.heap.size)
    (h : ∀ v' w', w'.ownsRow base e 3 v' (n + m) (xs ++ news) → w.grownBy w' v.ownBlock → (v'.ownBlock = v.ownBlock ∨ v'.ownBlock = some w.heap.size) → wpList P ops Q rest (a.put o.dst v') w') :
    wpList P ops Q (o :: rest) a w := by
  refine wpList_plain hgd fun K hK => ?_
  obtain ⟨v', w', hr, h2, h3, h5⟩ := run_append_opt3 (P := P) w base t o.type e i z bytes ht hi hz hsize hby hzs v n xs hown A m c news hl hA hnews h1 h63 hbytes hbase
  unfold Oper.wp execOp
  simp only [ho, resolve, invoke, builtin, Sem.run_bind, Sem.run_pure, Result.andThen_ok, List.map_toArray, List.map_cons, List.map_nil, hs, hx, hr]
  exact hK _ _ (h v' w' h2 h3 h5)

theorem WrsAt.news {w : World} {ad : Addr} {l : List Wr} (h : WrsAt w (some ad) l) : ∀ j u, (wrV l)[j]? = some u → w.cell? (ad.add j) = some u := fun j u hu => by
  have hj : j < l.length * 3 := by
    have := (List.getElem?_eq_some_iff.1 hu).1
    rwa [wrV_len] at this
  obtain ⟨a', e, _, h3⟩ := h (by omega)
  obtain rfl := Option.some.inj e
  obtain ⟨y0, y1, y2⟩ := wrV_at l (j / 3) (by omega)
  obtain ⟨x0, x1, x2⟩ := h3 (j / 3) (by omega)
  have hc : j % 3 = 0 ∨ j % 3 = 1 ∨ j % 3 = 2 := by omega
  rcases hc with r | r | r
  · have ej : j = j / 3 * 3 := by omega
    rw [← ej] at y0 x0
    rw [y0] at hu; rw [x0]; exact hu
  · have ej : j = j / 3 * 3 + 1 := by omega
    rw [← ej] at y1 x1
    rw [y1] at hu; rw [x1]; exact hu
  · have ej : j = j / 3 * 3 + 2 := by omega
    rw [← ej] at y2 x2
    rw [y2] at hu; rw [x2]; exact hu

theorem wrV_one (l : List Wr) : ∀ u ∈ wrV l, u.oneCell' = true := fun u hu => by
  obtain ⟨x, _, hx⟩ := List.mem_flatMap.1 hu
  simp only [List.mem_cons, List.not_mem_nil, or_false] at hx
  rcases hx with rfl | rfl | rfl <;> rfl

theorem own_wrs {w : World} {H c : Nat} {A : Option Addr} {e : TypeId} {l : List Wr} (h : w.ownsRow H e 3 (.slice A l.length c) l.length (wrV l)) : WrsAt w A l ∧ l.length ≤ c ∧ c ≤ maxLen ∧ (A = none → l = [] ∧ c = 0) := by
  obtain ⟨A', c', e1, h1, h2, h3, h4⟩ := wrs_own h rfl
  simp only [Value.slice.injEq] at e1
  obtain ⟨rfl, _, rfl⟩ := e1
  exact ⟨h1, h2, h3, fun e => ⟨List.eq_nil_of_length_eq_zero (by have := h4 e; omega), h4 e⟩⟩

theorem own_strs {w : World} {H c : Nat} {A : Option Addr} {e : TypeId} {l : List ByteArray} (h : w.ownsRow H e 1 (.slice A l.length c) l.length (strV l)) : StrsAt w A l ∧ l.length ≤ c ∧ c ≤ maxLen ∧ (A = none → l = [] ∧ c = 0) := by
  obtain ⟨A', c', hv, hs⟩ := strs_of_own2 h rfl
  simp only [Value.slice.injEq] at hv
  obtain ⟨rfl, _, rfl⟩ := hv
  rcases h.2 with ⟨h1, h2⟩ | ⟨g, cap, cur, h1, _, _, h3, h4, _⟩
  · simp only [Value.slice.injEq] at h1
    obtain ⟨rfl, hl, rfl⟩ := h1
    exact ⟨hs, by omega, Nat.zero_le _, fun _ => ⟨List.eq_nil_of_length_eq_zero hl, rfl⟩⟩
  · simp only [Value.slice.injEq] at h1
    obtain ⟨rfl, _, rfl⟩ := h1
    exact ⟨hs, h3, h4, fun e => by cases e⟩

theorem set9_own {W : World} {H R s n : Nat} {e : TypeId} {v v0 v1 v2 v3 v4 v5 v6 v7 v8 : Value} {xs : List Value} (h : W.ownsRow H e s v n xs) (hn : v.ownBlock ≠ some R) : (set9 W R v0 v1 v2 v3 v4 v5 v6 v7 v8).ownsRow H e s v n xs :=
  ownsRow_setCell_other (a := ⟨R, 8, none⟩) (ownsRow_setCell_other (a := ⟨R, 7, none⟩) (ownsRow_setCell_other (a := ⟨R, 6, none⟩) (ownsRow_setCell_other (a := ⟨R, 5, none⟩) (ownsRow_setCell_other (a := ⟨R, 4, none⟩) (ownsRow_setCell_other (a := ⟨R, 3, none⟩) (ownsRow_setCell_other (a := ⟨R, 2, none⟩) (ownsRow_setCell_other (a := ⟨R, 1, none⟩) (ownsRow_setCell_other (a := ⟨R, 0, none⟩) h hn _) hn _) hn _) hn _) hn _) hn _) hn _) hn _) hn _

end Lt
end Go.Proofs.YtjehjbkcdpidbaaGreat

/- Whether records are the same, and a record's copy; contracts; no condition but the range. -/
namespace Go.Proofs.YtjehjbkcdpidbaaGreat
namespace Rc
open Go.RowKit Bk Lt

attribute [local go_sem ↓] Go.wp_at_zero Go.wp_at_succ
attribute [local go_sem] floatUpon pick

theorem rec_ext {x y : Rec} (h0 : x.kind = y.kind) (h1 : x.txn = y.txn) (h2 : x.ts = y.ts) (h3 : x.coord = y.coord) (h4 : x.key = y.key) (h5 : x.text = y.text) (h6 : x.dead = y.dead) (h7 : x.keys = y.keys) (h8 : x.ws = y.ws) : x = y := by
  obtain ⟨a0, a1, a2, a3, a4, a5, a6, a7, a8⟩ := x
  obtain ⟨b0, b1, b2, b3, b4, b5, b6, b7, b8⟩ := y
  simp only at h0 h1 h2 h3 h4 h5 h6 h7 h8
  subst h0 h1 h2 h3 h4 h5 h6 h7 h8; rfl

noncomputable def sameB (x y : Rec) : Bool := @decide (x = y) (Classical.propDecidable _)
theorem sameB_true {x y : Rec} (h : x = y) : sameB x y = true := by unfold sameB; exact @decide_eq_true _ (Classical.propDecidable _) h
theorem sameB_false {x y : Rec} (h : ¬ x = y) : sameB x y = false := by unfold sameB; exact @decide_eq_false _ (Classical.propDecidable _) h
theorem sameB_self (x : Rec) : sameB x x = true := sameB_true rfl

/-- what the comparison says, part by part -/
theorem sameB_parts (x y : Rec) : sameB x y = (decide (x.kind = y.kind) && (decide (x.txn = y.txn) && (decide (x.ts = y.ts) && (decide (x.coord = y.coord) && (decide (x.key = y.key) && (decide (x.text = y.text) && (decide (x.dead = y.dead) && (decide (x.keys = y.keys) && decide (x.ws = y.ws))))))))) := by
  by_cases h : x = y
  · subst h; rw [sameB_self]; simp
  · rw [sameB_false h]
    symm
    rw [Bool.eq_false_iff]
    intro hh
    simp only [Bool.and_eq_true, decide_eq_true_eq] at hh
    obtain ⟨h0, h1, h2, h3, h4, h5, h6, h7, h8⟩ := hh
    exact h (rec_ext h0 h1 h2 h3 h4 h5 h6 h7 h8)

set_option maxRecDepth 20000 in
set_option maxHeartbeats 8000000 in
theorem sameRec_any (A B A' B' : Option Addr) (c d c' d' : Nat) (x y : Rec) (w : World) (ha : StrsAt w A x.keys) (hb : WrsAt w B x.ws) (ha' : StrsAt w A' y.keys) (hb' : WrsAt w B' y.ws) (hn : x.keys.length ≤ 9223372036854775807) (hn2 : x.ws.length ≤ 9223372036854775807) :
    Calls Tryz.prog 22 #[recV x A B c d, recV y A' B' c' d'] w fun e w' => e = .returned (.bool (sameB x y)) ∧ Below w.heap.size w w' := by
  have HK := Lib.hid (fun W (hbl : Below w.heap.size w W) => same_any A A' c c' x.keys y.keys W (ha.below hbl) (ha'.below hbl) hn)
  have HW := Lib.hid (fun W (hbl : Below w.heap.size w W) => sameWrs_any B B' d d' x.ws y.ws W (hb.below hbl) (hb'.below hbl) hn2)
  unfold recV
  obtain ⟨s2, b1, b2⟩ := blk2 w (.cells #[.int .i64 x.kind, .int .i64 x.txn, .int .i64 x.ts, .int .i64 x.coord, .string x.key, .string x.text, .bool x.dead, .slice A x.keys.length c, .slice B x.ws.length d] 49) (.cells #[.int .i64 y.kind, .int .i64 y.txn, .int .i64 y.ts, .int .i64 y.coord, .string y.key, .string y.text, .bool y.dead, .slice A' y.keys.length c', .slice B' y.ws.length d'] 49)
  have hB : Below w.heap.size w ((w.alloc (.cells #[.int .i64 x.kind, .int .i64 x.txn, .int .i64 x.ts, .int .i64 x.coord, .string x.key, .string x.text, .bool x.dead, .slice A x.keys.length c, .slice B x.ws.length d] 49)).alloc (.cells #[.int .i64 y.kind, .int .i64 y.txn, .int .i64 y.ts, .int .i64 y.coord, .string y.key, .string y.text, .bool y.dead, .slice A' y.keys.length c', .slice B' y.ws.length d'] 49)) :=
    ((Below.refl _ w).alloc (Nat.le_refl _) _).alloc (by simp) _
  have HB := Lib.hid hB
  have E := Lib.hid (sameB_parts x y)
  have C1 : Cel _ _ _ [_, _, _, _, _, _, _, _, _] := b1
  have C2 : Cel _ _ _ [_, _, _, _, _, _, _, _, _] := b2
  have HC1 := Lib.hid C1
  have HC2 := Lib.hid C2
  clear hB s2 b1 b2 C1 C2 ha hb ha' hb' hn hn2
  go_enter Tryz.func22, Tryz.ntmps22
  go_upto_region 1 with fail
  generalize ((w.alloc (.cells #[.int .i64 x.kind, .int .i64 x.txn, .int .i64 x.ts, .int .i64 x.coord, .string x.key, .string x.text, .bool x.dead, .slice A x.keys.length c, .slice B x.ws.length d] 49)).alloc (.cells #[.int .i64 y.kind, .int .i64 y.txn, .int .i64 y.ts, .int .i64 y.coord, .string y.key, .string y.text, .bool y.dead, .slice A' y.keys.length c', .slice B' y.ws.length d'] 49)) = W1 at HB HC1 HC2 ⊢
  have p0 := HC1.out.cell (i := 0) rfl
  have p1 := HC1.out.cell (i := 1) rfl
  have p2 := HC1.out.cell (i := 2) rfl
  have p3 := HC1.out.cell (i := 3) rfl
  have p4 := HC1.out.cell (i := 4) rfl
  have p5 := HC1.out.cell (i := 5) rfl
  have p6 := HC1.out.cell (i := 6) rfl
  have p7 := HC1.out.cell (i := 7) rfl
  have p8 := HC1.out.cell (i := 8) rfl
  have q0 := HC2.out.cell (i := 0) rfl
  have q1 := HC2.out.cell (i := 1) rfl
  have q2 := HC2.out.cell (i := 2) rfl
  have q3 := HC2.out.cell (i := 3) rfl
  have q4 := HC2.out.cell (i := 4) rfl
  have q5 := HC2.out.cell (i := 5) rfl
  have q6 := HC2.out.cell (i := 6) rfl
  have q7 := HC2.out.cell (i := 7) rfl
  have q8 := HC2.out.cell (i := 8) rfl
  have e0 : ((x.kind == y.kind) : Bool) = decide (x.kind = y.kind) := by rfl
  have e1 : ((x.txn == y.txn) : Bool) = decide (x.txn = y.txn) := by rfl
  have e2 : ((x.ts == y.ts) : Bool) = decide (x.ts = y.ts) := by rfl
  have e3 : ((x.coord == y.coord) : Bool) = decide (x.coord = y.coord) := by rfl
  have e4 := eql_dec x.key y.key
  have e5 := eql_dec x.text y.text
  have e6 : (x.dead == y.dead) = decide (x.dead = y.dead) := by cases x.dead <;> cases y.dead <;> rfl
  generalize decide (x.kind = y.kind) = r0 at *
  generalize decide (x.txn = y.txn) = r1 at *
  generalize decide (x.ts = y.ts) = r2 at *
  generalize decide (x.coord = y.coord) = r3 at *
  generalize decide (x.key = y.key) = r4 at *
  generalize decide (x.text = y.text) = r5 at *
  generalize decide (x.dead = y.dead) = r6 at *
  generalize decide (x.keys = y.keys) = r7 at *
  generalize decide (x.ws = y.ws) = r8 at *
  clear HC1 HC2
  cases r0 with
  | false =>
    go_wp2_with fail
    go_ret
    exact ⟨by rw [E.out]; rfl, HB.out⟩
  | true =>
  cases r1 with
  | false =>
    go_wp2_with fail
    go_ret
    exact ⟨by rw [E.out]; rfl, HB.out⟩
  | true =>
  cases r2 with
  | false =>
    go_wp2_with fail
    go_ret
    exact ⟨by rw [E.out]; rfl, HB.out⟩
  | true =>
  cases r3 with
  | false =>
    go_wp2_with fail
    go_ret
    exact ⟨by rw [E.out]; rfl, HB.out⟩
  | true =>
  cases r4 with
  | false =>
    go_wp2_with fail
    go_ret
    exact ⟨by rw [E.out]; rfl, HB.out⟩
  | true =>
  cases r5 with
  | false =>
    go_wp2_with fail
    go_ret
    exact ⟨by rw [E.out]; rfl, HB.out⟩
  | true =>
  cases r6 with
  | false =>
    go_wp2_with fail
    go_ret
    exact ⟨by rw [E.out]; rfl, HB.out⟩
  | true =>
  cases r7 with
  | false =>
    go_wp2_with fail
    refine (HK.out _ HB.out).mono ?_
    rintro e w2 ⟨rfl, n, rfl⟩
    have HB2 : Hid (Below w.heap.size w (W1.drewN n)) := Lib.hid ⟨HB.out.1, HB.out.2, HB.out.3, HB.out.4, HB.out.5⟩
    go_wp2_with fail
    go_ret
    exact ⟨by rw [E.out]; rfl, HB2.out⟩
  | true =>
    go_wp2_with fail
    refine (HK.out _ HB.out).mono ?_
    rintro e w2 ⟨rfl, n, rfl⟩
    have HB2 : Hid (Below w.heap.size w (W1.drewN n)) := Lib.hid ⟨HB.out.1, HB.out.2, HB.out.3, HB.out.4, HB.out.5⟩
    have k8 : (W1.drewN n).cell? ⟨w.heap.size, 8, none⟩ = some (.slice B x.ws.length d) := p8
    have m8 : (W1.drewN n).cell? ⟨w.heap.size + 1, 8, none⟩ = some (.slice B' y.ws.length d') := q8
    clear HB HK p0 p1 p2 p3 p4 p5 p6 p7 p8 q0 q1 q2 q3 q4 q5 q6 q7 q8
    generalize W1.drewN n = W2 at *
    go_wp2_with fail
    refine (HW.out _ HB2.out).mono ?_
    rintro e w3 ⟨rfl, hb⟩
    have HB3 := Lib.hid (HB2.out.trans (hb.mono HB2.out.size))
    clear hb HB2 HW
    go_wp2_with fail
    go_ret
    exact ⟨by rw [E.out]; simp, HB3.out⟩

end Rc
end Go.Proofs.YtjehjbkcdpidbaaGreat

/- What is asked of the landed package record; the example. -/
namespace Go.Proofs.YtjehjbkcdpidbaaGreat
namespace Rc
open Go.RowKit Bk Lt

attribute [local go_sem ↓] Go.wp_at_zero Go.wp_at_succ
attribute [local go_sem] floatUpon pick

/-- what is asked of record.Check -/
def CheckAll : Prop := ∀ (A B : Option Addr) (c d : Nat) (r : Rec) (w : World), RecVal w A B c d r →
  Calls Tryz.prog 42 #[recV r A B c d] w fun e w' => e = .returned (.int .i64 (ckN r : Int)) ∧ Below w.heap.size w w'

/-- what is asked of record.Encode -/
def EncodeAll : Prop := ∀ (A B : Option Addr) (c d : Nat) (r : Rec) (w : World), RecVal w A B c d r →
  Calls Tryz.prog 13 #[recV r A B c d] w fun e w' => e = .returned (encV r) ∧ Below w.heap.size w w'

/-- what is asked of record.Decode -/
def DecodeAll : Prop := ∀ (s : ByteArray) (w : World), s.size ≤ 1000000000000000 →
  Calls Tryz.prog 21 #[.string s] w fun e w' => ∃ (A B : Option Addr) (c d : Nat),
    e = .returned (.tuple #[recV (decX s).1 A B c d, .int .i64 ((decX s).2 : Int)]) ∧ RecVal w' A B c d (decX s).1 ∧ Below w.heap.size w w'

theorem nil_strs (w : World) (A : Option Addr) : StrsAt w A [] := fun h => absurd h (by simp)
theorem nil_wrs (w : World) (A : Option Addr) : WrsAt w A [] := fun h => absurd h (by simp)

/-- a record of numbers alone -/
def bareR (k t s : Int) : Rec := ⟨k, t, s, 0, ⟨#[]⟩, ⟨#[]⟩, false, [], []⟩

theorem bare_val (w : World) (k t s : Int) (h : RecOk (bareR k t s)) : RecVal w none none 0 0 (bareR k t s) :=
  ⟨nil_strs _ _, nil_wrs _ _, ⟨h.rng, Nat.le_refl _, Nat.le_refl _, Nat.zero_le _, Nat.zero_le _⟩, fun _ => ⟨rfl, rfl⟩, fun _ => ⟨rfl, rfl⟩⟩

theorem no_val (w : World) : RecVal w none none 0 0 noRec := by
  refine ⟨nil_strs _ _, nil_wrs _ _, ⟨⟨?_, ?_, ?_, ?_, Nat.zero_le _, Nat.zero_le _, Nat.zero_le _, Nat.zero_le _, fun s h => absurd h (by simp [noRec]), fun x h => absurd h (by simp [noRec])⟩, Nat.le_refl _, Nat.le_refl _, Nat.zero_le _, Nat.zero_le _⟩, fun _ => ⟨rfl, rfl⟩, fun _ => ⟨rfl, rfl⟩⟩ <;> (show (-9223372036854775808 : Int) ≤ 0 ∧ (0 : Int) ≤ 9223372036854775807; omega)

theorem example_ok : RecOk (bareR 2 5 9) := by
  refine ⟨⟨.inr ?_, ?_, ?_, ?_⟩, (kind_2 rfl).2 ⟨⟨⟨rfl, rfl⟩, ⟨rfl, rfl, rfl⟩, rfl⟩, ?_⟩⟩
  · show txnOk 5; decide
  · show stampOk 9; decide
  · show (0 : Int) ≤ 0; decide
  · show (0 : Int) < 16; decide
  · show (5 : Int) ≠ 0; decide

theorem example_bytes : recL (bareR 2 5 9) = [6, 4, 10, 18, 0, 0, 0, 2, 0, 0] := by
  have h0 : Pk.plain 6 = [6] := Pk.plain_small (by omega)
  have h1 : Pk.signed 2 = [4] := Pk.plain_small (by show Pk.zig 2 < 128; decide)
  have h2 : Pk.signed 5 = [10] := Pk.plain_small (by show Pk.zig 5 < 128; decide)
  have h3 : Pk.signed 9 = [18] := Pk.plain_small (by show Pk.zig 9 < 128; decide)
  have h4 : Pk.signed 0 = [0] := Pk.plain_small (by show Pk.zig 0 < 128; decide)
  have h5 : Pk.plain 2 = [2] := Pk.plain_small (by omega)
  have h6 : Pk.plain 0 = [0] := Pk.plain_small (by omega)
  show Pk.plain 6 ++ ((Pk.signed 2 ++ (Pk.signed 5 ++ (Pk.signed 9 ++ (Pk.signed 0 ++ (Pk.signed 0 ++ (Pk.signed 0 ++ [])))))) ++ (Pk.plain 2 ++ ((Pk.plain 0 ++ []) ++ ((Pk.plain 0 ++ []) ++ [])))) = _
  rw [h0, h1, h2, h3, h4, h5, h6]; rfl

end Rc
end Go.Proofs.YtjehjbkcdpidbaaGreat

/- The law of records there and back; no condition but the range. -/
namespace Go.Proofs.YtjehjbkcdpidbaaGreat
namespace Rc
open Go.RowKit Bk Lt

attribute [local go_sem ↓] Go.wp_at_zero Go.wp_at_succ
attribute [local go_sem] floatUpon pick

theorem sameV (A B A2 B2 : Option Addr) (c d c2 d2 : Nat) (l : Rec) (W : World) (h : RecVal W A B c d l) (h2 : StrsAt W A2 l.keys) (h3 : WrsAt W B2 l.ws) :
    Calls Tryz.prog 22 #[recV l A B c d, recV l A2 B2 c2 d2] W fun e w' => e = .returned (.bool true) ∧ Below W.heap.size W w' := by
  have := sameRec_any A B A2 B2 c d c2 d2 l l W h.ks h.ws h2 h3 (by have := h.rng.k16; unfold reachBytes at this; omega) (by have := h.rng.w40; unfold reachBytes at this; omega)
  rwa [sameB_self] at this

end Rc
end Go.Proofs.YtjehjbkcdpidbaaGreat

/- Laws over what is asked of the landed package: Cut, Joins. -/
namespace Go.Proofs.YtjehjbkcdpidbaaGreat
namespace Su
open Go.RowKit Bk

attribute [local go_sem ↓] Go.wp_at_zero Go.wp_at_succ
attribute [local go_sem] floatUpon pick

theorem frame_long {t : ByteArray} (h : 4096 < t.size) : frameV t = .tuple #[.string ⟨#[]⟩, .int .i64 2] := if_pos h

theorem frame_fits {t : ByteArray} (h : t.size ≤ 4096) : frameV t = .tuple #[.string (frameB t), .int .i64 0] := if_neg (by omega)

theorem next_cut (t : ByteArray) (n : Nat) (ht : t.size ≤ 4096) (hn : n < t.size + 6) : nextV ⟨((frameL t.data.toList).take n).toArray⟩ 0 = .tuple #[.string ⟨#[]⟩, .int .i64 0, .int .i64 50] := by
  have h := nextV_at (s := ⟨((frameL t.data.toList).take n).toArray⟩) (a := 0) (Nat.zero_le _)
  rw [show (⟨((frameL t.data.toList).take n).toArray⟩ : ByteArray).data.toList.drop 0 = (frameL t.data.toList).take n from rfl, restR_cut _ (by rw [list_size]; exact ht) n (by rw [list_size]; exact hn)] at h
  exact h

end Su
end Go.Proofs.YtjehjbkcdpidbaaGreat

/- Laws over what is asked of the landed package: Turned. -/
namespace Go.Proofs.YtjehjbkcdpidbaaGreat
namespace Su
open Go.RowKit Bk

attribute [local go_sem ↓] Go.wp_at_zero Go.wp_at_succ
attribute [local go_sem] floatUpon pick

theorem bytesRow_cells (a : ByteArray) (cap : Nat) : ∃ rest : List Value, bytesRow a cap = (Lib.byteCells a.data.toList ++ rest).toArray := bytesRow_list a cap

/-- what is turned so far -/
structure Turn (L F : List UInt8) (first i : Nat) : Prop where
  len : F.length = L.length
  two : F.take 2 = L.take 2
  num : ∃ q, q < 2 ^ i ∧ num L ^^^ num F = q * 2 ^ first

theorem Turn.start (L : List UInt8) (first : Nat) : Turn L L first 0 := ⟨rfl, rfl, 0, by omega, by rw [Nat.xor_self, Nat.zero_mul]⟩

theorem Turn.skip {L F : List UInt8} {first i : Nat} (h : Turn L F first i) : Turn L F first (i + 1) := by
  obtain ⟨q, h1, h2⟩ := h.num
  exact ⟨h.len, h.two, q, by rw [Nat.pow_succ]; omega, h2⟩

theorem Turn.flip {L F : List UInt8} {first i j : Nat} (h : Turn L F first i) (hf : 16 ≤ first) (hj : j = (first + i) / 8) (hjl : j < F.length) (v : UInt8) (hv : v.toNat = 2 ^ ((first + i) % 8)) : Turn L (F.set j (F[j] ^^^ v)) first (i + 1) := by
  obtain ⟨q, h1, h2⟩ := h.num
  refine ⟨by rw [List.length_set]; exact h.len, ?_, q ^^^ 2 ^ i, ?_, ?_⟩
  · rw [List.take_set, List.set_eq_of_length_le (by rw [List.length_take]; omega)]
    exact h.two
  · rw [Nat.pow_succ]
    have := Nat.xor_lt_two_pow (n := i + 1) (x := q) (y := 2 ^ i) (by rw [Nat.pow_succ]; omega) (Nat.pow_lt_pow_right (by omega) (by omega))
    rwa [Nat.pow_succ] at this
  · have e : v.toNat * 256 ^ j = 2 ^ i * 2 ^ first := by
      rw [hv, pow256, ← Nat.pow_add, ← Nat.pow_add]
      congr 1
      omega
    have h3 := Nat.shiftLeft_xor_distrib (a := q) (b := 2 ^ i) (i := first)
    simp only [Nat.shiftLeft_eq] at h3
    rw [num_set_xor, ← Nat.xor_assoc, h2, e, h3]

theorem flip_cells (F : List UInt8) (rest : List Value) (j : Nat) (u : UInt8) (h : j < F.length) : (Lib.byteCells F ++ rest).set j (.int .u8 (u.toNat : Int)) = Lib.byteCells (F.set j u) ++ rest := by
  rw [List.set_append_left _ _ (by rw [Lib.byteCells_length]; exact h)]
  congr 1
  unfold Lib.byteCells
  rw [List.map_set]

theorem cell_at (F : List UInt8) (rest : List Value) (j : Nat) (h : j < F.length) : (Lib.byteCells F ++ rest)[j]? = some (.int .u8 (F[j].toNat : Int)) := by
  rw [List.getElem?_append_left (by rw [Lib.byteCells_length]; exact h)]
  unfold Lib.byteCells
  rw [List.getElem?_map, List.getElem?_eq_getElem h]; rfl

theorem celm_string {w : World} {g : Nat} {F : List UInt8} {rest : List Value} (h : CelM w g 5 (Lib.byteCells F ++ rest)) (n cap : Nat) (hn : n = F.length) :
    (convert 82 9 (.slice (some ⟨g, 0, none⟩) n cap)).run Tryz.prog w = .ok (.string ⟨F.toArray⟩) w := by
  subst hn
  exact run_convert_bytes_back (P := Tryz.prog) w 82 9 5 ⟨g, 0, none⟩ cap F Tryz.underlying82 Tryz.underlying5 Tryz.underlying9 (fun j hj => by
    rw [addr_head]
    exact h.cell (cell_at F rest j hj))

theorem next_turned {t : ByteArray} {F : List UInt8} {first : Nat} (ht : t.size ≤ 4096) (h : Turn (frameL t.data.toList) F first 32) (hne : F ≠ frameL t.data.toList) : nextV ⟨F.toArray⟩ 0 = .tuple #[.string ⟨#[]⟩, .int .i64 0, .int .i64 51] := by
  obtain ⟨q, h1, h2⟩ := h.num
  have e := nextV_at (s := ⟨F.toArray⟩) (a := 0) (Nat.zero_le _)
  rw [show (⟨F.toArray⟩ : ByteArray).data.toList.drop 0 = F from rfl, restR_turned (t := t.data.toList) (by rw [list_size]; exact ht) (by rw [h.len, frameL_len]) h.two (by simpa using h1) h2 hne] at e
  exact e

theorem u8_xor_nat' (a b : Nat) (ha : a < 256) (hb : b < 256) : bits .xor .u8 (a : Int) (b : Int) = ((a ^^^ b : Nat) : Int) := by
  have h : a ^^^ b < 2 ^ 8 := Nat.xor_lt_two_pow (n := 8) ha hb
  have e : ∀ c : Nat, c < 256 → (BitVec.ofInt 8 (c : Int)).toNat = c := fun c hc => by rw [BitVec.ofInt_natCast, BitVec.toNat_ofNat]; exact Nat.mod_eq_of_lt hc
  show IntKind.u8.wrap ((BitVec.ofInt 8 (a : Int) ^^^ BitVec.ofInt 8 (b : Int)).toNat : Int) = _
  rw [BitVec.toNat_xor, e a ha, e b hb]
  show ((a ^^^ b : Nat) : Int) % 256 = _
  omega

end Su
end Go.Proofs.YtjehjbkcdpidbaaGreat

/- The chapter's example holds of the landed log; over what is asked; no condition. -/
namespace Go.Proofs.YtjehjbkcdpidbaaGreat
namespace Rd
open Go.RowKit Sc Bk

attribute [local go_sem ↓] Go.wp_at_zero Go.wp_at_succ
attribute [local go_sem] floatUpon pick

variable {Rep : RepT} {LRep : LRepT}

theorem below_drew (B : Nat) (W : World) (n : Nat) : Below B W (W.drewN n) := ⟨rfl, rfl, rfl, Nat.le_refl _, fun _ _ => rfl⟩

def tA : ByteArray := ⟨#[97]⟩
def tB : ByteArray := ⟨#[98]⟩

set_option maxRecDepth 20000 in
set_option maxHeartbeats 4000000 in
theorem works_any (HB : DevBase Rep) (HL : LogAll Rep LRep) (w : World) :
    Calls Tryz.prog 7 #[] w fun e w' => e = .returned (.bool true) ∧ Below w.heap.size w w' := by
  have HD := devF_of HB
  obtain ⟨D1, ho1, i1, c1, k1, n1, in1⟩ := fresh_open (n := 20) (by omega) (by omega)
  have ha1 : appendP D1 ⟨1, 0, [], [], 0⟩ tA = (⟨1, 0, [], [tA], 0⟩, 0) := app_fits (by decide) (by unfold roomN areaN; rw [n1]; decide)
  have in2 := app_in k1 in1 tA
  rw [ha1] at in2
  obtain ⟨D3, hs3, i3, c3, k3, n3, in3⟩ := sync_idle i1 k1 in2 (by decide) (by decide)
  have ha4 : appendP D3 ⟨1 + 1, 0, [] ++ waitL ⟨1, 0, [], [tA], 0⟩, [tA], [tA].length⟩ tB = (⟨1 + 1, 0, [] ++ waitL ⟨1, 0, [], [tA], 0⟩, [tA] ++ [tB], [tA].length⟩, 0) := app_fits (by decide) (by
    unfold roomN areaN
    rw [n3, n1]
    have h1 : (waitL ⟨1, 0, [], [tA], 0⟩).length = 7 := by
      show (frs [tA] 0 1).length = 7
      rw [frs_succ (by omega) (by decide), frs_same, List.nil_append, Su.frameL_len]; rfl
    have h2 : waitL ⟨1 + 1, 0, [] ++ waitL ⟨1, 0, [], [tA], 0⟩, [tA], [tA].length⟩ = [] := frs_same _ _
    simp only [List.nil_append] at h2 ⊢
    rw [h1, h2]; decide)
  have in4 := app_in k3 in3 tB
  rw [ha4] at in4
  have ho5 := reopen_crash k3 in4 c3 (by decide) []
  have in5 : LgIn (crD D3 []) ⟨1 + 1, 0, [] ++ waitL ⟨1, 0, [], [tA], 0⟩, ([tA] ++ [tB]).take [tA].length, [tA].length⟩ := by
    have := open_in (crD_ok k3 []) (l := ⟨1 + 1, 0, [] ++ waitL ⟨1, 0, [], [tA], 0⟩, ([tA] ++ [tB]).take [tA].length, [tA].length⟩) (by rw [ho5])
    rw [ho5] at this
    exact this.1
  have H1 := Lib.hid (And.intro ho1 (And.intro ha1 (And.intro hs3 (And.intro ha4 ho5))))
  have H2 := Lib.hid (And.intro in1 (And.intro in2 (And.intro in3 (And.intro in4 in5))))
  have H3 := Lib.hid (And.intro i1.2 i3.2)
  clear ho1 ha1 hs3 ha4 ho5 in1 in2 in3 in4 in5 i1 c1 k1 n1 i3 c3 k3 n3
  go_enter Tryz.func7, Tryz.ntmps7
  go_wp2_with fail
  refine (HB.new 20 w ⟨by omega, by omega⟩).mono ?_
  rintro e w1 (⟨_, _, F1, g, rfl, hr1, hF1, hb1⟩ | ⟨hno, _, _⟩)
  case inr => exact absurd ⟨by omega, by omega⟩ hno
  have O1 : Hid (OneS Rep LRep w w1 F1 g (new0 20) none) := Lib.hid ⟨hr1, hF1, hb1⟩
  clear hr1 hF1 hb1
  go_wp2_with fail
  refine (O1.out.s.opn HL.log).mono ?_
  rintro e w2 ⟨o', rfl, ho', F2, hs2, hf2⟩
  rw [H1.out.1] at ho' hs2 ⊢
  obtain ⟨p, rfl⟩ := op_some ho'
  have O2 := Lib.hid (O1.out.act hs2 hf2)
  clear ho' hs2 hf2 O1
  unfold ptrV
  go_wp2_with fail
  refine (O2.out.s.app HL.log H2.out.1 H3.out.1 tA (by decide)).mono ?_
  rintro e w3 ⟨rfl, F3, hs3, hf3⟩
  rw [H1.out.2.1] at hs3 ⊢
  have O3 := Lib.hid (O2.out.act hs3 hf3)
  clear hs3 hf3 O2
  go_wp2_with fail
  refine (O3.out.s.syn HL.log H2.out.2.1 H3.out.1).mono ?_
  rintro e w4 ⟨rfl, F4, hs4, hf4⟩
  rw [H1.out.2.2.1] at hs4 ⊢
  have O4 := Lib.hid (O3.out.act hs4 hf4)
  clear hs4 hf4 O3
  go_wp2_with fail
  refine (O4.out.s.app HL.log H2.out.2.2.1 H3.out.2 tB (by decide)).mono ?_
  rintro e w5 ⟨rfl, F5, hs5, hf5⟩
  rw [H1.out.2.2.2.1] at hs5 ⊢
  have O5 := Lib.hid (O4.out.act hs5 hf5)
  clear hs5 hf5 O4
  go_wp2_with fail
  refine (O5.out.s.synced HL H2.out.2.2.2.1 H3.out.2).mono ?_
  rintro e w6 ⟨rfl, F6, hs6, hf6⟩
  have O6 := Lib.hid (O5.out.act hs6 hf6)
  clear hs6 hf6 O5
  go_wp2_with fail
  refine (O6.out.s.crash HD none 0 [] (fun h => absurd h (by simp)) (fun h => absurd h (by simp)) (by decide) (fun x hx => by cases hx)).mono ?_
  rintro e w7 ⟨rfl, F7, hs7, hf7⟩
  have O7 := Lib.hid (O6.out.act hs7 hf7)
  clear hs7 hf7 O6
  go_wp2_with fail
  refine (O7.out.s.opn HL.log).mono ?_
  rintro e w8 ⟨o', rfl, ho', F8, hs8, hf8⟩
  rw [H1.out.2.2.2.2] at ho' hs8 ⊢
  obtain ⟨q, rfl⟩ := op_some ho'
  have O8 := Lib.hid (O7.out.act hs8 hf8)
  clear ho' hs8 hf8 O7
  unfold ptrV
  go_wp2_with fail
  refine (O8.out.s.texts HL H2.out.2.2.2.2 rfl).mono ?_
  rintro e w9 ⟨v, F9, rfl, hrow, hno, hs9, hf9⟩
  have O9 := Lib.hid (O8.out.act hs9 hf9)
  obtain ⟨A, c, rfl, hst⟩ := strs_of_own2 hrow rfl
  have hlen : ((⟨1 + 1, 0, [] ++ waitL ⟨1, 0, [], [tA], 0⟩, ([tA] ++ [tB]).take [tA].length, [tA].length⟩ : Lg).ts).length = 1 := rfl
  rw [hlen]
  have HSt : Hid (StrsAt w9 A [tA]) := Lib.hid hst
  clear hrow hno hs9 hf9 O8 hst hlen
  go_wp2_with fail
  have hB : Below w9.heap.size w9 (w9.alloc (.cells #[.string ⟨#[97]⟩] 9)) := (Below.refl _ w9).alloc (Nat.le_refl _) _
  have hsame := same_any A (some ⟨w9.heap.size, 0, none⟩) c 1 [tA] [tA] (w9.alloc (.cells #[.string ⟨#[97]⟩] 9)) (HSt.out.below hB) (StrsAt.blk (t := 9) (heap_alloc_new w9 _)) (by decide)
  rw [show decide ([tA] = [tA]) = true from by simp] at hsame
  have HSm := Lib.hid hsame
  have HBl := Lib.hid (O9.out.bel.trans (hB.mono O9.out.bel.size))
  clear hsame hB
  refine HSm.out.mono ?_
  rintro e w10 ⟨rfl, n, rfl⟩
  go_wp2_with fail
  go_ret
  exact ⟨rfl, HBl.out.trans (below_drew _ _ n)⟩

end Rd
end Go.Proofs.YtjehjbkcdpidbaaGreat
