/- At each tick Low is the least stamp of all leases that were taken, and kept in time: the walk; no condition. -/
import Derived.Test.YtlhcaankfhdakaaLlLaw
import Derived.Test.YtlhcaankfhdakaaLlOpen
import Derived.Test.YtlhcaankfhdakaaBkInts
namespace Go.Proofs.Ytlhcaankfhdakaa
namespace Ll
open Go.RowKit Bk Ls

attribute [local go_sem ↓] Go.wp_at_zero Go.wp_at_succ
attribute [local go_sem] floatUpon pick

/-- a row of n numbers -/
def rowF (n : Nat) (f : Nat → Int) : List Value := intV ((List.range n).map f)

theorem rowF_at {n k : Nat} {f : Nat → Int} (h : k < n) : (rowF n f)[k]? = some (.int .i64 (f k)) := by
  unfold rowF intV
  rw [List.getElem?_map, List.getElem?_map, List.getElem?_range h]; rfl
theorem rowF_len (n : Nat) (f : Nat → Int) : (rowF n f).length = n := by simp [rowF, intV]
theorem rowF_congr {n : Nat} {f g : Nat → Int} (h : ∀ k, k < n → f k = g k) : rowF n f = rowF n g := by
  unfold rowF
  congr 1
  exact List.map_congr_left fun k hk => h k (List.mem_range.1 hk)
theorem rowF_set {n j : Nat} {f g : Nat → Int} {v : Int} (_ : j < n) (h : ∀ k, k < n → k ≠ j → f k = g k) (hv : g j = v) : (rowF n f).set j (.int .i64 v) = rowF n g := by
  apply List.ext_getElem?
  intro k
  by_cases hk : k < n
  · by_cases e : j = k
    · subst e
      rw [List.getElem?_set_self (by rw [rowF_len]; exact hk), rowF_at hk, hv]
    · rw [List.getElem?_set_ne e, rowF_at hk, rowF_at hk, h k hk (fun q => e q.symm)]
  · rw [List.getElem?_eq_none (by rw [List.length_set, rowF_len]; omega), List.getElem?_eq_none (by rw [rowF_len]; omega)]

theorem Try.infoIntL : (Try.prog.info? 3).map (fun i => (i.zero, i.size, i.bytes)) = some (some (.int .i64 0), 1, 8) := by kernel_rfl

theorem mkInts (m : Nat) : madeCells (Value.int .i64 0).cells (m * 1) = (rowF m (fun _ => 0)).toArray := by
  apply Array.ext'
  rw [Nat.mul_one, show (Value.int .i64 0).cells = #[.int .i64 0] from rfl, toList_madeCells_one]
  simp only [rowF, intV, List.map_map]
  rw [show (Value.int IntKind.i64 ∘ fun _ : Nat => (0 : Int)) = fun _ => Value.int .i64 0 from rfl, List.map_const', List.length_range]

theorem make_ints (m : Nat) (_ : m ≤ 20) (V : World) : (Instr.makeSlice 44 (.int .i64 (m : Int)) (.int .i64 (m : Int))).run Try.prog V = .ok (.slice (some ⟨V.heap.size, 0, none⟩) m m) (V.alloc (.cells (rowF m (fun _ => 0)).toArray 3)) := by
  obtain ⟨i0, hi, hz0, hz1, hz2⟩ := info_parts Try.infoIntL
  have h := run_make (P := Try.prog) V 44 3 i0 (.int .i64 0) Try.underlying44 hi hz0 .i64 .i64 (m : Int) (m : Int) (by omega) (by omega) (by rw [hz2]; omega) (by omega)
  rw [hz1] at h
  rw [show (m : Int).toNat * 1 = m * 1 by simp] at h
  rw [mkInts m] at h
  simpa using h

/-- the ticks that went by behind j leases -/
def atN (L : List OneI) : Nat → Nat
  | 0 => 0
  | j + 1 => atN L j + amongV (L.getD j default).gap 5
def tkN (L : List OneI) (k : Nat) : Nat := atN L (k + 1)
def enN (L : List OneI) (k : Nat) : Nat := atN L (k + 1) + amongV (L.getD k default).kept 9
def stN (L : List OneI) (k : Nat) : Nat := amongV (L.getD k default).ts 50

theorem atN_mono (L : List OneI) : ∀ a b, a ≤ b → atN L a ≤ atN L b
  | a, 0, h => by obtain rfl : a = 0 := by omega
                  exact Nat.le_refl _
  | a, b + 1, h => by
    by_cases e : a = b + 1
    · subst e; exact Nat.le_refl _
    · have := atN_mono L a b (by omega)
      show _ ≤ atN L b + _
      omega
theorem atN_le (L : List OneI) : ∀ j, atN L j ≤ j * 4
  | 0 => Nat.le_refl _
  | j + 1 => by
    have h1 := atN_le L j
    have h2 := amongV_lt (L.getD j default).gap 5 (by omega)
    show atN L j + _ ≤ _
    omega

section
variable {w wr wx : World} {b P Q R N n a : Nat} {D : Tb} {f g h : Nat → Int}

/-- the table and three rows beside it -/
structure HV (w wr : World) (b P Q R n : Nat) (D : Tb) (f g h : Nat → Int) : Prop where
  ts : TS w wr (fun k => k = P ∨ k = Q ∨ k = R) b D
  p : Cel wr P 3 (rowF n f)
  q : Cel wr Q 3 (rowF n g)
  r : Cel wr R 3 (rowF n h)
  pq : P ≠ Q
  pr : P ≠ R
  qr : Q ≠ R
  wp : w.heap.size ≤ P
  wq : w.heap.size ≤ Q
  wr : w.heap.size ≤ R

theorem HV.below (hv : HV w wr b P Q R n D f g h) (hb : Below wr.heap.size wr wx) : HV w wx b P Q R n D f g h :=
  ⟨hv.ts.below hb, hv.p.below hb, hv.q.below hb, hv.r.below hb, hv.pq, hv.pr, hv.qr, hv.wp, hv.wq, hv.wr⟩

theorem HV.setP (hv : HV w wr b P Q R n D f g h) {j : Nat} (hj : j < n) {f' : Nat → Int} {v : Int} (e : ∀ k, k < n → k ≠ j → f k = f' k) (e2 : f' j = v) : HV w (wr.setCell ⟨P, j, none⟩ (.int .i64 v)) b P Q R n D f' g h :=
  ⟨hv.ts.put (.inl rfl) hv.wp _, by rw [← rowF_set hj e e2]; exact hv.p.set, hv.q.far (Ne.symm hv.pq), hv.r.far (Ne.symm hv.pr), hv.pq, hv.pr, hv.qr, hv.wp, hv.wq, hv.wr⟩
theorem HV.setQ (hv : HV w wr b P Q R n D f g h) {j : Nat} (hj : j < n) {g' : Nat → Int} {v : Int} (e : ∀ k, k < n → k ≠ j → g k = g' k) (e2 : g' j = v) : HV w (wr.setCell ⟨Q, j, none⟩ (.int .i64 v)) b P Q R n D f g' h :=
  ⟨hv.ts.put (.inr (.inl rfl)) hv.wq _, hv.p.far hv.pq, by rw [← rowF_set hj e e2]; exact hv.q.set, hv.r.far (Ne.symm hv.qr), hv.pq, hv.pr, hv.qr, hv.wp, hv.wq, hv.wr⟩
theorem HV.setR (hv : HV w wr b P Q R n D f g h) {j : Nat} (hj : j < n) {h' : Nat → Int} {v : Int} (e : ∀ k, k < n → k ≠ j → h k = h' k) (e2 : h' j = v) : HV w (wr.setCell ⟨R, j, none⟩ (.int .i64 v)) b P Q R n D f g h' :=
  ⟨hv.ts.put (.inr (.inr rfl)) hv.wr _, hv.p.far hv.pr, hv.q.far hv.qr, by rw [← rowF_set hj e e2]; exact hv.r.set, hv.pq, hv.pr, hv.qr, hv.wp, hv.wq, hv.wr⟩

/-- the numbers, too: c of them were given out -/
structure HW (w wr : World) (b P Q R N n : Nat) (D : Tb) (f g h : Nat → Int) (c : Nat) : Prop where
  ts : TS w wr (fun k => (k = P ∨ k = Q ∨ k = R) ∨ k = N) b D
  p : Cel wr P 3 (rowF n f)
  q : Cel wr Q 3 (rowF n g)
  r : Cel wr R 3 (rowF n h)
  m : Cel wr N 3 (rowF n (fun k => if k < c then (k : Int) + 1 else 0))
  pn : P ≠ N
  qn : Q ≠ N
  rn : R ≠ N
  wn : w.heap.size ≤ N

theorem HV.more (hv : HV w wr b P Q R n D f g h) : HW w (wr.alloc (.cells (rowF n (fun _ => 0)).toArray 3)) b P Q R wr.heap.size n D f g h 0 := by
  have hb := (Below.refl wr.heap.size wr).alloc (Nat.le_refl _) (.cells (rowF n (fun _ => 0)).toArray 3)
  refine ⟨hv.ts.beside rfl, hv.p.below hb, hv.q.below hb, hv.r.below hb, ?_, by have := hv.p.lt; omega, by have := hv.q.lt; omega, by have := hv.r.lt; omega, hv.ts.bel.size⟩
  rw [rowF_congr (g := fun _ => 0) (fun k _ => by simp)]
  exact (blk1 wr _).2

theorem HW.below {c : Nat} (hv : HW w wr b P Q R N n D f g h c) (hb : Below wr.heap.size wr wx) : HW w wx b P Q R N n D f g h c :=
  ⟨hv.ts.below hb, hv.p.below hb, hv.q.below hb, hv.r.below hb, hv.m.below hb, hv.pn, hv.qn, hv.rn, hv.wn⟩

/-- a call of the table -/
theorem HW.act {c : Nat} {D' : Tb} (hv : HW w wr b P Q R N n D f g h c) (ht : TS w wx (fun k => (k = P ∨ k = Q ∨ k = R) ∨ k = N) b D') (hk : ∀ k, ((k = P ∨ k = Q ∨ k = R) ∨ k = N) → wx.heap[k]? = wr.heap[k]?) : HW w wx b P Q R N n D' f g h c :=
  ⟨ht, (hk P (.inl (.inl rfl))).trans hv.p, (hk Q (.inl (.inr (.inl rfl)))).trans hv.q, (hk R (.inl (.inr (.inr rfl)))).trans hv.r, (hk N (.inr rfl)).trans hv.m, hv.pn, hv.qn, hv.rn, hv.wn⟩

theorem HW.num {c : Nat} (hv : HW w wr b P Q R N n D f g h c) (hc : c < n) : HW w (wr.setCell ⟨N, c, none⟩ (.int .i64 ((c : Int) + 1))) b P Q R N n D f g h (c + 1) :=
  ⟨hv.ts.put (.inr rfl) hv.wn _, hv.p.far hv.pn, hv.q.far hv.qn, hv.r.far hv.rn, by
    rw [← rowF_set (f := fun k => if k < c then (k : Int) + 1 else 0) (v := (c : Int) + 1) hc (fun k _ hk => by
      by_cases e : k < c
      · simp [e, show k < c + 1 by omega]
      · simp [e, show ¬ k < c + 1 by omega]) (by simp)]
    exact hv.m.set, hv.pn, hv.qn, hv.rn, hv.wn⟩

end

theorem add_field (a : Addr) (n k : Nat) (hk : 0 < k) : (⟨(a.add n).block, (a.add n).off + k, none⟩ : Addr) = a.add (n + k) := by
  unfold Addr.add
  by_cases h : n = 0
  · rw [if_pos h, if_neg (by omega), h, Nat.zero_add]
  · rw [if_neg h, if_neg (by omega)]
    simp only [Nat.add_assoc]

/-- a lease of the argument in the memory -/
theorem one_cells {w : World} {A : Option Addr} {L : List OneI} (HA : onesAt w A L) {ad : Addr} (hA : A = some ad) {m : Nat} (hm : m < L.length) {W : World} (hW : Below w.heap.size w W) :
    W.cell? (ad.add (m * 3)) = some (.int .i64 (L.getD m default).gap) ∧ W.cell? ⟨(ad.add (m * 3)).block, (ad.add (m * 3)).off + 1, none⟩ = some (.int .i64 (L.getD m default).ts) ∧ W.cell? ⟨(ad.add (m * 3)).block, (ad.add (m * 3)).off + 2, none⟩ = some (.int .i64 (L.getD m default).kept) := by
  obtain ⟨ad', e1, _, hc⟩ := (HA.below hW) (by omega)
  rw [hA] at e1
  obtain rfl := Option.some.inj e1
  obtain ⟨x0, x1, x2⟩ := hc m hm
  have e2 : L.getD m default = L[m] := by rw [List.getD_eq_getElem?_getD, List.getElem?_eq_getElem hm]; rfl
  rw [e2, add_field _ _ _ (by omega), add_field _ _ _ (by omega)]
  exact ⟨x0, x1, x2⟩

/-- what the law's table and rows are at the beginning of a tick's round -/
def RoundI (w wr : World) (b P Q R N n a : Nat) (L : List OneI) (now i : Nat) : Prop := ∃ (c : Nat) (D : Tb), Cnt (tkN L) n now i c ∧ D.long = (a : Int) ∧ Sim D (fun k => (stN L k : Int)) (uu a (tkN L) (enN L) now i) c now ∧ HW w wr b P Q R N n D (fun k => (tkN L k : Int)) (fun k => (enN L k : Int)) (fun k => (stN L k : Int)) c

theorem RoundI.tick {w wr : World} {b P Q R N n a : Nat} {L : List OneI} {now : Nat} (h : RoundI w wr b P Q R N n a L now n) : RoundI w wr b P Q R N n a L (now + 1) 0 := by
  obtain ⟨c, D, h1, h2, h3, h4⟩ := h
  refine ⟨c, D, h1.tick, h2, ?_, h4⟩
  have e : ((now + 1 : Nat) : Int) = (now : Int) + 1 := by omega
  rw [e]
  exact (h3.other (fun k hk => uu_tick _ _ _ _ _ _ (by have := h1.le; omega))).later (by omega)

set_option maxRecDepth 20000 in
set_option maxHeartbeats 32000000 in
theorem hold_walk (x : Int) (v : Value) (L : List OneI) (z : Int) (w : World) (hv : onesOf w v L) : Calls Try.prog 4 #[.int .i64 x, v, .int .i64 z] w fun e w' => e = .returned (.bool true) ∧ Below w.heap.size w w' := by
  obtain ⟨A0, c0, rfl, hat0, hl16, -⟩ := hv
  have pl0 : (L.length : Int) ≤ 9223372036854775806 := by unfold reachBytes at hl16; omega
  obtain ⟨a, ha⟩ : ∃ a, a = amongV x 8 := ⟨_, rfl⟩
  obtain ⟨t, ht⟩ : ∃ t, t = amongV z 50 := ⟨_, rfl⟩
  have ha9 : a < 8 := ha ▸ amongV_lt x 8 (by omega)
  have ht9 : t < 50 := ht ▸ amongV_lt z 50 (by omega)
  have HA := Lib.hid (fun W => among_any x 8 W (by omega) (by omega))
  have HT := Lib.hid (fun W => among_any z 50 W (by omega) (by omega))
  rw [← ha] at HA
  rw [← ht] at HT
  have HAt := Lib.hid hat0
  have HW := Lib.hid (works_any w)
  obtain ⟨n, hn⟩ : ∃ n, n = min L.length 20 := ⟨_, rfl⟩
  have hmin : Hid ((if 20 < (L.length : Int) then 20 else (L.length : Int)) = (n : Int)) := Lib.hid (by split <;> omega)
  have hn20 : n ≤ 20 := by omega
  have hnL : n ≤ L.length := by omega
  have HMk := Lib.hid (fun V => make_ints n hn20 V)
  have p1 : (a : Int) < 8 := by omega
  have p3 : (t : Int) < 50 := by omega
  have p4 : (0 : Int) ≤ (a : Int) := by omega
  have p6 : (0 : Int) ≤ (t : Int) := by omega
  clear ha ht hat0 hl16 hn
  go_enter Try.func4, Try.ntmps4
  go_wp2_with fail
  refine HW.out.mono ?_
  rintro e w1 ⟨rfl, hb⟩
  have HB1 := Lib.hid hb
  clear hb HW
  go_wp2_with fail
  refine (HA.out _).mono ?_
  rintro e w2 ⟨rfl, e2⟩
  subst e2
  go_wp2_with fail
  refine (HT.out _).mono ?_
  rintro e w2 ⟨rfl, e2⟩
  subst e2
  go_wp2_with fail
  refine (snew (long := (a : Int)) (by omega) HB1.out).mono ?_
  rintro e w3 ⟨b, rfl, h3⟩
  have H3 : Hid (TS w w3 (fun _ => False) b ⟨(a : Int), 0, []⟩) := Lib.hid h3
  clear h3 HB1 HA HT
  go_upto_region 7 with fail
  go_upto_region 8 with fail
  rw [hmin.out]
  clear hmin
  go_cut [10, 11, 12] (fun s10 s11 s12 wx => ∃ P Q R : Nat, s10 = .slice (some ⟨P, 0, none⟩) n n ∧ s11 = .slice (some ⟨Q, 0, none⟩) n n ∧ s12 = .slice (some ⟨R, 0, none⟩) n n ∧ Hid (HV w wx b P Q R n ⟨(a : Int), 0, []⟩ (fun _ => 0) (fun _ => 0) (fun _ => 0)))
  case first =>
    have hmk := HMk.out
    have hz : ∀ (V : World) (o : Obj), (V.alloc o).heap.size = V.heap.size + 1 := fun V o => by simp
    have HV3 : Hid (∀ P Q R : Nat, (P = w3.heap.size ∨ P = w3.heap.size + 1 ∨ P = w3.heap.size + 1 + 1) → (Q = w3.heap.size ∨ Q = w3.heap.size + 1 ∨ Q = w3.heap.size + 1 + 1) → (R = w3.heap.size ∨ R = w3.heap.size + 1 ∨ R = w3.heap.size + 1 + 1) → P ≠ Q → P ≠ R → Q ≠ R → HV w (((w3.alloc (.cells (rowF n (fun _ => 0)).toArray 3)).alloc (.cells (rowF n (fun _ => 0)).toArray 3)).alloc (.cells (rowF n (fun _ => 0)).toArray 3)).drew b P Q R n ⟨(a : Int), 0, []⟩ (fun _ => 0) (fun _ => 0) (fun _ => 0)) := Lib.hid (fun P Q R h1 h2 h3 h4 h5 h6 => by
      have hd := H3.out
      have ht := ((hd.beside (o := (.cells (rowF n (fun _ => 0)).toArray 3)) rfl).beside (o := (.cells (rowF n (fun _ => 0)).toArray 3)) rfl).beside (o := (.cells (rowF n (fun _ => 0)).toArray 3)) rfl
      obtain ⟨_, b1, b2, b3⟩ := blk3 w3 (.cells (rowF n (fun _ => 0)).toArray 3) (.cells (rowF n (fun _ => 0)).toArray 3) (.cells (rowF n (fun _ => 0)).toArray 3)
      have hcel : ∀ X : Nat, (X = w3.heap.size ∨ X = w3.heap.size + 1 ∨ X = w3.heap.size + 1 + 1) → Cel (((w3.alloc (.cells (rowF n (fun _ => 0)).toArray 3)).alloc (.cells (rowF n (fun _ => 0)).toArray 3)).alloc (.cells (rowF n (fun _ => 0)).toArray 3)) X 3 (rowF n (fun _ => 0)) := fun X hX => by
        rcases hX with rfl | rfl | rfl
        · exact b1
        · exact b2
        · exact b3
      have hw := hd.bel.size
      simp only [hz] at ht
      have hv : HV w (((w3.alloc (.cells (rowF n (fun _ => 0)).toArray 3)).alloc (.cells (rowF n (fun _ => 0)).toArray 3)).alloc (.cells (rowF n (fun _ => 0)).toArray 3)) b P Q R n ⟨(a : Int), 0, []⟩ (fun _ => 0) (fun _ => 0) (fun _ => 0) := ⟨ht.aside (fun q hq => by rcases hq with rfl | rfl | rfl <;> omega), hcel P h1, hcel Q h2, hcel R h3, h4, h5, h6, by omega, by omega, by omega⟩
      exact hv.below (Below.refl _ _).drew)
    go_region
    all_goals
      go_wp2_with fail
      go_meet
      exact ⟨_, _, _, rfl, rfl, rfl, Lib.hid (HV3.out _ _ _ (by omega) (by omega) (by omega) (by omega) (by omega) (by omega))⟩
  case rest =>
    obtain ⟨P, Q, R, rfl, rfl, rfl, HV0⟩ := hcut
    clear H3
    go_wp2_with fail
    go_loopw [13, 52] (fun av iv wr => ∃ j : Nat, j ≤ n ∧ iv = .int .i64 (j : Int) ∧ av = .int .i64 (atN L j : Int) ∧ Hid (HV w wr b P Q R n ⟨(a : Int), 0, []⟩ (fun k => if k < j then (tkN L k : Int) else 0) (fun k => if k < j then (enN L k : Int) else 0) (fun k => if k < j then (stN L k : Int) else 0))) (fun _ iv _ => n - (intOf iv).toNat)
    case atStart => exact ⟨0, by omega, rfl, rfl, by simpa using HV0⟩
    case round =>
      obtain ⟨j, hj, rfl, rfl, hv⟩ := hrel
      clear HV0
      by_cases hlt : j < n
      · have q1 : (j : Int) < (n : Int) := by omega
        have q2 : (j : Int) < (L.length : Int) := by omega
        have hA0 : ∃ ad, A0 = some ad := by obtain ⟨ad, h1, _⟩ := HAt.out (by omega); exact ⟨ad, h1⟩
        obtain ⟨ad, had⟩ := hA0
        have HCl := Lib.hid (fun V (hV : Below wr.heap.size wr V) => one_cells HAt.out had (m := j) (by omega) (hv.out.ts.bel.trans (hV.mono hv.out.ts.bel.size)))
        obtain ⟨x0, x1, x2⟩ := HCl.out wr (Below.refl _ _)
        have hat : atN L (j + 1) = atN L j + amongV (L.getD j default).gap 5 := rfl
        have htk : tkN L j = atN L j + amongV (L.getD j default).gap 5 := rfl
        have hen : enN L j = atN L j + amongV (L.getD j default).gap 5 + amongV (L.getD j default).kept 9 := rfl
        have hst : stN L j = amongV (L.getD j default).ts 50 := rfl
        have hle := atN_le L j
        have HE := Lib.hid (And.intro hat (And.intro htk (And.intro hen hst)))
        have f1 := fun k => hv.out.p.free (i := k)
        have g1 := hv.out.p.cell (rowF_at hlt)
        have HA5 := Lib.hid (fun V => among_any (L.getD j default).gap 5 V (by omega) (by omega))
        have HA9 := Lib.hid (fun V => among_any (L.getD j default).kept 9 V (by omega) (by omega))
        have HA50 := Lib.hid (fun V => among_any (L.getD j default).ts 50 V (by omega) (by omega))
        obtain ⟨X, hX⟩ : ∃ X, L.getD j default = X := ⟨_, rfl⟩
        have HX := Lib.hid hX
        rw [hX] at x0 x1 x2 HE HA5 HA9 HA50 HCl hat htk hen hst
        have r5 := amongV_lt X.gap 5 (by omega)
        have r9 := amongV_lt X.kept 9 (by omega)
        obtain ⟨u5, hu5⟩ : ∃ u5, amongV X.gap 5 = u5 := ⟨_, rfl⟩
        obtain ⟨u9, hu9⟩ : ∃ u9, amongV X.kept 9 = u9 := ⟨_, rfl⟩
        obtain ⟨u50, hu50⟩ : ∃ u50, amongV X.ts 50 = u50 := ⟨_, rfl⟩
        rw [hu5] at HE HA5 r5
        rw [hu9] at HE HA9 r9
        rw [hu50] at HE HA50
        obtain ⟨aj, haj⟩ : ∃ aj, atN L j = aj := ⟨_, rfl⟩
        rw [haj] at HE hle ⊢
        subst had
        clear hat htk hen hst hu5 hu9 hu50 haj hX
        have q3 : (aj : Int) ≤ 80 := by omega
        have q4 : (u5 : Int) < 5 := by omega
        have q5 : (u9 : Int) < 9 := by omega
        have hvp := hv.out.setP hlt (f' := fun k => if k < j + 1 then (tkN L k : Int) else 0) (v := (aj : Int) + (u5 : Int)) (fun k hk hn => by
          by_cases e : k < j
          · simp [e, show k < j + 1 by omega]
          · simp [e, show ¬ k < j + 1 by omega]) (by simp only [Nat.lt_succ_self, if_true]; rw [HE.out.2.1]; omega)
        have HVP := Lib.hid hvp
        clear hv hvp
        go_upto_region 15 with ((refine (HA5.out _).mono ?_; rintro e w5 ⟨rfl, e2⟩; subst e2))
        generalize hW1 : w5.setCell ⟨P, j, none⟩ (.int .i64 ((aj : Int) + (u5 : Int))) = W1 at HVP ⊢
        have hb1 : Below w.heap.size w W1 := HVP.out.ts.bel
        have HC1 := Lib.hid (fun V (hV : Below W1.heap.size W1 V) => one_cells HAt.out rfl (m := j) (by omega) (hb1.trans (hV.mono hb1.size)))
        rw [HX.out] at HC1
        obtain ⟨y0, y1, y2⟩ := HC1.out W1 (Below.refl _ _)
        have g2 := HVP.out.q.cell (rowF_at hlt)
        have f2 := fun k => HVP.out.q.free (i := k)
        have hvq := HVP.out.setQ hlt (g' := fun k => if k < j + 1 then (enN L k : Int) else 0) (v := (aj : Int) + (u5 : Int) + (u9 : Int)) (fun k hk hn => by
          by_cases e : k < j
          · simp [e, show k < j + 1 by omega]
          · simp [e, show ¬ k < j + 1 by omega]) (by simp only [Nat.lt_succ_self, if_true]; rw [HE.out.2.2.1]; omega)
        have HVQ := Lib.hid hvq
        have hb2 : Below w.heap.size w (W1.setCell ⟨Q, j, none⟩ (.int .i64 ((aj : Int) + (u5 : Int) + (u9 : Int)))) := hvq.ts.bel
        have HC2 := Lib.hid (one_cells HAt.out rfl (m := j) (by omega) hb2)
        rw [HX.out] at HC2
        clear x0 x1 x2 f1 g1 hvq HVP hW1 HCl
        go_upto_region 16 with ((refine (HA9.out _).mono ?_; rintro e w6 ⟨rfl, e2⟩; subst e2))
        obtain ⟨z0, z1, z2⟩ := HC2.out
        generalize hW2 : w6.setCell ⟨Q, j, none⟩ (.int .i64 ((aj : Int) + (u5 : Int) + (u9 : Int))) = W2 at *
        have g3 := HVQ.out.r.cell (rowF_at hlt)
        have f3 := fun k => HVQ.out.r.free (i := k)
        have hvr := HVQ.out.setR hlt (h' := fun k => if k < j + 1 then (stN L k : Int) else 0) (v := (u50 : Int)) (fun k hk hn => by
          by_cases e : k < j
          · simp [e, show k < j + 1 by omega]
          · simp [e, show ¬ k < j + 1 by omega]) (by simp only [Nat.lt_succ_self, if_true]; rw [HE.out.2.2.2])
        have HVR := Lib.hid hvr
        clear y0 y1 y2 f2 g2 hvr HVQ hW2 HC2 HC1 hb1 hb2
        go_wp2_with fail
        refine (HA50.out _).mono ?_
        rintro e w7 ⟨rfl, e2⟩
        subst e2
        go_wp2_with fail
        go_roundw
        case rel => exact ⟨j + 1, by omega, by go_num, by rw [HE.out.1]; go_num, HVR⟩
        case measure => simp [intOf]; omega
      · obtain rfl : j = n := by omega
        have hv2 : HV w wr b P Q R j ⟨(a : Int), 0, []⟩ (fun k => (tkN L k : Int)) (fun k => (enN L k : Int)) (fun k => (stN L k : Int)) := by
          obtain ⟨v1, v2, v3, v4, v5, v6, v7, v8, v9, v10⟩ := hv.out
          have e1 := rowF_congr (n := j) (f := fun k => if k < j then (tkN L k : Int) else 0) (g := fun k => (tkN L k : Int)) (fun k hk => if_pos hk)
          have e2 := rowF_congr (n := j) (f := fun k => if k < j then (enN L k : Int) else 0) (g := fun k => (enN L k : Int)) (fun k hk => if_pos hk)
          have e3 := rowF_congr (n := j) (f := fun k => if k < j then (stN L k : Int) else 0) (g := fun k => (stN L k : Int)) (fun k hk => if_pos hk)
          rw [e1] at v2
          rw [e2] at v3
          rw [e3] at v4
          exact ⟨v1, v2, v3, v4, v5, v6, v7, v8, v9, v10⟩
        have HM := Lib.hid hv2.more
        have hmk := HMk.out
        clear hv hv2 hlt hj
        go_upto_region 19 with fail
        clear hmk HMk
        generalize hN : wr.heap.size = N at HM ⊢
        generalize wr.alloc (.cells (rowF j (fun _ => 0)).toArray 3) = W3 at HM ⊢
        have HR0 : Hid (RoundI w W3 b P Q R N j a L 0 0) := Lib.hid ⟨0, _, Cnt.start _, rfl, ⟨HM.out.ts.ok, rfl, rfl⟩, HM.out⟩
        have hle := atN_le L j
        have q3 : (atN L j : Int) ≤ 80 := by omega
        obtain ⟨an, han⟩ : ∃ an, atN L j = an := ⟨_, rfl⟩
        rw [han] at q3 ⊢
        clear hN HM hle han
        go_wp2_with fail
        go_loopw [16] (fun nv wr => ∃ now : Nat, now ≤ an + 21 ∧ nv = .int .i64 (now : Int) ∧ Hid (RoundI w wr b P Q R N j a L now 0)) (fun nv _ => an + 21 - (intOf nv).toNat)
        case atStart => exact ⟨0, by omega, rfl, HR0⟩
        case round =>
          obtain ⟨now, hnow, rfl, hri⟩ := hrel
          clear HR0
          have q6 : (now : Int) ≤ 101 := by omega
          by_cases hnl : now < an + 21
          · have q7 : (now : Int) ≤ (an : Int) + 20 := by omega
            have HN1 : Hid (okT (now : Int)) := Lib.hid ⟨by omega, by omega⟩
            go_wp2_with fail
            go_loopw [98] (fun iv wx => ∃ i : Nat, i ≤ j ∧ iv = .int .i64 (i : Int) ∧ Hid (RoundI w wx b P Q R N j a L now i)) (fun iv _ => j - (intOf iv).toNat)
            case atStart => exact ⟨0, by omega, rfl, hri⟩
            case round =>
              obtain ⟨i, hi, rfl, hrx⟩ := hrel
              clear hri
              obtain ⟨c, D, hc, hlong, hsim, hw⟩ := hrx.out
              by_cases hlt : i < j
              · have r1 : (i : Int) < (j : Int) := by omega
                have x0 := hw.p.cell (rowF_at hlt)
                have x1 := hw.q.cell (rowF_at hlt)
                have x2 := hw.r.cell (rowF_at hlt)
                have x3 := hw.m.cell (rowF_at hlt)
                have f3 := fun k => hw.m.free (i := k)
                have hTE : tkN L i ≤ enN L i := Nat.le_add_right _ _
                have hs50 : stN L i < 50 := amongV_lt _ 50 (by omega)
                have hoS : okS (stN L i : Int) := ⟨by omega, by omega⟩
                have hcj := hc.le
                by_cases hT : tkN L i = now
                · obtain ⟨rfl, hc2⟩ := hc.at_i hlt (fun p q h1 _ => atN_mono L (p + 1) (q + 1) (by omega)) hT
                  obtain ⟨D', ht1, ht2, ht3⟩ := hsim.take (U' := uu a (tkN L) (enN L) now (c + 1)) HN1.out hoS (by omega) (fun k hk => uu_other (by omega)) (by rw [hlong]; exact uu_taken hT (by omega))
                  have hst := stake hw.ts (by rw [hsim.many]; omega) (now : Int) (stN L c : Int)
                  rw [ht1] at hst
                  have HSt := Lib.hid hst
                  have HW0 := Lib.hid hw
                  have HS3 := Lib.hid (And.intro hc2 (And.intro (ht2.trans hlong) ht3))
                  rw [hT] at x0
                  generalize stN L c = sc at x2 HSt
                  clear hrx hc hlong hsim hw x1 x3 f3 hTE hs50 hoS hcj hT hc2 ht1 ht2 ht3 hst hi
                  go_wp2_with fail
                  refine HSt.out.mono ?_
                  rintro e w5 ⟨rfl, ht, hk⟩
                  have HW5 := Lib.hid (HW0.out.act ht hk)
                  have x3 := HW5.out.m.cell (rowF_at hlt)
                  have f3 := fun k => HW5.out.m.free (i := k)
                  have HW6 := Lib.hid (HW5.out.num hlt)
                  clear ht hk HSt HW0 x0 x2 HW5
                  go_wp2_with fail
                  go_roundw
                  case rel => exact ⟨c + 1, by omega, by go_num, Lib.hid ⟨c + 1, D', HS3.out.1, HS3.out.2.1, HS3.out.2.2, HW6.out⟩⟩
                  case measure => simp [intOf]; omega
                · by_cases hk : tkN L i < now ∧ now ≤ enN L i ∧ 0 < a
                  · obtain ⟨h1, h2, h3⟩ := hk
                    have hic := hc.below hlt h1
                    obtain ⟨k1, k2⟩ := uu_kept (long := (a : Int)) (T := tkN L) (E := enN L) (now := now) (i := i) (by omega) h2
                    obtain ⟨D', ht1, ht2, ht3⟩ := hsim.keep (U' := uu a (tkN L) (enN L) now (i + 1)) HN1.out hic k1 (fun k _ hk => uu_other hk) (by rw [hlong]; exact k2)
                    have hst := skeep hw.ts (now : Int) ((i : Int) + 1)
                    rw [ht1] at hst
                    have HSt := Lib.hid hst
                    have HW0 := Lib.hid hw
                    have HS3 := Lib.hid (And.intro (hc.skip hT) (And.intro (ht2.trans hlong) ht3))
                    have y0 : ((now : Int) == (tkN L i : Int)) = false := by rw [beq_eq_false_iff_ne]; omega
                    have y1 : (tkN L i : Int) < (now : Int) := by omega
                    have y2 : (now : Int) ≤ (enN L i : Int) := by omega
                    have y3 : (0 : Int) < (a : Int) := by omega
                    simp only [if_pos hic] at x3
                    generalize tkN L i = Ti at x0 y0 y1
                    generalize enN L i = Ei at x1 y2
                    clear hrx hc hlong hsim hw x2 f3 hTE hs50 hoS hcj hT ht1 ht2 ht3 hst hi h1 h2 h3 k1 k2 hic p4
                    go_wp2_with fail
                    refine HSt.out.mono ?_
                    rintro e w5 ⟨rfl, ht, hk⟩
                    have HW5 := Lib.hid (HW0.out.act ht hk)
                    clear ht hk HSt HW0 x0 x1 x3
                    go_wp2_with fail
                    go_roundw
                    case rel => exact ⟨i + 1, by omega, by go_num, Lib.hid ⟨c, D', HS3.out.1, HS3.out.2.1, HS3.out.2.2, HW5.out⟩⟩
                    case measure => simp [intOf]; omega
                  · have hs2 : Sim D (fun k => (stN L k : Int)) (uu a (tkN L) (enN L) now (i + 1)) c now := hsim.other (fun k hkc => by
                      by_cases e : k = i
                      · subst e
                        refine uu_past ?_
                        have := hc.old k hkc
                        omega
                      · exact uu_other e)
                    have HR9 : Hid (RoundI w wr b P Q R N j a L now (i + 1)) := Lib.hid ⟨c, D, hc.skip hT, hlong, hs2, hw⟩
                    have y0 : ((now : Int) == (tkN L i : Int)) = false := by rw [beq_eq_false_iff_ne]; omega
                    by_cases h1 : tkN L i < now
                    · have y1 : (tkN L i : Int) < (now : Int) := by omega
                      by_cases h2 : now ≤ enN L i
                      · have y2 : (now : Int) ≤ (enN L i : Int) := by omega
                        have y3 : (a : Int) ≤ 0 := by omega
                        generalize tkN L i = Ti at x0 y0 y1
                        generalize enN L i = Ei at x1 y2
                        clear hrx hc hlong hsim hw x2 x3 f3 hTE hs50 hoS hcj hT hi h1 h2 hk hs2 p4
                        go_wp2_with fail
                        go_roundw
                        case rel => exact ⟨i + 1, by omega, by go_num, HR9⟩
                        case measure => simp [intOf]; omega
                      · have y2 : (enN L i : Int) < (now : Int) := by omega
                        generalize tkN L i = Ti at x0 y0 y1
                        generalize enN L i = Ei at x1 y2
                        clear hrx hc hlong hsim hw x2 x3 f3 hTE hs50 hoS hcj hT hi h1 h2 hk hs2
                        go_wp2_with fail
                        go_roundw
                        case rel => exact ⟨i + 1, by omega, by go_num, HR9⟩
                        case measure => simp [intOf]; omega
                    · have y1 : (now : Int) ≤ (tkN L i : Int) := by omega
                      generalize tkN L i = Ti at x0 y0 y1
                      clear hrx hc hlong hsim hw x1 x2 x3 f3 hTE hs50 hoS hcj hT hi h1 hk hs2
                      go_wp2_with fail
                      go_roundw
                      case rel => exact ⟨i + 1, by omega, by go_num, HR9⟩
                      case measure => simp [intOf]; omega
              · obtain rfl : i = j := by omega
                have HRt := Lib.hid hrx.out.tick
                have HWn := Lib.hid (fun q hq => wn_is (s := fun k => (stN L k : Int)) (E := enN L) (long := (a : Int)) (last := 50 + (t : Int)) hc (by omega) q hq)
                have hlo := slow hw.ts (now : Int) (50 + (t : Int))
                rw [hsim.low HN1.out (last := 50 + (t : Int)) ⟨by omega, by omega⟩] at hlo
                have hwn := HWn.out i (Nat.le_refl _)
                rw [Nat.min_eq_right hc.le] at hwn
                rw [← hwn] at hlo
                have HLo := Lib.hid hlo
                have HW0 := Lib.hid hw
                clear hrx hc hlong hsim hw hlo hwn hlt hi HWn
                obtain ⟨wo, rfl⟩ : ∃ wo, wo = wr := ⟨_, rfl⟩
                go_wp2_with fail
                go_loopw [17, 149] (fun mv iv wy => ∃ q : Nat, q ≤ i ∧ iv = .int .i64 (q : Int) ∧ mv = .int .i64 (wn (fun k => (stN L k : Int)) (a : Int) (tkN L) (enN L) now (50 + (t : Int)) q) ∧ wy = wo) (fun _ iv _ => i - (intOf iv).toNat)
                case atStart => exact ⟨0, by omega, rfl, rfl, rfl⟩
                case round =>
                  obtain ⟨q, hq, rfl, rfl, rfl⟩ := hrel
                  by_cases hlt : q < i
                  · have r1 : (q : Int) < (i : Int) := by omega
                    have x0 := HW0.out.p.cell (rowF_at hlt)
                    have x1 := HW0.out.q.cell (rowF_at hlt)
                    have x2 := HW0.out.r.cell (rowF_at hlt)
                    have hTE : enN L q ≤ 100 := by
                      have h1 := atN_le L (q + 1)
                      have h2 := amongV_lt (L.getD q default).kept 9 (by omega)
                      show atN L (q + 1) + _ ≤ 100
                      omega
                    have hws : wn (fun k => (stN L k : Int)) (a : Int) (tkN L) (enN L) now (50 + (t : Int)) (q + 1) = if tkN L q ≤ now ∧ (now : Int) ≤ (if (a : Int) = 0 then (tkN L q : Int) else (enN L q : Int) + (a : Int)) then min (wn (fun k => (stN L k : Int)) (a : Int) (tkN L) (enN L) now (50 + (t : Int)) q) (stN L q : Int) else wn (fun k => (stN L k : Int)) (a : Int) (tkN L) (enN L) now (50 + (t : Int)) q := rfl
                    obtain ⟨mq, hmq⟩ : ∃ mq, wn (fun k => (stN L k : Int)) (a : Int) (tkN L) (enN L) now (50 + (t : Int)) q = mq := ⟨_, rfl⟩
                    rw [hmq] at hws ⊢
                    generalize tkN L q = Tq at x0 hws
                    generalize enN L q = Eq at x1 hws hTE
                    generalize stN L q = sq at x2 hws
                    by_cases ha0 : a = 0
                    · have y0 : ((a : Int) == 0) = true := by rw [beq_iff_eq]; omega
                      rw [if_pos (show (a : Int) = 0 by omega)] at hws
                      by_cases h1 : Tq ≤ now
                      · have y1 : (Tq : Int) ≤ (now : Int) := by omega
                        by_cases h2 : now ≤ Tq
                        · have y2 : (now : Int) ≤ (Tq : Int) := by omega
                          rw [if_pos ⟨h1, y2⟩] at hws
                          have HWs := Lib.hid hws
                          clear hws h1 h2 hmq ha0
                          go_wp2_with fail
                          all_goals
                            go_roundw
                            case rel => exact ⟨q + 1, by omega, by go_num, by rw [HWs.out, Int.min_def]; congr 1; split <;> split <;> omega, by first | rfl | trivial⟩
                            case measure => simp [intOf]; omega
                        · have y2 : (Tq : Int) < (now : Int) := by omega
                          rw [if_neg (fun h => by omega)] at hws
                          have HWs := Lib.hid hws
                          clear hws h1 h2 hmq ha0
                          go_wp2_with fail
                          go_roundw
                          case rel => exact ⟨q + 1, by omega, by go_num, by rw [HWs.out], by first | rfl | trivial⟩
                          case measure => simp [intOf]; omega
                      · have y1 : (now : Int) < (Tq : Int) := by omega
                        rw [if_neg (fun h => by omega)] at hws
                        have HWs := Lib.hid hws
                        clear hws h1 hmq ha0
                        go_wp2_with fail
                        go_roundw
                        case rel => exact ⟨q + 1, by omega, by go_num, by rw [HWs.out], by first | rfl | trivial⟩
                        case measure => simp [intOf]; omega
                    · have y0 : ((a : Int) == 0) = false := by rw [beq_eq_false_iff_ne]; omega
                      rw [if_neg (show ¬ (a : Int) = 0 by omega)] at hws
                      have q9 : (Eq : Int) ≤ 100 := by omega
                      by_cases h1 : Tq ≤ now
                      · have y1 : (Tq : Int) ≤ (now : Int) := by omega
                        by_cases h2 : (now : Int) ≤ (Eq : Int) + (a : Int)
                        · rw [if_pos ⟨h1, h2⟩] at hws
                          have HWs := Lib.hid hws
                          clear hws h1 hmq ha0 hTE
                          go_wp2_with fail
                          all_goals
                            go_roundw
                            case rel => exact ⟨q + 1, by omega, by go_num, by rw [HWs.out, Int.min_def]; congr 1; split <;> split <;> omega, by first | rfl | trivial⟩
                            case measure => simp [intOf]; omega
                        · have y2 : (Eq : Int) + (a : Int) < (now : Int) := by omega
                          rw [if_neg (fun h => h2 h.2)] at hws
                          have HWs := Lib.hid hws
                          clear hws h1 h2 hmq ha0 hTE
                          go_wp2_with fail
                          go_roundw
                          case rel => exact ⟨q + 1, by omega, by go_num, by rw [HWs.out], by first | rfl | trivial⟩
                          case measure => simp [intOf]; omega
                      · have y1 : (now : Int) < (Tq : Int) := by omega
                        rw [if_neg (fun h => by omega)] at hws
                        have HWs := Lib.hid hws
                        clear hws h1 hmq ha0 hTE
                        go_wp2_with fail
                        go_roundw
                        case rel => exact ⟨q + 1, by omega, by go_num, by rw [HWs.out], by first | rfl | trivial⟩
                        case measure => simp [intOf]; omega
                  · obtain rfl : q = i := by omega
                    generalize wn (fun k => (stN L k : Int)) (a : Int) (tkN L) (enN L) now (50 + (t : Int)) q = mm at HLo ⊢
                    clear hlt hq
                    go_wp2_with fail
                    refine HLo.out.mono ?_
                    rintro e w9 ⟨rfl, hb9⟩
                    have HR9 : Hid (RoundI w w9 b P Q R N q a L (now + 1) 0) := Lib.hid (by
                      obtain ⟨c', D', g1, g2, g3, g4⟩ := HRt.out
                      exact ⟨c', D', g1, g2, g3, g4.below hb9⟩)
                    clear hb9 HLo HRt
                    go_wp2_with fail
                    go_roundw
                    case rel => exact ⟨now + 1, by omega, by go_num, HR9⟩
                    case measure => simp [intOf]; omega
          · have q7 : (an : Int) + 20 < (now : Int) := by omega
            obtain ⟨c, D, _, _, _, hw⟩ := hri.out
            have HB := Lib.hid hw.ts.bel
            clear hw hri hnl
            go_wp2_with fail
            go_ret
            exact ⟨rfl, HB.out⟩

end Ll
end Go.Proofs.Ytlhcaankfhdakaa
