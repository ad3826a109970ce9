/- What is asked of the landed package pack; the example, whether packs are the same, and the laws Reads and Numbers over it. -/
import Derived.Test.YtklbahagcdfccaaPkDec
namespace Go.Proofs.Ytklbahagcdfccaa
namespace Pk
open Go.RowKit Bk

attribute [local go_sem ↓] Go.wp_at_zero Go.wp_at_succ
attribute [local go_sem] floatUpon pick

/-- what a pack as an argument is -/
structure ArgOk (c d : Nat) (ns : List Int) (ts : List ByteArray) : Prop where
  n8 : ns.length * 8 ≤ 140737488351232
  t16 : ts.length * 16 ≤ 140737488351232
  nr : ∀ n ∈ ns, -9223372036854775808 ≤ n ∧ n ≤ 9223372036854775807
  tr : ∀ t ∈ ts, t.size ≤ 140737488351232
  nc : ns.length ≤ c
  tc : ts.length ≤ d
  c63 : c ≤ maxLen
  d63 : d ≤ maxLen

theorem ArgOk.range {c d : Nat} {ns : List Int} {ts : List ByteArray} (h : ArgOk c d ns ts) : InRange ns ts :=
  ⟨by have := h.n8; omega, by have := h.t16; omega, h.nr, fun t ht => by have := h.tr t ht; omega⟩

/-- what is asked of pack.Check -/
def CheckAll : Prop := ∀ (A B : Option Addr) (c d : Nat) (ns : List Int) (ts : List ByteArray) (w : World), IntsAt w A ns → StrsAt w B ts → ArgOk c d ns ts →
  Calls Try.prog 14 #[packV A B c d ns ts] w fun e w' => e = .returned (.int .i64 (ckE ns ts : Int)) ∧ Below w.heap.size w w'

/-- what is asked of pack.Encode -/
def EncodeAll : Prop := ∀ (A B : Option Addr) (c d : Nat) (ns : List Int) (ts : List ByteArray) (w : World), IntsAt w A ns → StrsAt w B ts → ArgOk c d ns ts →
  Calls Try.prog 10 #[packV A B c d ns ts] w fun e w' => e = .returned (encV ns ts) ∧ Below w.heap.size w w'

/-- what is asked of pack.Number -/
def NumberAll : Prop := ∀ (z : Int) (w : World), -9223372036854775808 ≤ z ∧ z ≤ 9223372036854775807 →
  Calls Try.prog 12 #[.int .i64 z] w fun e w' => e = .returned (numV z) ∧ Below w.heap.size w w'

/-- what the landed Decode answers: as the document's, and the lists fit their slices -/
def DecAns2 (s : ByteArray) (w : World) : Ending → World → Prop := fun e w' =>
  ∃ (A B : Option Addr) (c d : Nat), e = .returned (.tuple #[packV A B c d (decR s).1 (decR s).2.1, .int .i64 ((decR s).2.2.1 : Int), .int .i64 ((decR s).2.2.2 : Int)]) ∧ IntsAt w' A (decR s).1 ∧ StrsAt w' B (decR s).2.1 ∧ Below w.heap.size w w' ∧
    (decR s).1.length ≤ c ∧ (decR s).2.1.length ≤ d ∧ c ≤ maxLen ∧ d ≤ maxLen

/-- what is asked of pack.Decode -/
def DecodeAll : Prop := ∀ (s : ByteArray) (w : World), s.size ≤ 1000000000000000 → Calls Try.prog 19 #[.string s] w (DecAns2 s w)

theorem example_bytes : bytesL [1, -1, 300] [⟨#[97, 98]⟩] = [3, 2, 1, 216, 4, 1, 2, 97, 98] := by
  have h1 : plain 3 = [3] := plain_small (by omega)
  have h2 : signed 1 = [2] := plain_small (by show zig 1 < 128; decide)
  have h3 : signed (-1) = [1] := plain_small (by show zig (-1) < 128; decide)
  have h4 : signed 300 = [216, 4] := by
    show plain 600 = _
    rw [plain_big (by omega), plain_small (by omega)]; rfl
  have h5 : plain 1 = [1] := plain_small (by omega)
  have h6 : plain 2 = [2] := plain_small (by omega)
  show plain 3 ++ ((signed 1 ++ (signed (-1) ++ (signed 300 ++ []))) ++ (plain 1 ++ ((plain 2 ++ [97, 98]) ++ []))) = _
  rw [h1, h2, h3, h4, h5, h6]; rfl

theorem example_maybe : MayBe [1, -1, 300] [⟨#[97, 98]⟩] := ⟨by decide, by decide, by decide, by
  intro t ht
  rw [List.mem_singleton] at ht
  subst ht; decide⟩

set_option maxRecDepth 20000 in
set_option maxHeartbeats 1000000 in
theorem pkworks (HE : EncodeAll) (w : World) : Calls Try.prog 18 #[] w fun e w' => e = .returned (.bool true) ∧ Below w.heap.size w w' := by
  obtain ⟨s2, b1, b2⟩ := blk2 w (.cells #[.int .i64 1, .int .i64 (-1), .int .i64 300] 3) (.cells #[.string ⟨#[97, 98]⟩] 9)
  have hB : Below w.heap.size w ((w.alloc (.cells #[.int .i64 1, .int .i64 (-1), .int .i64 300] 3)).alloc (.cells #[.string ⟨#[97, 98]⟩] 9)) :=
    ((Below.refl _ w).alloc (Nat.le_refl _) _).alloc (by simp) _
  have h1 := HE (some ⟨w.heap.size, 0, none⟩) (some ⟨w.heap.size + 1, 0, none⟩) 3 1 [1, -1, 300] [⟨#[97, 98]⟩] _ (IntsAt.blk b1) (StrsAt.blk b2)
    ⟨by decide, by decide, by decide, (by intro t ht; rw [List.mem_singleton] at ht; subst ht; decide), by decide, by decide, by unfold maxLen; omega, by unfold maxLen; omega⟩
  rw [encV_ok example_maybe, example_bytes] at h1
  unfold packV at h1
  have H1 := Lib.hid h1
  have HB := Lib.hid hB
  clear h1 hB s2 b1 b2 HE
  go_enter Try.func18, Try.ntmps18
  go_wp2_with fail
  refine H1.out.mono ?_
  rintro e w1 ⟨rfl, hb⟩
  have HB2 := Lib.hid (HB.out.trans (hb.mono HB.out.size))
  clear hb H1
  go_wp2_with fail
  go_ret
  exact ⟨rfl, HB2.out⟩

set_option maxRecDepth 20000 in
set_option maxHeartbeats 1000000 in
theorem same2_any (A B A' B' : Option Addr) (c d c' d' : Nat) (a a' : List Int) (b b' : List ByteArray) (w : World) (h1 : IntsAt w A a) (h2 : StrsAt w B b) (h3 : IntsAt w A' a') (h4 : StrsAt w B' b') (n1 : a.length ≤ 9223372036854775807) (n2 : b.length ≤ 9223372036854775807) :
    Calls Try.prog 16 #[packV A B c d a b, packV A' B' c' d' a' b'] w fun e w' => e = .returned (.bool (decide (a = a' ∧ b = b'))) ∧ Below w.heap.size w w' := by
  unfold packV
  obtain ⟨s2, b1, b2⟩ := blk2 w (.cells #[.slice A a.length c, .slice B b.length d] 25) (.cells #[.slice A' a'.length c', .slice B' b'.length d'] 25)
  have hB : Below w.heap.size w ((w.alloc (.cells #[.slice A a.length c, .slice B b.length d] 25)).alloc (.cells #[.slice A' a'.length c', .slice B' b'.length d'] 25)) :=
    ((Below.refl _ w).alloc (Nat.le_refl _) _).alloc (by simp) _
  have HI := Lib.hid (sameInts_any A A' c c' a a' _ (h1.below hB) (h3.below hB) n1)
  have HS := Lib.hid (fun n => same_any B B' d d' b b' _ ((h2.below hB).drewN n) ((h4.below hB).drewN n) n2)
  have HB := Lib.hid hB
  have C1 : Cel _ _ _ [_, _] := b1
  have C2 : Cel _ _ _ [_, _] := b2
  have k0 := C1.cell (i := 0) rfl
  have k1 := C1.cell (i := 1) rfl
  have k2 := C2.cell (i := 0) rfl
  have k3 := C2.cell (i := 1) rfl
  have E : Hid (decide (a = a' ∧ b = b') = (decide (a = a') && decide (b = b'))) := Lib.hid (by by_cases ha : a = a' <;> by_cases hb : b = b' <;> simp [ha, hb])
  clear hB s2 b1 b2 h1 h2 h3 h4 C1 C2
  go_enter Try.func16, Try.ntmps16
  go_upto_region 1 with fail
  generalize ((w.alloc (.cells #[.slice A a.length c, .slice B b.length d] 25)).alloc (.cells #[.slice A' a'.length c', .slice B' b'.length d'] 25)) = W1 at *
  go_wp2_with fail
  refine HI.out.mono ?_
  rintro e w1 ⟨rfl, n, rfl⟩
  have k1' : (W1.drewN n).cell? ⟨w.heap.size, 1, none⟩ = some (.slice B b.length d) := k1
  have k3' : (W1.drewN n).cell? ⟨w.heap.size + 1, 1, none⟩ = some (.slice B' b'.length d') := k3
  clear HI k0 k1 k2 k3
  by_cases ha : a = a'
  · rw [show decide (a = a') = true by simpa using ha]
    rw [show decide (a = a') = true by simpa using ha, Bool.true_and] at E
    clear ha
    go_wp2_with fail
    refine (HS.out _).mono ?_
    rintro e w2 ⟨rfl, n2, rfl⟩
    go_wp2_with fail
    go_ret
    exact ⟨by rw [E.out]; rfl, below_drewN HB.out _⟩
  · rw [show decide (a = a') = false by simpa using ha]
    rw [show decide (a = a') = false by simpa using ha, Bool.false_and] at E
    clear ha
    go_wp2_with fail
    go_ret
    exact ⟨by rw [E.out]; rfl, below_drewN HB.out _⟩

theorem same_self (A B A' B' : Option Addr) (c d c' d' : Nat) (a : List Int) (b : List ByteArray) (w : World) (h1 : IntsAt w A a) (h2 : StrsAt w B b) (h3 : IntsAt w A' a) (h4 : StrsAt w B' b) (n1 : a.length ≤ 9223372036854775807) (n2 : b.length ≤ 9223372036854775807) :
    Calls Try.prog 16 #[packV A B c d a b, packV A' B' c' d' a b] w fun e w' => e = .returned (.bool true) ∧ Below w.heap.size w w' := by
  have h := same2_any A B A' B' c d c' d' a a b b w h1 h2 h3 h4 n1 n2
  rwa [show decide (a = a ∧ b = b) = true by simp] at h

/-- how long the lists of a decoding are -/
theorem decR_len (s : ByteArray) : (decR s).1.length ≤ 1024 ∧ (decR s).2.1.length ≤ 1024 := by
  unfold decR
  cases h : decL s.data.toList with
  | error e => exact ⟨by simp, by simp⟩
  | ok x =>
    obtain ⟨ns, ts⟩ := x
    have := (decL_ok h).1
    exact ⟨this.1, this.2.1⟩

set_option maxRecDepth 20000 in
set_option maxHeartbeats 1000000 in
theorem reads_walk (HE : EncodeAll) (HD : DecodeAll) (s : ByteArray) (hreach : s.size ≤ reachBytes) (w : World) :
    Calls Try.prog 4 #[.string s] w fun e w' => e = .returned (.bool true) ∧ Below w.heap.size w w' := by
  have hs : s.size ≤ 1000000000000000 := by unfold reachBytes at hreach; omega
  obtain ⟨hl1, hl2⟩ := decR_len s
  have H1 := Lib.hid (fun W => HD s W hs)
  have H2 := Lib.hid (fun W => decode_any s W hs)
  have HW := Lib.hid (pkworks HE)
  have HSm := Lib.hid (fun A B A' B' c d c' d' w (h1 : IntsAt w A (decR s).1) (h2 : StrsAt w B (decR s).2.1) (h3 : IntsAt w A' (decR s).1) (h4 : StrsAt w B' (decR s).2.1) => same_self A B A' B' c d c' d' (decR s).1 (decR s).2.1 w h1 h2 h3 h4 (by omega) (by omega))
  clear HE HD hreach hs hl1 hl2
  unfold DecAns2 at H1
  unfold DecAns at H2
  unfold packV at H1 H2 HSm
  generalize (decR s).1 = ns at *
  generalize (decR s).2.1 = ts at *
  generalize (decR s).2.2.1 = x at *
  generalize (decR s).2.2.2 = y at *
  go_enter Try.func4, Try.ntmps4
  go_wp2_with fail
  refine (H1.out _).mono ?_
  rintro e w1 ⟨A, B, c, d, rfl, hi1, hs1, hb, -⟩
  have HB := Lib.hid (hb.alloc hb.size (.cells #[.slice A ns.length c, .slice B ts.length d] 25))
  have HI1 := Lib.hid (hi1.alloc (.cells #[.slice A ns.length c, .slice B ts.length d] 25))
  have HS1 := Lib.hid (hs1.alloc (.cells #[.slice A ns.length c, .slice B ts.length d] 25))
  have HC1 : Hid (Cel (w1.alloc (.cells #[.slice A ns.length c, .slice B ts.length d] 25)) w1.heap.size 25 [.slice A ns.length c, .slice B ts.length d]) := Lib.hid (blk1 w1 _).2
  clear hb hi1 hs1 H1
  go_wp2_with fail
  generalize w1.alloc (.cells #[.slice A ns.length c, .slice B ts.length d] 25) = W1 at *
  refine (H2.out _).mono ?_
  rintro e w2 ⟨A', B', c', d', rfl, hi2, hs2, hb⟩
  have hb2 := HB.out.trans (hb.mono HB.out.size)
  have hal : Below w2.heap.size w2 (w2.alloc (.cells #[.slice A' ns.length c', .slice B' ts.length d'] 25)) := (Below.refl _ _).alloc (Nat.le_refl _) _
  have HB2 := Lib.hid (hb2.alloc hb2.size (.cells #[.slice A' ns.length c', .slice B' ts.length d'] 25))
  have HSa := Lib.hid (HSm.out A B A' B' c d c' d' _ ((HI1.out.below hb).below hal) ((HS1.out.below hb).below hal) (hi2.below hal) (hs2.below hal))
  have k0 := ((HC1.out.below hb).below hal).cell (i := 0) rfl
  have k1 := ((HC1.out.below hb).below hal).cell (i := 1) rfl
  clear hb hi2 hs2 H2 HB HI1 HS1 HSm hb2 hal HC1
  go_wp2_with fail
  refine HSa.out.mono ?_
  rintro e w3 ⟨rfl, hb⟩
  have HB3 := Lib.hid (HB2.out.trans (hb.mono HB2.out.size))
  clear hb HB2 HSa
  go_wp2_with fail
  refine (HW.out _).mono ?_
  rintro e w4 ⟨rfl, hb⟩
  have HB4 := Lib.hid (HB3.out.trans (hb.mono HB3.out.size))
  clear hb HB3
  go_wp2_with fail
  go_ret
  exact ⟨rfl, HB4.out⟩

theorem numV_ok {z : Int} (h : numOk z) : numV z = .tuple #[.string ⟨(signed z).toArray⟩, .int .i64 0] := by unfold numV; rw [if_pos h]

theorem half_ok {a : Int} (h : -9223372036854775808 ≤ a ∧ a ≤ 9223372036854775807) : numOk (a / 2) := by
  unfold numOk; omega

set_option maxRecDepth 20000 in
set_option maxHeartbeats 2000000 in
theorem numbers_same (HE : EncodeAll) (HN : NumberAll) (a b : Int) (ha : -9223372036854775808 ≤ a ∧ a ≤ 9223372036854775807) (_hb : -9223372036854775808 ≤ b ∧ b ≤ 9223372036854775807) (heq : b / 2 = a / 2) (w : World) :
    Calls Try.prog 7 #[.int .i64 a, .int .i64 b] w fun e w' => e = .returned (.bool true) ∧ Below w.heap.size w w' := by
  have HW := Lib.hid (pkworks HE)
  have oka := half_ok ha
  have N1 := fun W => HN (a / 2) W (by unfold numOk at oka; omega)
  rw [numV_ok oka] at N1
  have z1 := signed_len oka
  rw [← cat_size (signed (a / 2))] at z1
  have ra : -4611686018427387904 ≤ a / 2 ∧ a / 2 ≤ 4611686018427387903 := oka
  clear HE HN oka
  generalize (⟨(signed (a / 2)).toArray⟩ : ByteArray) = X at *
  have HN1 := Lib.hid N1
  have zx1 : (1 : Int) ≤ (X.size : Int) := by omega
  have zx2 : (X.size : Int) ≤ 9 := by omega
  have t1 := text_eq X
  have t2 : (a / 2 == a / 2) = true := by simp
  clear N1 z1
  by_cases h0 : 0 ≤ a / 2
  · clear ha
    go_enter Try.func7, Try.ntmps7
    go_wp2_with fail
    refine (HW.out _).mono ?_
    rintro e w1 ⟨rfl, hb⟩
    have HB := Lib.hid hb
    clear hb
    go_wp2_with fail
    refine (HN1.out _).mono ?_
    rintro e w2 ⟨rfl, hb⟩
    have HB2 := Lib.hid (HB.out.trans (hb.mono HB.out.size))
    clear hb HB
    go_wp2_with fail
    refine (HN1.out _).mono ?_
    rintro e w3 ⟨rfl, hb⟩
    have HB3 := Lib.hid (HB2.out.trans (hb.mono HB2.out.size))
    clear hb HB2
    go_wp2_with fail
    go_ret
    exact ⟨rfl, HB3.out⟩
  · have hneg : a / 2 < 0 := by omega
    clear h0 ha
    go_enter Try.func7, Try.ntmps7
    go_wp2_with fail
    refine (HW.out _).mono ?_
    rintro e w1 ⟨rfl, hb⟩
    have HB := Lib.hid hb
    clear hb
    go_wp2_with fail
    refine (HN1.out _).mono ?_
    rintro e w2 ⟨rfl, hb⟩
    have HB2 := Lib.hid (HB.out.trans (hb.mono HB.out.size))
    clear hb HB
    go_wp2_with fail
    refine (HN1.out _).mono ?_
    rintro e w3 ⟨rfl, hb⟩
    have HB3 := Lib.hid (HB2.out.trans (hb.mono HB2.out.size))
    clear hb HB2
    go_wp2_with fail
    go_ret
    exact ⟨rfl, HB3.out⟩

set_option maxRecDepth 20000 in
set_option maxHeartbeats 2000000 in
theorem numbers_unlike (HE : EncodeAll) (HN : NumberAll) (a b : Int) (ha : -9223372036854775808 ≤ a ∧ a ≤ 9223372036854775807) (hb : -9223372036854775808 ≤ b ∧ b ≤ 9223372036854775807) (hab : ¬ a / 2 = b / 2) (w : World) :
    Calls Try.prog 7 #[.int .i64 a, .int .i64 b] w fun e w' => e = .returned (.bool true) ∧ Below w.heap.size w w' := by
  have HW := Lib.hid (pkworks HE)
  have oka := half_ok ha
  have okb := half_ok hb
  have N1 := fun W => HN (a / 2) W (by unfold numOk at oka; omega)
  have N2 := fun W => HN (b / 2) W (by unfold numOk at okb; omega)
  rw [numV_ok oka] at N1
  rw [numV_ok okb] at N2
  have z1 := signed_len oka
  have z2 := signed_len okb
  have e1 := cat_size (signed (a / 2))
  have e2 := cat_size (signed (b / 2))
  have hinj : a / 2 = b / 2 ∨ ((⟨(signed (a / 2)).toArray⟩ : ByteArray) ≠ ⟨(signed (b / 2)).toArray⟩) := by
    by_cases h : a / 2 = b / 2
    · exact .inl h
    · refine .inr fun e => h (signed_inj oka okb ?_)
      have := congrArg (fun x : ByteArray => x.data.toList) e
      simpa using this
  have hmono : 0 ≤ a / 2 → a / 2 ≤ b / 2 → (signed (a / 2)).length ≤ (signed (b / 2)).length := fun h0 h => plain_mono _ _ (zig_mono h0 h)
  have ra : -4611686018427387904 ≤ a / 2 ∧ a / 2 ≤ 4611686018427387903 := oka
  have rb : -4611686018427387904 ≤ b / 2 ∧ b / 2 ≤ 4611686018427387903 := okb
  rw [← e1] at z1 hmono
  rw [← e2] at z2 hmono
  clear HE HN oka okb e1 e2
  generalize (⟨(signed (a / 2)).toArray⟩ : ByteArray) = X at *
  have HN1 := Lib.hid N1
  have HX : Hid (X = X) := Lib.hid rfl
  generalize hY : (⟨(signed (b / 2)).toArray⟩ : ByteArray) = Y at *
  have HN2 := Lib.hid N2
  have zx1 : (1 : Int) ≤ (X.size : Int) := by omega
  have zx2 : (X.size : Int) ≤ 9 := by omega
  have zy1 : (1 : Int) ≤ (Y.size : Int) := by omega
  have zy2 : (Y.size : Int) ≤ 9 := by omega
  clear N1 N2 z1 z2 HX hY
  have HH := True.intro
  by_cases heq : a / 2 = b / 2
  · exact absurd heq hab
  · have hne := hinj.resolve_left heq
    have t1 := text_ne hne
    have t2 : (a / 2 == b / 2) = false := by simpa using heq
    clear hne hinj heq
    by_cases h0 : 0 ≤ a / 2
    · by_cases hle : a / 2 ≤ b / 2
      · have hl := hmono h0 hle
        have hli : (X.size : Int) ≤ (Y.size : Int) := by omega
        clear hl
        clear hmono HH ha hb
        go_enter Try.func7, Try.ntmps7
        go_wp2_with fail
        refine (HW.out _).mono ?_
        rintro e w1 ⟨rfl, hb⟩
        have HB := Lib.hid hb
        clear hb
        go_wp2_with fail
        refine (HN1.out _).mono ?_
        rintro e w2 ⟨rfl, hb⟩
        have HB2 := Lib.hid (HB.out.trans (hb.mono HB.out.size))
        clear hb HB
        go_wp2_with fail
        refine (HN2.out _).mono ?_
        rintro e w3 ⟨rfl, hb⟩
        have HB3 := Lib.hid (HB2.out.trans (hb.mono HB2.out.size))
        clear hb HB2
        go_wp2_with fail
        go_ret
        exact ⟨rfl, HB3.out⟩
      · have hgt : b / 2 < a / 2 := by omega
        clear hle
        clear hmono HH ha hb
        go_enter Try.func7, Try.ntmps7
        go_wp2_with fail
        refine (HW.out _).mono ?_
        rintro e w1 ⟨rfl, hb⟩
        have HB := Lib.hid hb
        clear hb
        go_wp2_with fail
        refine (HN1.out _).mono ?_
        rintro e w2 ⟨rfl, hb⟩
        have HB2 := Lib.hid (HB.out.trans (hb.mono HB.out.size))
        clear hb HB
        go_wp2_with fail
        refine (HN2.out _).mono ?_
        rintro e w3 ⟨rfl, hb⟩
        have HB3 := Lib.hid (HB2.out.trans (hb.mono HB2.out.size))
        clear hb HB2
        go_wp2_with fail
        go_ret
        exact ⟨rfl, HB3.out⟩
    · have hneg : a / 2 < 0 := by omega
      · clear h0
        clear hmono HH ha hb
        go_enter Try.func7, Try.ntmps7
        go_wp2_with fail
        refine (HW.out _).mono ?_
        rintro e w1 ⟨rfl, hb⟩
        have HB := Lib.hid hb
        clear hb
        go_wp2_with fail
        refine (HN1.out _).mono ?_
        rintro e w2 ⟨rfl, hb⟩
        have HB2 := Lib.hid (HB.out.trans (hb.mono HB.out.size))
        clear hb HB
        go_wp2_with fail
        refine (HN2.out _).mono ?_
        rintro e w3 ⟨rfl, hb⟩
        have HB3 := Lib.hid (HB2.out.trans (hb.mono HB2.out.size))
        clear hb HB2
        go_wp2_with fail
        go_ret
        exact ⟨rfl, HB3.out⟩

theorem numbers_walk (HE : EncodeAll) (HN : NumberAll) (a b : Int) (ha : -9223372036854775808 ≤ a ∧ a ≤ 9223372036854775807) (hb : -9223372036854775808 ≤ b ∧ b ≤ 9223372036854775807) (w : World) :
    Calls Try.prog 7 #[.int .i64 a, .int .i64 b] w fun e w' => e = .returned (.bool true) ∧ Below w.heap.size w w' := by
  by_cases h : a / 2 = b / 2
  · exact numbers_same HE HN a b ha hb h.symm w
  · exact numbers_unlike HE HN a b ha hb h w

end Pk
end Go.Proofs.Ytklbahagcdfccaa
