/- Parts of the proof, joined: PkMath, LtMath, LtRef, LtWrs, LtSame, BkOpen; their conditions stand with each. -/
import Derived.Test.YtjehjbkcdpidbaaGreatRows
import Derived.WalkKit
import Derived.ProofKit
import Derived.SizedLaws
import Derived.ChangeSlices
import Derived.SliceStrings
import Derived.Carry
import Derived.Lib.SmallJoins
import Derived.Test.YtjehjbkcdpidbaaGreatB0
import Derived.Test.YtjehjbkcdpidbaaGreatB1
import Derived.Test.YtjehjbkcdpidbaaGreatB4

/- Packs in plain lists: numbers in groups of seven bits, signed ones, a pack's bytes, what any bytes are as a pack; there and back; no condition. -/
namespace Go.Proofs.YtjehjbkcdpidbaaGreat
namespace Pk

/-! ### a number above nothing -/

def plain (n : Nat) : List UInt8 := if n < 128 then [UInt8.ofNat n] else UInt8.ofNat (n % 128 + 128) :: plain (n / 128)
termination_by n
decreasing_by omega

theorem plain_small {n : Nat} (h : n < 128) : plain n = [UInt8.ofNat n] := by rw [plain, if_pos h]
theorem plain_big {n : Nat} (h : 128 ≤ n) : plain n = UInt8.ofNat (n % 128 + 128) :: plain (n / 128) := by rw [plain, if_neg (by omega)]

theorem plain_pos (n : Nat) : 1 ≤ (plain n).length := by
  rw [plain]; split <;> simp

/-- .. is read: which, and how much of it; or where it fails -/
inductive Rd
  | ok (n used : Nat)
  | fin
  | form

def Rd.push (x : Nat) : Rd → Rd
  | .ok n u => .ok (x + 128 * n) (u + 1)
  | .fin => .fin
  | .form => .form

/-- at most k bytes more; i are read -/
def readK : Nat → Nat → List UInt8 → Rd
  | 0, _, _ => .form
  | _ + 1, _, [] => .fin
  | k + 1, i, b :: r => if b.toNat < 128 then (if b.toNat = 0 ∧ 0 < i then .form else .ok b.toNat 1) else (readK k (i + 1) r).push (b.toNat % 128)

def readR (L : List UInt8) : Rd := readK 9 0 L

theorem ofNat_toNat_lt {n : Nat} (h : n < 256) : (UInt8.ofNat n).toNat = n := UInt8.toNat_ofNat_of_lt' (by show n < 256; exact h)

theorem readK_plain : ∀ (k i n : Nat) (rest : List UInt8), n < 128 ^ k → (0 < i → 0 < n) → 1 ≤ k → readK k i (plain n ++ rest) = .ok n (plain n).length
  | 0, i, n, rest, h, hp, hk => absurd hk (by omega)
  | k + 1, i, n, rest, h, hp, _ => by
    by_cases hs : n < 128
    · rw [plain_small hs]
      show (if (UInt8.ofNat n).toNat < 128 then _ else _) = _
      rw [ofNat_toNat_lt (by omega), if_pos hs, if_neg (by omega)]; rfl
    · rw [plain_big (by omega)]
      show (if (UInt8.ofNat (n % 128 + 128)).toNat < 128 then _ else _) = _
      rw [ofNat_toNat_lt (by omega), if_neg (by omega)]
      have h2 : n / 128 < 128 ^ k := Nat.div_lt_of_lt_mul (by rw [Nat.pow_succ] at h; omega)
      have hk : 1 ≤ k := by
        rcases Nat.eq_zero_or_pos k with e | e
        · subst e; simp at h2; omega
        · exact e
      show (readK k (i + 1) (plain (n / 128) ++ rest)).push _ = _
      rw [readK_plain k (i + 1) (n / 128) rest h2 (fun _ => by omega) hk]
      show Rd.ok _ _ = Rd.ok _ _
      rw [List.length_cons, show (n % 128 + 128) % 128 + 128 * (n / 128) = n by omega]

theorem readK_ok : ∀ (k i : Nat) (L : List UInt8) {n u : Nat}, readK k i L = .ok n u → L = plain n ++ L.drop u ∧ u = (plain n).length ∧ n < 128 ^ k ∧ (0 < i → 0 < n)
  | 0, _, _, _, _, h => by simp [readK] at h
  | _ + 1, _, [], _, _, h => by simp [readK] at h
  | k + 1, i, b :: r, n, u, h => by
    have hb : b.toNat < 256 := b.toNat_lt
    rw [readK] at h
    split at h
    · next hs =>
      split at h
      · cases h
      · next hz =>
        simp only [Rd.ok.injEq] at h
        obtain ⟨rfl, rfl⟩ := h
        rw [plain_small hs]
        refine ⟨by simp, rfl, ?_, fun hi => by omega⟩
        have : 128 ^ 1 ≤ 128 ^ (k + 1) := Nat.pow_le_pow_right (by omega) (by omega)
        omega
    · next hs =>
      cases hr : readK k (i + 1) r with
      | fin => rw [hr] at h; simp [Rd.push] at h
      | form => rw [hr] at h; simp [Rd.push] at h
      | ok m v =>
        obtain ⟨e1, e2, e3, e4⟩ := readK_ok k (i + 1) r hr
        rw [hr] at h
        simp only [Rd.push, Rd.ok.injEq] at h
        obtain ⟨rfl, rfl⟩ := h
        have hm := e4 (by omega)
        have hp : plain (b.toNat % 128 + 128 * m) = b :: plain m := by
          rw [plain_big (by omega), show (b.toNat % 128 + 128 * m) / 128 = m by omega, show (b.toNat % 128 + 128 * m) % 128 + 128 = b.toNat by omega, UInt8.ofNat_toNat]
        rw [hp]
        refine ⟨?_, by rw [List.length_cons, e2], by rw [Nat.pow_succ]; omega, fun _ => by omega⟩
        rw [List.drop_succ_cons, List.cons_append, ← e1]

theorem readK_cut : ∀ (k i n j : Nat), n < 128 ^ k → 1 ≤ k → j < (plain n).length → readK k i ((plain n).take j) = .fin
  | 0, i, n, j, h, hk, hj => absurd hk (by omega)
  | k + 1, i, n, 0, h, _, hj => rfl
  | k + 1, i, n, j + 1, h, _, hj => by
    by_cases hs : n < 128
    · rw [plain_small hs] at hj; simp at hj
    · rw [plain_big (by omega)] at hj ⊢
      rw [List.length_cons] at hj
      have h2 : n / 128 < 128 ^ k := Nat.div_lt_of_lt_mul (by rw [Nat.pow_succ] at h; omega)
      have hk : 1 ≤ k := by
        rcases Nat.eq_zero_or_pos k with e | e
        · subst e; simp at h2; omega
        · exact e
      show (if (UInt8.ofNat (n % 128 + 128)).toNat < 128 then _ else _) = _
      rw [ofNat_toNat_lt (by omega), if_neg (by omega)]
      show (readK k (i + 1) ((plain (n / 128)).take j)).push _ = _
      rw [readK_cut k (i + 1) (n / 128) j h2 hk (by omega)]; rfl

theorem plain_len : ∀ (k n : Nat), n < 128 ^ k → 1 ≤ k → (plain n).length ≤ k
  | 0, _, _, h => absurd h (by omega)
  | k + 1, n, h, _ => by
    by_cases hs : n < 128
    · rw [plain_small hs]; simp
    · have h2 : n / 128 < 128 ^ k := Nat.div_lt_of_lt_mul (by rw [Nat.pow_succ] at h; omega)
      have hk : 1 ≤ k := by
        rcases Nat.eq_zero_or_pos k with e | e
        · subst e; simp at h2; omega
        · exact e
      have := plain_len k (n / 128) h2 hk
      rw [plain_big (by omega), List.length_cons]
      omega

theorem plain_mono : ∀ (n m : Nat), n ≤ m → (plain n).length ≤ (plain m).length
  | n, m, h => by
    by_cases hs : n < 128
    · rw [plain_small hs]; exact plain_pos m
    · have := plain_mono (n / 128) (m / 128) (Nat.div_le_div_right h)
      rw [plain_big (by omega), plain_big (show 128 ≤ m by omega), List.length_cons, List.length_cons]
      omega
termination_by n => n
decreasing_by omega

theorem plain_inj {n m : Nat} (hn : n < 128 ^ 9) (hm : m < 128 ^ 9) (h : plain n = plain m) : n = m := by
  have h1 := readK_plain 9 0 n [] hn (fun h => absurd h (by omega)) (by omega)
  have h2 := readK_plain 9 0 m [] hm (fun h => absurd h (by omega)) (by omega)
  rw [h, h2] at h1
  exact ((Rd.ok.inj h1).1).symm

/-! ### a signed one -/

def zig (z : Int) : Nat := if z < 0 then (-2 * z - 1).toNat else (2 * z).toNat
def unzig (n : Nat) : Int := if n % 2 = 1 then -((n / 2 : Nat) : Int) - 1 else ((n / 2 : Nat) : Int)

theorem unzig_zig (z : Int) : unzig (zig z) = z := by
  unfold unzig zig
  split <;> split <;> omega

theorem zig_unzig (n : Nat) : zig (unzig n) = n := by
  unfold unzig zig
  split <;> split <;> omega

/-- is it one of a pack's? -/
def numOk (z : Int) : Prop := -4611686018427387904 ≤ z ∧ z ≤ 4611686018427387903

instance (z : Int) : Decidable (numOk z) := inferInstanceAs (Decidable (_ ∧ _))

theorem zig_lt {z : Int} (h : numOk z) : zig z < 128 ^ 9 := by
  obtain ⟨h1, h2⟩ := h
  show zig z < 9223372036854775808
  unfold zig
  split <;> omega

theorem unzig_ok {n : Nat} (h : n < 128 ^ 9) : numOk (unzig n) := by
  have h' : n < 9223372036854775808 := h
  unfold unzig numOk
  split <;> omega

theorem zig_inj {a b : Int} (h : zig a = zig b) : a = b := by rw [← unzig_zig a, h, unzig_zig]

theorem zig_mono {a b : Int} (h0 : 0 ≤ a) (h : a ≤ b) : zig a ≤ zig b := by
  unfold zig
  rw [if_neg (by omega), if_neg (by omega)]
  omega

def signed (z : Int) : List UInt8 := plain (zig z)

theorem signed_len {z : Int} (h : numOk z) : 1 ≤ (signed z).length ∧ (signed z).length ≤ 9 := ⟨plain_pos _, plain_len 9 _ (zig_lt h) (by omega)⟩

theorem signed_inj {a b : Int} (ha : numOk a) (hb : numOk b) (h : signed a = signed b) : a = b := zig_inj (plain_inj (zig_lt ha) (zig_lt hb) h)

/-! ### a pack -/

def MayBe (ns : List Int) (ts : List ByteArray) : Prop := ns.length ≤ 1024 ∧ ts.length ≤ 1024 ∧ (∀ n ∈ ns, numOk n) ∧ ∀ t ∈ ts, t.size ≤ 4096

def textL (t : ByteArray) : List UInt8 := plain t.size ++ t.data.toList

def numsL (ns : List Int) : List UInt8 := ns.flatMap signed
def textsL (ts : List ByteArray) : List UInt8 := ts.flatMap textL

def bytesL (ns : List Int) (ts : List ByteArray) : List UInt8 := plain ns.length ++ (numsL ns ++ (plain ts.length ++ textsL ts))

/-- what is wrong: the bytes end; or here, with so many bytes left -/
inductive Er
  | fin
  | bad (left code : Nat)

def Er.place (n : Nat) : Er → Nat
  | .fin => n
  | .bad left _ => n - left

def Er.code : Er → Nat
  | .fin => 50
  | .bad _ c => c

def cnt (most : Nat) (L : List UInt8) : Except Er (Nat × List UInt8) :=
  match readR L with
  | .ok n u => if most < n then .error (.bad L.length 2) else .ok (n, L.drop u)
  | .fin => .error .fin
  | .form => .error (.bad L.length 3)

def numF (L : List UInt8) : Except Er (Nat × List UInt8) :=
  match readR L with
  | .ok n u => .ok (n, L.drop u)
  | .fin => .error .fin
  | .form => .error (.bad L.length 3)

def numsF : Nat → List UInt8 → Except Er (List Int × List UInt8)
  | 0, L => .ok ([], L)
  | k + 1, L => match numF L with
    | .error e => .error e
    | .ok (n, r) => match numsF k r with
      | .error e => .error e
      | .ok (ns, r2) => .ok (unzig n :: ns, r2)

def textF (L : List UInt8) : Except Er (ByteArray × List UInt8) :=
  match cnt 4096 L with
  | .error e => .error e
  | .ok (n, r) => if r.length < n then .error .fin else .ok (⟨(r.take n).toArray⟩, r.drop n)

def textsF : Nat → List UInt8 → Except Er (List ByteArray × List UInt8)
  | 0, L => .ok ([], L)
  | k + 1, L => match textF L with
    | .error e => .error e
    | .ok (t, r) => match textsF k r with
      | .error e => .error e
      | .ok (ts, r2) => .ok (t :: ts, r2)

def decL (L : List UInt8) : Except Er (List Int × List ByteArray) :=
  match cnt 1024 L with
  | .error e => .error e
  | .ok (k, r1) => match numsF k r1 with
    | .error e => .error e
    | .ok (ns, r2) => match cnt 1024 r2 with
      | .error e => .error e
      | .ok (m, r3) => match textsF m r3 with
        | .error e => .error e
        | .ok (ts, r4) => if r4 = [] then .ok (ns, ts) else .error (.bad r4.length 3)

/-! ### there -/

/-- f reads just A, as a; and nothing of what is shorter -/
structure Good {α : Type} (f : List UInt8 → Except Er (α × List UInt8)) (A : List UInt8) (a : α) : Prop where
  whole : ∀ rest, f (A ++ rest) = .ok (a, rest)
  cut : ∀ j, j < A.length → f (A.take j) = .error .fin

theorem Good.of_eq {α : Type} {f g : List UInt8 → Except Er (α × List UInt8)} {A : List UInt8} {a : α} (h : Good f A a) (e : ∀ L, g L = f L) : Good g A a :=
  ⟨fun rest => by rw [e]; exact h.whole rest, fun j hj => by rw [e]; exact h.cut j hj⟩

theorem Good.then {α β γ : Type} {f : List UInt8 → Except Er (α × List UInt8)} {g : α → List UInt8 → Except Er (β × List UInt8)} {h : α → β → γ} {A B : List UInt8} {a : α} {b : β} (hA : Good f A a) (hB : Good (g a) B b) :
    Good (fun L => match f L with | .error e => .error e | .ok (a, r) => match g a r with | .error e => .error e | .ok (b, r2) => .ok (h a b, r2)) (A ++ B) (h a b) := by
  refine ⟨fun rest => ?_, fun j hj => ?_⟩
  · rw [List.append_assoc]
    simp only [hA.whole, hB.whole]
  · by_cases hlt : j < A.length
    · rw [List.take_append_of_le_length (by omega)]
      simp only [hA.cut j hlt]
    · rw [List.length_append] at hj
      rw [List.take_append, List.take_of_length_le (by omega)]
      simp only [hA.whole, hB.cut (j - A.length) (by omega)]

theorem readR_plain {n : Nat} (rest : List UInt8) (h : n < 128 ^ 9) : readR (plain n ++ rest) = .ok n (plain n).length := readK_plain 9 0 n rest h (fun h => absurd h (by omega)) (by omega)

theorem readR_cut {n j : Nat} (h : n < 128 ^ 9) (hj : j < (plain n).length) : readR ((plain n).take j) = .fin := readK_cut 9 0 n j h (by omega) hj

theorem readR_ok {L : List UInt8} {n u : Nat} (h : readR L = .ok n u) : L = plain n ++ L.drop u ∧ u = (plain n).length ∧ n < 128 ^ 9 := by
  obtain ⟨h1, h2, h3, _⟩ := readK_ok 9 0 L h
  exact ⟨h1, h2, h3⟩

theorem cnt_good {most n : Nat} (h : n ≤ most) (h9 : n < 128 ^ 9) : Good (cnt most) (plain n) n := by
  refine ⟨fun rest => ?_, fun j hj => ?_⟩
  · unfold cnt
    rw [readR_plain rest h9]
    simp only [if_neg (show ¬ most < n by omega), List.drop_left]
  · unfold cnt
    rw [readR_cut h9 hj]

theorem numF_good {n : Nat} (h9 : n < 128 ^ 9) : Good numF (plain n) n := by
  refine ⟨fun rest => ?_, fun j hj => ?_⟩
  · unfold numF
    rw [readR_plain rest h9]
    simp only [List.drop_left]
  · unfold numF
    rw [readR_cut h9 hj]

theorem numsF_good : ∀ (ns : List Int), (∀ n ∈ ns, numOk n) → Good (numsF ns.length) (numsL ns) ns
  | [], _ => ⟨fun _ => rfl, fun j hj => absurd hj (by simp [numsL])⟩
  | z :: ns, h => by
    have hz := h z (List.mem_cons_self ..)
    have h1 := numF_good (zig_lt hz)
    have h2 := numsF_good ns (fun n hn => h n (List.mem_cons_of_mem _ hn))
    have h3 := Good.then (h := fun n (ns : List Int) => unzig n :: ns) h1 (g := fun _ => numsF ns.length) h2
    rw [unzig_zig] at h3
    refine h3.of_eq fun L => ?_
    rw [List.length_cons, numsF]
    cases numF L with
    | error e => rfl
    | ok x => obtain ⟨n, r⟩ := x; simp only; cases numsF ns.length r <;> rfl

theorem take_good {t : ByteArray} : Good (fun r => if r.length < t.size then Except.error Er.fin else .ok ((⟨(r.take t.size).toArray⟩ : ByteArray), r.drop t.size)) t.data.toList t := by
  have hl : t.data.toList.length = t.size := Array.length_toList
  refine ⟨fun rest => ?_, fun j hj => ?_⟩
  · rw [if_neg (by rw [List.length_append]; omega), ← hl, List.take_left, List.drop_left]
  · rw [if_pos (by rw [List.length_take]; omega)]

theorem textF_good {t : ByteArray} (h : t.size ≤ 4096) : Good textF (textL t) t := by
  have h1 := cnt_good (most := 4096) (n := t.size) h (by show _ < 9223372036854775808; omega)
  refine ⟨fun rest => ?_, fun j hj => ?_⟩
  · unfold textF textL
    rw [List.append_assoc, h1.whole]
    exact take_good.whole rest
  · unfold textF
    by_cases hlt : j < (plain t.size).length
    · unfold textL
      rw [List.take_append_of_le_length (by omega), h1.cut j hlt]
    · unfold textL at hj ⊢
      rw [List.length_append] at hj
      rw [List.take_append, List.take_of_length_le (by omega), h1.whole]
      exact take_good.cut (j - (plain t.size).length) (by omega)

theorem textsF_good : ∀ (ts : List ByteArray), (∀ t ∈ ts, t.size ≤ 4096) → Good (textsF ts.length) (textsL ts) ts
  | [], _ => ⟨fun _ => rfl, fun j hj => absurd hj (by simp [textsL])⟩
  | t :: ts, h => by
    have h1 := textF_good (h t (List.mem_cons_self ..))
    have h2 := textsF_good ts (fun n hn => h n (List.mem_cons_of_mem _ hn))
    have h3 := Good.then (h := fun t (ts : List ByteArray) => t :: ts) h1 (g := fun _ => textsF ts.length) h2
    refine h3.of_eq fun L => ?_
    rw [List.length_cons, textsF]
    cases textF L with
    | error e => rfl
    | ok x => obtain ⟨n, r⟩ := x; simp only; cases textsF ts.length r <;> rfl

theorem decL_bytes {ns : List Int} {ts : List ByteArray} (h : MayBe ns ts) (rest : List UInt8) : decL (bytesL ns ts ++ rest) = if rest = [] then .ok (ns, ts) else .error (.bad rest.length 3) := by
  obtain ⟨h1, h2, h3, h4⟩ := h
  unfold decL bytesL
  rw [List.append_assoc, (cnt_good h1 (by show _ < 9223372036854775808; omega)).whole]
  simp only
  rw [List.append_assoc, (numsF_good ns h3).whole]
  simp only
  rw [List.append_assoc, (cnt_good h2 (by show _ < 9223372036854775808; omega)).whole]
  simp only
  rw [(textsF_good ts h4).whole]

theorem decL_back {ns : List Int} {ts : List ByteArray} (h : MayBe ns ts) : decL (bytesL ns ts) = .ok (ns, ts) := by
  have := decL_bytes h []
  rwa [List.append_nil, if_pos rfl] at this

theorem decL_cut {ns : List Int} {ts : List ByteArray} (h : MayBe ns ts) {j : Nat} (hj : j < (bytesL ns ts).length) : decL ((bytesL ns ts).take j) = .error .fin := by
  obtain ⟨h1, h2, h3, h4⟩ := h
  have g1 := cnt_good (most := 1024) (n := ns.length) h1 (by show _ < 9223372036854775808; omega)
  have g2 := numsF_good ns h3
  have g3 := cnt_good (most := 1024) (n := ts.length) h2 (by show _ < 9223372036854775808; omega)
  have g4 := textsF_good ts h4
  unfold bytesL at hj ⊢
  unfold decL
  rw [List.length_append, List.length_append, List.length_append] at hj
  by_cases c1 : j < (plain ns.length).length
  · rw [List.take_append_of_le_length (by omega), g1.cut j c1]
  · rw [List.take_append, List.take_of_length_le (by omega), g1.whole]
    simp only
    by_cases c2 : j - (plain ns.length).length < (numsL ns).length
    · rw [List.take_append_of_le_length (by omega), g2.cut _ c2]
    · rw [List.take_append, List.take_of_length_le (by omega), g2.whole]
      simp only
      by_cases c3 : j - (plain ns.length).length - (numsL ns).length < (plain ts.length).length
      · rw [List.take_append_of_le_length (by omega), g3.cut _ c3]
      · rw [List.take_append, List.take_of_length_le (by omega), g3.whole]
        simp only
        rw [g4.cut _ (by omega)]

/-! ### and back -/

theorem cnt_ok {most n : Nat} {L r : List UInt8} (h : cnt most L = .ok (n, r)) : L = plain n ++ r ∧ n ≤ most ∧ n < 128 ^ 9 := by
  unfold cnt at h
  cases hr : readR L with
  | fin => rw [hr] at h; cases h
  | form => rw [hr] at h; cases h
  | ok m u =>
    obtain ⟨e1, _, e3⟩ := readR_ok hr
    rw [hr] at h
    simp only at h
    split at h
    · cases h
    · simp only [Except.ok.injEq, Prod.mk.injEq] at h
      obtain ⟨rfl, rfl⟩ := h
      exact ⟨e1, by omega, e3⟩

theorem numF_ok {n : Nat} {L r : List UInt8} (h : numF L = .ok (n, r)) : L = plain n ++ r ∧ n < 128 ^ 9 := by
  unfold numF at h
  cases hr : readR L with
  | fin => rw [hr] at h; cases h
  | form => rw [hr] at h; cases h
  | ok m u =>
    obtain ⟨e1, _, e3⟩ := readR_ok hr
    rw [hr] at h
    simp only [Except.ok.injEq, Prod.mk.injEq] at h
    obtain ⟨rfl, rfl⟩ := h
    exact ⟨e1, e3⟩

theorem numsF_ok : ∀ (k : Nat) {L r : List UInt8} {ns : List Int}, numsF k L = .ok (ns, r) → L = numsL ns ++ r ∧ ns.length = k ∧ ∀ n ∈ ns, numOk n
  | 0, L, r, ns, h => by
    simp only [numsF, Except.ok.injEq, Prod.mk.injEq] at h
    obtain ⟨rfl, rfl⟩ := h
    exact ⟨rfl, rfl, fun n hn => absurd hn (by simp)⟩
  | k + 1, L, r, ns, h => by
    rw [numsF] at h
    cases h1 : numF L with
    | error e => rw [h1] at h; cases h
    | ok x =>
      obtain ⟨n, r1⟩ := x
      obtain ⟨e1, e2⟩ := numF_ok h1
      rw [h1] at h
      simp only at h
      cases h2 : numsF k r1 with
      | error e => rw [h2] at h; cases h
      | ok y =>
        obtain ⟨ns', r2⟩ := y
        obtain ⟨f1, f2, f3⟩ := numsF_ok k h2
        rw [h2] at h
        simp only [Except.ok.injEq, Prod.mk.injEq] at h
        obtain ⟨rfl, rfl⟩ := h
        refine ⟨?_, by rw [List.length_cons, f2], fun z hz => ?_⟩
        · rw [e1, f1]
          show _ = (signed (unzig n) ++ numsL ns') ++ r2
          unfold signed
          rw [zig_unzig, List.append_assoc]
        · rcases List.mem_cons.1 hz with rfl | hz
          · exact unzig_ok e2
          · exact f3 z hz

theorem textF_ok {t : ByteArray} {L r : List UInt8} (h : textF L = .ok (t, r)) : L = textL t ++ r ∧ t.size ≤ 4096 := by
  unfold textF at h
  cases h1 : cnt 4096 L with
  | error e => rw [h1] at h; cases h
  | ok x =>
    obtain ⟨n, r1⟩ := x
    obtain ⟨e1, e2, _⟩ := cnt_ok h1
    rw [h1] at h
    simp only at h
    split at h
    · cases h
    · simp only [Except.ok.injEq, Prod.mk.injEq] at h
      obtain ⟨rfl, rfl⟩ := h
      have hz : (⟨(r1.take n).toArray⟩ : ByteArray).size = n := by
        show (r1.take n).toArray.size = n
        rw [List.size_toArray, List.length_take]; omega
      unfold textL
      rw [hz]
      refine ⟨?_, e2⟩
      rw [e1, List.append_assoc]
      congr 1
      exact (List.take_append_drop n r1).symm

theorem textsF_ok : ∀ (k : Nat) {L r : List UInt8} {ts : List ByteArray}, textsF k L = .ok (ts, r) → L = textsL ts ++ r ∧ ts.length = k ∧ ∀ t ∈ ts, t.size ≤ 4096
  | 0, L, r, ts, h => by
    simp only [textsF, Except.ok.injEq, Prod.mk.injEq] at h
    obtain ⟨rfl, rfl⟩ := h
    exact ⟨rfl, rfl, fun n hn => absurd hn (by simp)⟩
  | k + 1, L, r, ts, h => by
    rw [textsF] at h
    cases h1 : textF L with
    | error e => rw [h1] at h; cases h
    | ok x =>
      obtain ⟨t, r1⟩ := x
      obtain ⟨e1, e2⟩ := textF_ok h1
      rw [h1] at h
      simp only at h
      cases h2 : textsF k r1 with
      | error e => rw [h2] at h; cases h
      | ok y =>
        obtain ⟨ts', r2⟩ := y
        obtain ⟨f1, f2, f3⟩ := textsF_ok k h2
        rw [h2] at h
        simp only [Except.ok.injEq, Prod.mk.injEq] at h
        obtain ⟨rfl, rfl⟩ := h
        refine ⟨?_, by rw [List.length_cons, f2], fun z hz => ?_⟩
        · rw [e1, f1]
          show _ = (textL t ++ textsL ts') ++ r2
          rw [List.append_assoc]
        · rcases List.mem_cons.1 hz with rfl | hz
          · exact e2
          · exact f3 z hz

theorem decL_ok {L : List UInt8} {ns : List Int} {ts : List ByteArray} (h : decL L = .ok (ns, ts)) : MayBe ns ts ∧ L = bytesL ns ts := by
  unfold decL at h
  cases h1 : cnt 1024 L with
  | error e => rw [h1] at h; cases h
  | ok x =>
    obtain ⟨k, r1⟩ := x
    obtain ⟨a1, a2, _⟩ := cnt_ok h1
    rw [h1] at h
    simp only at h
    cases h2 : numsF k r1 with
    | error e => rw [h2] at h; cases h
    | ok x =>
      obtain ⟨ns', r2⟩ := x
      obtain ⟨b1, b2, b3⟩ := numsF_ok k h2
      rw [h2] at h
      simp only at h
      cases h3 : cnt 1024 r2 with
      | error e => rw [h3] at h; cases h
      | ok x =>
        obtain ⟨m, r3⟩ := x
        obtain ⟨c1, c2, _⟩ := cnt_ok h3
        rw [h3] at h
        simp only at h
        cases h4 : textsF m r3 with
        | error e => rw [h4] at h; cases h
        | ok x =>
          obtain ⟨ts', r4⟩ := x
          obtain ⟨d1, d2, d3⟩ := textsF_ok m h4
          rw [h4] at h
          simp only at h
          split at h
          · next hr =>
            simp only [Except.ok.injEq, Prod.mk.injEq] at h
            obtain ⟨rfl, rfl⟩ := h
            refine ⟨⟨by omega, by omega, b3, d3⟩, ?_⟩
            unfold bytesL
            rw [a1, b1, c1, d1, hr, List.append_nil, b2, d2]
          · cases h

/-! ### answers -/

/-- what Check answers -/
def ckE (ns : List Int) (ts : List ByteArray) : Nat :=
  if 1024 < ns.length ∨ 1024 < ts.length then 2 else if ¬ ∀ n ∈ ns, numOk n then 1 else if ¬ ∀ t ∈ ts, t.size ≤ 4096 then 2 else 0

theorem ckE_zero {ns : List Int} {ts : List ByteArray} : ckE ns ts = 0 ↔ MayBe ns ts := by
  unfold ckE MayBe
  constructor
  · intro h
    split at h
    · cases h
    · next h1 =>
      split at h
      · cases h
      · next h2 =>
        split at h
        · cases h
        · next h3 => exact ⟨by omega, by omega, Decidable.not_not.1 h2, Decidable.not_not.1 h3⟩
  · rintro ⟨h1, h2, h3, h4⟩
    rw [if_neg (by omega), if_neg (by simpa using h3), if_neg (by simpa using h4)]

/-- how long a pack's bytes may be -/
theorem numsL_le : ∀ (ns : List Int), (∀ n ∈ ns, numOk n) → (numsL ns).length ≤ 9 * ns.length
  | [], _ => by simp [numsL]
  | z :: ns, h => by
    have h1 := (signed_len (h z (List.mem_cons_self ..))).2
    have h2 := numsL_le ns (fun n hn => h n (List.mem_cons_of_mem _ hn))
    show (signed z ++ numsL ns).length ≤ _
    rw [List.length_append, List.length_cons]
    omega

theorem textL_le {t : ByteArray} (h : t.size ≤ 4096) : (textL t).length ≤ 4105 := by
  have h1 := plain_len 9 t.size (by show _ < 9223372036854775808; omega) (by omega)
  have h2 : t.data.toList.length = t.size := Array.length_toList
  unfold textL
  rw [List.length_append]
  omega

theorem textsL_le : ∀ (ts : List ByteArray), (∀ t ∈ ts, t.size ≤ 4096) → (textsL ts).length ≤ 4105 * ts.length
  | [], _ => by simp [textsL]
  | t :: ts, h => by
    have h1 := textL_le (h t (List.mem_cons_self ..))
    have h2 := textsL_le ts (fun n hn => h n (List.mem_cons_of_mem _ hn))
    show (textL t ++ textsL ts).length ≤ _
    rw [List.length_append, List.length_cons]
    omega

theorem bytesL_le {ns : List Int} {ts : List ByteArray} (h : MayBe ns ts) : (bytesL ns ts).length ≤ 5000000 := by
  obtain ⟨h1, h2, h3, h4⟩ := h
  have a1 := plain_len 9 ns.length (by show _ < 9223372036854775808; omega) (by omega)
  have a2 := plain_len 9 ts.length (by show _ < 9223372036854775808; omega) (by omega)
  have a3 := numsL_le ns h3
  have a4 := textsL_le ts h4
  unfold bytesL
  rw [List.length_append, List.length_append, List.length_append]
  omega

end Pk
end Go.Proofs.YtjehjbkcdpidbaaGreat

/- Letters in plain lists: keys that rise, what a letter may be, its numbers and texts; no condition. -/
namespace Go.Proofs.YtjehjbkcdpidbaaGreat
namespace Lt

def keyOk (s : ByteArray) : Prop := 1 ≤ s.size ∧ s.size ≤ 32
instance (s : ByteArray) : Decidable (keyOk s) := inferInstanceAs (Decidable (_ ∧ _))

/-- a is at most b, as Go compares texts -/
def leT (a b : ByteArray) : Bool := Op.bytesLess a.toList b.toList || a.toList == b.toList

/-- keys, each above the one ahead -/
def Rises (l : List ByteArray) : Prop := ∀ i (h : i < l.length), keyOk l[i] ∧ (0 < i → leT l[i] (l[i - 1]'(by omega)) = false)

theorem Rises.nil : Rises [] := fun i h => absurd h (by simp)

/-- how far the keys rise -/
def RisesTo (l : List ByteArray) (j : Nat) : Prop := ∀ i (h : i < l.length), i < j → keyOk l[i] ∧ (0 < i → leT l[i] (l[i - 1]'(by omega)) = false)

theorem RisesTo.zero (l : List ByteArray) : RisesTo l 0 := fun i _ hj => absurd hj (by omega)

theorem RisesTo.succ {l : List ByteArray} {j : Nat} (h : RisesTo l j) (hj : j < l.length) (hk : keyOk l[j]) (hr : 0 < j → leT l[j] (l[j - 1]'(by omega)) = false) : RisesTo l (j + 1) := fun i hi hij => by
  by_cases e : i = j
  · subst e; exact ⟨hk, hr⟩
  · exact h i hi (by omega)

theorem RisesTo.all {l : List ByteArray} (h : RisesTo l l.length) : Rises l := fun i hi => h i hi hi

theorem not_rises {l : List ByteArray} {j : Nat} (hj : j < l.length) (h : ¬ (keyOk l[j] ∧ (0 < j → leT l[j] (l[j - 1]'(by omega)) = false))) : ¬ Rises l := fun hr => h (hr j hj)

/-- a write -/
structure Wr where
  key : ByteArray
  shard : ByteArray
  dead : Bool

def wrOk (x : Wr) : Prop := x.shard.size ≤ 2052 ∧ ¬ (x.dead = true ∧ x.shard ≠ ⟨#[]⟩)

instance (x : Wr) : Decidable (wrOk x) := inferInstanceAs (Decidable (_ ∧ _))

def WritesOk (l : List Wr) : Prop := l.length ≤ 16 ∧ (∀ x ∈ l, wrOk x) ∧ Rises (l.map Wr.key)

def addr (n : Int) : Prop := (0 ≤ n ∧ n < 12) ∨ (100 ≤ n ∧ n < 116)
def txnOk (n : Int) : Prop := 1 ≤ n ∧ n ≤ 1125899906842623
def stampOk (n : Int) : Prop := 0 ≤ n ∧ n ≤ 1125899906842624

instance (n : Int) : Decidable (addr n) := inferInstanceAs (Decidable (_ ∨ _))
instance (n : Int) : Decidable (txnOk n) := inferInstanceAs (Decidable (_ ∧ _))
instance (n : Int) : Decidable (stampOk n) := inferInstanceAs (Decidable (_ ∧ _))

/-- a letter -/
structure Let where
  kind : Int
  src : Int
  dst : Int
  txn : Int
  ts : Int
  code : Int
  text : ByteArray
  keys : List ByteArray
  ws : List Wr

/-- what its kind lets it have -/
def kindOk (l : Let) : Prop :=
  (l.kind = 1 ∧ (l.keys.length = 1 ∧ (∀ k ∈ l.keys, keyOk k) ∧ l.ws = []) ∧ l.text = ⟨#[]⟩ ∧ l.code = 0) ∨
  (l.kind = 2 ∧ (l.keys.length = 1 ∧ (∀ k ∈ l.keys, keyOk k) ∧ l.ws = []) ∧ l.text.size ≤ 2052 ∧ (l.text = ⟨#[]⟩ ∨ l.code = 1)) ∨
  (l.kind = 3 ∧ l.keys.length ≤ 16 ∧ Rises l.keys ∧ WritesOk l.ws ∧ l.text = ⟨#[]⟩ ∧ l.code = 0) ∨
  (l.kind = 4 ∧ (l.keys = [] ∧ l.ws = [] ∧ l.text = ⟨#[]⟩) ∧ l.code ≤ 1) ∨
  ((l.kind = 5 ∨ l.kind = 6 ∨ l.kind = 7) ∧ (l.keys = [] ∧ l.ws = [] ∧ l.text = ⟨#[]⟩) ∧ l.code = 0) ∨
  (l.kind = 8 ∧ (l.keys = [] ∧ l.ws = [] ∧ l.text = ⟨#[]⟩) ∧ l.code ≤ 2)

def headOk (l : Let) : Prop := addr l.src ∧ addr l.dst ∧ txnOk l.txn ∧ stampOk l.ts ∧ 0 ≤ l.code ∧ l.code ≤ 4

def LetOk (l : Let) : Prop := headOk l ∧ kindOk l

/-- its numbers and texts -/
def numsOf (l : Let) : List Int := [l.kind, l.src, l.dst, l.txn, l.ts, l.code, (l.keys.length : Int)] ++ l.ws.map fun x => if x.dead then 1 else 0
def textsOf (l : Let) : List ByteArray := l.text :: (l.keys ++ l.ws.flatMap fun x => [x.key, x.shard])

def letL (l : Let) : List UInt8 := Pk.bytesL (numsOf l) (textsOf l)

theorem LetOk.bounds {l : Let} (h : LetOk l) : l.keys.length ≤ 16 ∧ l.ws.length ≤ 16 ∧ l.text.size ≤ 2052 ∧ (∀ k ∈ l.keys, keyOk k) ∧ (∀ x ∈ l.ws, keyOk x.key ∧ x.shard.size ≤ 2052) ∧ 1 ≤ l.kind ∧ l.kind ≤ 8 := by
  obtain ⟨_, h⟩ := h
  have e0 : (⟨#[]⟩ : ByteArray).size = 0 := rfl
  have rk : ∀ (m : List ByteArray), Rises m → ∀ k ∈ m, keyOk k := fun m hm k hk => by
    obtain ⟨i, hi, e⟩ := List.mem_iff_getElem.1 hk
    rw [← e]; exact (hm i hi).1
  have rw_ : ∀ (m : List Wr), Rises (m.map Wr.key) → ∀ x ∈ m, keyOk x.key := fun m hm x hx => rk _ hm _ (List.mem_map.2 ⟨x, hx, rfl⟩)
  rcases h with ⟨h1, ⟨h2, h3, h4⟩, h5, _⟩ | ⟨h1, ⟨h2, h3, h4⟩, h5, _⟩ | ⟨h1, h2, h3, ⟨h4, h5, h6⟩, h7, _⟩ | ⟨h1, ⟨h2, h3, h4⟩, _⟩ | ⟨h1, ⟨h2, h3, h4⟩, _⟩ | ⟨h1, ⟨h2, h3, h4⟩, _⟩
  · rw [h4, h5]; exact ⟨by omega, by simp, by rw [e0]; omega, h3, by simp, by omega, by omega⟩
  · rw [h4]; exact ⟨by omega, by simp, h5, h3, by simp, by omega, by omega⟩
  · rw [h7]; exact ⟨h2, h4, by rw [e0]; omega, rk _ h3, fun x hx => ⟨rw_ _ h6 x hx, (h5 x hx).1⟩, by omega, by omega⟩
  all_goals rw [h2, h3, h4]; exact ⟨by simp, by simp, by rw [e0]; omega, by simp, by simp, by omega, by omega⟩

/-- a letter that may be is a pack that may be -/
theorem LetOk.pack {l : Let} (h : LetOk l) : Pk.MayBe (numsOf l) (textsOf l) := by
  obtain ⟨b1, b2, b3, b4, b5, b6, b7⟩ := h.bounds
  obtain ⟨⟨h1, h2, h3, h4, h5, h6⟩, _⟩ := h
  have fl : (l.ws.flatMap fun x => [x.key, x.shard]).length = 2 * l.ws.length := by
    induction l.ws with
    | nil => rfl
    | cons x r ih => simp only [List.flatMap_cons, List.length_append, List.length_cons, List.length_nil]; omega
  refine ⟨?_, ?_, fun n hn => ?_, fun t ht => ?_⟩
  · unfold numsOf
    rw [List.length_append, List.length_map]
    show 7 + _ ≤ _
    omega
  · unfold textsOf
    rw [List.length_cons, List.length_append, fl]
    omega
  · unfold numsOf at hn
    rcases List.mem_append.1 hn with hn | hn
    · simp only [List.mem_cons, List.not_mem_nil, or_false] at hn
      unfold addr at h1 h2
      unfold txnOk at h3
      unfold stampOk at h4
      unfold Pk.numOk
      rcases hn with rfl | rfl | rfl | rfl | rfl | rfl | rfl <;> omega
    · obtain ⟨x, _, rfl⟩ := List.mem_map.1 hn
      unfold Pk.numOk
      split <;> omega
  · unfold textsOf at ht
    rcases List.mem_cons.1 ht with rfl | ht
    · omega
    · rcases List.mem_append.1 ht with ht | ht
      · have := b4 t ht; unfold keyOk at this; omega
      · obtain ⟨x, hx, hx2⟩ := List.mem_flatMap.1 ht
        have := b5 x hx
        unfold keyOk at this
        simp only [List.mem_cons, List.not_mem_nil, or_false] at hx2
        rcases hx2 with rfl | rfl <;> omega

/-- numbers and texts say the letter -/
theorem let_inj {l m : Let} (hn : numsOf l = numsOf m) (ht : textsOf l = textsOf m) : l = m := by
  obtain ⟨k1, a1, b1, c1, d1, e1, t1, ks1, ws1⟩ := l
  obtain ⟨k2, a2, b2, c2, d2, e2, t2, ks2, ws2⟩ := m
  simp only [numsOf, textsOf, List.cons_append, List.nil_append, List.cons.injEq] at hn ht
  obtain ⟨rfl, rfl, rfl, rfl, rfl, rfl, hk, hw⟩ := hn
  obtain ⟨rfl, ht⟩ := ht
  have hk' : ks1.length = ks2.length := by omega
  obtain ⟨rfl, hf⟩ := List.append_inj ht hk'
  have : ∀ (x y : List Wr), (x.map fun z => if z.dead = true then (1 : Int) else 0) = (y.map fun z => if z.dead = true then (1 : Int) else 0) → (x.flatMap fun z => [z.key, z.shard]) = (y.flatMap fun z => [z.key, z.shard]) → x = y := by
    intro x
    induction x with
    | nil => intro y h _; cases y with
      | nil => rfl
      | cons z r => simp at h
    | cons z r ih =>
      intro y h1 h2
      cases y with
      | nil => simp at h1
      | cons z2 r2 =>
        simp only [List.map_cons, List.cons.injEq, List.flatMap_cons, List.cons_append, List.nil_append] at h1 h2
        obtain ⟨g1, g2⟩ := h1
        obtain ⟨g3, g4, g5⟩ := h2
        rw [ih r2 g2 g5]
        congr 1
        obtain ⟨zk, zs, zd⟩ := z
        obtain ⟨yk, ys, yd⟩ := z2
        simp only at g1 g3 g4
        subst g3 g4
        cases zd <;> cases yd <;> simp at g1 ⊢
  rw [this ws1 ws2 hw hf]

theorem letL_inj {l m : Let} (hl : LetOk l) (hm : LetOk m) (h : letL l = letL m) : l = m := by
  have h1 := Pk.decL_back hl.pack
  have h2 := Pk.decL_back hm.pack
  unfold letL at h
  rw [h, h2] at h1
  simp only [Except.ok.injEq, Prod.mk.injEq] at h1
  exact (let_inj h1.1 h1.2).symm

end Lt
end Go.Proofs.YtjehjbkcdpidbaaGreat

/- What the document's own keys are; contracts; no condition but the range. -/
namespace Go.Proofs.YtjehjbkcdpidbaaGreat
namespace Lt
open Go.RowKit Bk

attribute [local go_sem ↓] Go.wp_at_zero Go.wp_at_succ
attribute [local go_sem] floatUpon pick

noncomputable def risesB (l : List ByteArray) : Bool := @decide (Rises l) (Classical.propDecidable _)

theorem risesB_true {l : List ByteArray} (h : Rises l) : risesB l = true := by unfold risesB; exact @decide_eq_true _ (Classical.propDecidable _) h
theorem risesB_false {l : List ByteArray} (h : ¬ Rises l) : risesB l = false := by unfold risesB; exact @decide_eq_false _ (Classical.propDecidable _) h

end Lt
end Go.Proofs.YtjehjbkcdpidbaaGreat

/- What the document's own writes may be; contract; no condition but the range. -/
namespace Go.Proofs.YtjehjbkcdpidbaaGreat
namespace Lt
open Go.RowKit Bk

attribute [local go_sem ↓] Go.wp_at_zero Go.wp_at_succ
attribute [local go_sem] floatUpon pick

theorem add_field (a : Addr) (n k : Nat) (hk : 0 < k) : (⟨(a.add n).block, (a.add n).off + k, none⟩ : Addr) = a.add (n + k) := by
  unfold Addr.add
  by_cases h : n = 0
  · rw [if_pos h, if_neg (by omega), h, Nat.zero_add]
  · rw [if_neg h, if_neg (by omega)]
    simp only [Nat.add_assoc]

/-- the slice v holds the writes l: three cells each -/
def WrsAt (w : World) (A : Option Addr) (l : List Wr) : Prop :=
  0 < l.length → ∃ ad, A = some ad ∧ ad.block < w.heap.size ∧ ∀ i (h : i < l.length), w.cell? (ad.add (i * 3)) = some (.string l[i].key) ∧ w.cell? (ad.add (i * 3 + 1)) = some (.string l[i].shard) ∧ w.cell? (ad.add (i * 3 + 2)) = some (.bool l[i].dead)

theorem WrsAt.below {w w' : World} {A : Option Addr} {l : List Wr} (h : WrsAt w A l) (hb : Below w.heap.size w w') : WrsAt w' A l := fun hp => by
  obtain ⟨ad, h1, h2, h3⟩ := h hp
  exact ⟨ad, h1, Nat.lt_of_lt_of_le h2 hb.size, fun i hi => ⟨(cell_kept hb _ (by rw [st_block]; exact h2)).trans (h3 i hi).1, (cell_kept hb _ (by rw [st_block]; exact h2)).trans (h3 i hi).2.1, (cell_kept hb _ (by rw [st_block]; exact h2)).trans (h3 i hi).2.2⟩⟩

theorem WrsAt.alloc {w : World} {A : Option Addr} {l : List Wr} (h : WrsAt w A l) (o : Obj) : WrsAt (w.alloc o) A l := h.below ((Below.refl _ w).alloc (Nat.le_refl _) o)

noncomputable def writesB (l : List Wr) : Bool := @decide (WritesOk l) (Classical.propDecidable _)

theorem writesB_true {l : List Wr} (h : WritesOk l) : writesB l = true := by unfold writesB; exact @decide_eq_true _ (Classical.propDecidable _) h
theorem writesB_false {l : List Wr} (h : ¬ WritesOk l) : writesB l = false := by unfold writesB; exact @decide_eq_false _ (Classical.propDecidable _) h

theorem writesB_eq {l : List Wr} (h1 : l.length ≤ 16) (h2 : ∀ x ∈ l, wrOk x) : writesB l = risesB (l.map Wr.key) := by
  by_cases h : Rises (l.map Wr.key)
  · rw [risesB_true h, writesB_true ⟨h1, h2, h⟩]
  · rw [risesB_false h, writesB_false (fun hh => h hh.2.2)]

theorem mem_take_succ {α : Type} {l : List α} {j : Nat} (h : j < l.length) {p : α → Prop} (h1 : ∀ x ∈ l.take j, p x) (h2 : p l[j]) : ∀ x ∈ l.take (j + 1), p x := by
  intro x hx
  rw [List.take_add_one, List.getElem?_eq_getElem h] at hx
  rcases List.mem_append.1 hx with hx | hx
  · exact h1 x hx
  · rw [Option.toList_some, List.mem_singleton] at hx
    rw [hx]; exact h2

theorem keys_take {l : List Wr} {j : Nat} (h : j < l.length) : strV ((l.map Wr.key).take (j + 1)) = strV ((l.map Wr.key).take j) ++ [.string l[j].key] := by
  unfold strV
  rw [List.take_add_one, List.getElem?_map, List.getElem?_eq_getElem h, List.map_append]
  rfl

end Lt
end Go.Proofs.YtjehjbkcdpidbaaGreat

/- Whether writes are the same; contract; no condition but the range. -/
namespace Go.Proofs.YtjehjbkcdpidbaaGreat
namespace Lt
open Go.RowKit Bk

attribute [local go_sem ↓] Go.wp_at_zero Go.wp_at_succ
attribute [local go_sem] floatUpon pick

theorem wr_ext {x y : Wr} (h1 : x.key = y.key) (h2 : x.shard = y.shard) (h3 : x.dead = y.dead) : x = y := by
  obtain ⟨a, b, c⟩ := x
  obtain ⟨d, e, f⟩ := y
  simp only at h1 h2 h3
  rw [h1, h2, h3]

instance : DecidableEq Wr := fun x y => decidable_of_iff (x.key = y.key ∧ x.shard = y.shard ∧ x.dead = y.dead) ⟨fun h => wr_ext h.1 h.2.1 h.2.2, fun h => by rw [h]; exact ⟨rfl, rfl, rfl⟩⟩

set_option maxRecDepth 20000 in
set_option maxHeartbeats 4000000 in
theorem sameWrs_any (A B : Option Addr) (c d : Nat) (a b : List Wr) (w : World) (ha : WrsAt w A a) (hb : WrsAt w B b) (hn : a.length ≤ 9223372036854775807) :
    Calls Tryz.prog 58 #[.slice A a.length c, .slice B b.length d] w fun e w' => e = .returned (.bool (decide (a = b))) ∧ Below w.heap.size w w' := by
  by_cases hl : a.length = b.length
  · have q1 : ((a.length : Int) != (b.length : Int)) = false := by simp [hl]
    have HA := Lib.hid ha
    have HB := Lib.hid hb
    have HL := Lib.hid hl
    clear ha hb hl
    go_enter Tryz.func58, Tryz.ntmps58
    go_wp2_with fail
    go_loopw [5] (fun i wr => ∃ j : Nat, j ≤ a.length ∧ i = .int .i64 (j : Int) ∧ Hid (∀ x (h : x < a.length) (h2 : x < b.length), x < j → a[x] = b[x]) ∧ Hid (Below w.heap.size w wr)) (fun i _ => a.length - (intOf i).toNat)
    case atStart => exact ⟨0, by omega, rfl, fun x _ _ h => absurd h (by omega), Below.refl _ _⟩
    case round =>
      obtain ⟨j, hj, rfl, heq, hbel⟩ := hrel
      by_cases hlt : j < a.length
      · have hltb : j < b.length := by rw [← HL.out]; exact hlt
        obtain ⟨ad, rfl, _, _⟩ := HA.out (by omega)
        obtain ⟨bd, rfl, _, _⟩ := HB.out (by omega)
        have p1 : (j : Int) < (a.length : Int) := by omega
        have p2 : (j : Int) < (b.length : Int) := by omega
        have hC : ∀ W, Below w.heap.size w W → W.cell? (ad.add (j * 3)) = some (.string a[j].key) ∧ W.cell? ⟨(ad.add (j * 3)).block, (ad.add (j * 3)).off + 1, none⟩ = some (.string a[j].shard) ∧ W.cell? ⟨(ad.add (j * 3)).block, (ad.add (j * 3)).off + 2, none⟩ = some (.bool a[j].dead) ∧
            W.cell? (bd.add (j * 3)) = some (.string b[j].key) ∧ W.cell? ⟨(bd.add (j * 3)).block, (bd.add (j * 3)).off + 1, none⟩ = some (.string b[j].shard) ∧ W.cell? ⟨(bd.add (j * 3)).block, (bd.add (j * 3)).off + 2, none⟩ = some (.bool b[j].dead) := fun W hW => by
          obtain ⟨ad', e1, _, hca⟩ := (HA.out.below hW) (by omega)
          obtain ⟨bd', e2, _, hcb⟩ := (HB.out.below hW) (by omega)
          obtain rfl := Option.some.inj e1
          obtain rfl := Option.some.inj e2
          obtain ⟨x0, x1, x2⟩ := hca j hlt
          obtain ⟨y0, y1, y2⟩ := hcb j hltb
          rw [add_field _ _ _ (by omega), add_field _ _ _ (by omega), add_field _ _ _ (by omega), add_field _ _ _ (by omega)]
          exact ⟨x0, x1, x2, y0, y1, y2⟩
        have E0 : a[j] ≠ b[j] → decide (a = b) = false := fun hx => by rw [decide_eq_false_iff_not]; intro e; exact hx (by simp only [e])
        by_cases hx : a[j] = b[j]
        · have HX := Lib.hid hx
          rw [← hx] at hC
          clear E0 hx
          generalize a[j] = X at hC
          obtain ⟨xk, xs, xd⟩ := X
          have HC := Lib.hid hC
          have t1 := text_eq xk
          have t2 := text_eq xs
          clear hC
          go_upto_region 6 with fail
          refine wp_region_said 9 [17, 18, 19, 20, 21, 22, 23, 24, 25]
            [.is (.slice (some ad) a.length c), .is (.int .i64 (j : Int)), .is (.pointer (some (ad.add (j * 3)))), .is (.agg #[.string xk, .string xs, .bool xd]), .is (.slice (some bd) b.length d), .is (.int .i64 (j : Int)), .is (.pointer (some (bd.add (j * 3)))), .is (.agg #[.string xk, .string xs, .bool xd]), .is (.bool false)]
            (fun W => Below w.heap.size w W) (by kernel_rfl) (by kernel_rfl) (by kernel_rfl) (by kernel_rfl) (by kernel_rfl) (fun W W' h hb => h.trans (hb.mono h.size)) hbel.out ?steps ?last
          case steps =>
            simp only [List.take_succ_cons, List.take_zero]
            refine ⟨?_, ?_, ?_, ?_, ?_, ?_, ?_, ?_, ?_, trivial⟩
            all_goals
              intro vs W ρ hρ hc hf hg hI hH hd R' hR
              obtain ⟨x0, x1, x2, y0, y1, y2⟩ := HC.out W hI
              have HR := Lib.hid hR
              simp [depsOf, Region.binds, sayAt, Say.holds] at hd
              clear hR hI
              go_simp
              first
                | exact HR.out _ _ (by simp [sayAt, Say.holds]) (Below.refl _ _) (by simp [sayAt, Say.isBlk])
                | trace_state
          case last =>
            intro vs W hI hb hg hd
            have g8 := hg 8 (by omega)
            simp only [sayAt, Say.holds, List.getD_cons_succ, List.getD_cons_zero] at g8
            simp only [List.take_succ_cons, List.take_zero, List.drop_succ_cons, List.drop_zero, putAll, Act.put, List.setIfInBounds_toArray, List.set_cons_succ, List.set_cons_zero, Nat.zero_add, Nat.reduceAdd]
            rw [g8]
            have HB := Lib.hid hI
            clear g8 hg hd hb hI hbel
            go_wp2_with fail
            go_roundw
            case rel => exact ⟨j + 1, by omega, by go_num, (fun x h h2 hxj => by
              by_cases e : x = j
              · subst e; exact HX.out
              · exact heq.out x h h2 (by omega)), HB.out⟩
            case measure => simp [intOf]; omega
        · have E := Lib.hid (E0 hx)
          clear E0
          generalize a[j] = X at hC hx
          generalize b[j] = Y at hC hx
          obtain ⟨xk, xs, xd⟩ := X
          obtain ⟨yk, ys, yd⟩ := Y
          have HC := Lib.hid hC
          clear hC
          by_cases hk : xk = yk
          · subst hk
            have t1 := text_eq xk
            by_cases hs : xs = ys
            · subst hs
              have t2 := text_eq xs
              have hd : xd = !yd := by cases xd <;> cases yd <;> simp at hx ⊢
              clear hx
              cases yd with
              | true =>
                obtain rfl : xd = false := hd
                go_upto_region 6 with fail
                refine wp_region_said 9 [17, 18, 19, 20, 21, 22, 23, 24, 25]
                  [.is (.slice (some ad) a.length c), .is (.int .i64 (j : Int)), .is (.pointer (some (ad.add (j * 3)))), .is (.agg #[.string xk, .string xs, .bool false]), .is (.slice (some bd) b.length d), .is (.int .i64 (j : Int)), .is (.pointer (some (bd.add (j * 3)))), .is (.agg #[.string xk, .string xs, .bool true]), .is (.bool true)]
                  (fun W => Below w.heap.size w W) (by kernel_rfl) (by kernel_rfl) (by kernel_rfl) (by kernel_rfl) (by kernel_rfl) (fun W W' h hb => h.trans (hb.mono h.size)) hbel.out ?steps ?last
                case steps =>
                  simp only [List.take_succ_cons, List.take_zero]
                  refine ⟨?_, ?_, ?_, ?_, ?_, ?_, ?_, ?_, ?_, trivial⟩
                  all_goals
                    intro vs W ρ hρ hc hf hg hI hH hd R' hR
                    obtain ⟨x0, x1, x2, y0, y1, y2⟩ := HC.out W hI
                    have HR := Lib.hid hR
                    simp [depsOf, Region.binds, sayAt, Say.holds] at hd
                    clear hR hI
                    go_simp
                    first
                      | exact HR.out _ _ (by simp [sayAt, Say.holds]) (Below.refl _ _) (by simp [sayAt, Say.isBlk])
                      | trace_state
                case last =>
                  intro vs W hI hb hg hd
                  have g8 := hg 8 (by omega)
                  simp only [sayAt, Say.holds, List.getD_cons_succ, List.getD_cons_zero] at g8
                  simp only [List.take_succ_cons, List.take_zero, List.drop_succ_cons, List.drop_zero, putAll, Act.put, List.setIfInBounds_toArray, List.set_cons_succ, List.set_cons_zero, Nat.zero_add, Nat.reduceAdd]
                  rw [g8]
                  have HB := Lib.hid hI
                  clear g8 hg hd hb hI hbel
                  go_wp2_with fail
                  go_ret
                  exact ⟨by rw [E.out]; rfl, HB.out⟩
              | false =>
                obtain rfl : xd = true := hd
                go_upto_region 6 with fail
                refine wp_region_said 9 [17, 18, 19, 20, 21, 22, 23, 24, 25]
                  [.is (.slice (some ad) a.length c), .is (.int .i64 (j : Int)), .is (.pointer (some (ad.add (j * 3)))), .is (.agg #[.string xk, .string xs, .bool true]), .is (.slice (some bd) b.length d), .is (.int .i64 (j : Int)), .is (.pointer (some (bd.add (j * 3)))), .is (.agg #[.string xk, .string xs, .bool false]), .is (.bool true)]
                  (fun W => Below w.heap.size w W) (by kernel_rfl) (by kernel_rfl) (by kernel_rfl) (by kernel_rfl) (by kernel_rfl) (fun W W' h hb => h.trans (hb.mono h.size)) hbel.out ?steps ?last
                case steps =>
                  simp only [List.take_succ_cons, List.take_zero]
                  refine ⟨?_, ?_, ?_, ?_, ?_, ?_, ?_, ?_, ?_, trivial⟩
                  all_goals
                    intro vs W ρ hρ hc hf hg hI hH hd R' hR
                    obtain ⟨x0, x1, x2, y0, y1, y2⟩ := HC.out W hI
                    have HR := Lib.hid hR
                    simp [depsOf, Region.binds, sayAt, Say.holds] at hd
                    clear hR hI
                    go_simp
                    first
                      | exact HR.out _ _ (by simp [sayAt, Say.holds]) (Below.refl _ _) (by simp [sayAt, Say.isBlk])
                      | trace_state
                case last =>
                  intro vs W hI hb hg hd
                  have g8 := hg 8 (by omega)
                  simp only [sayAt, Say.holds, List.getD_cons_succ, List.getD_cons_zero] at g8
                  simp only [List.take_succ_cons, List.take_zero, List.drop_succ_cons, List.drop_zero, putAll, Act.put, List.setIfInBounds_toArray, List.set_cons_succ, List.set_cons_zero, Nat.zero_add, Nat.reduceAdd]
                  rw [g8]
                  have HB := Lib.hid hI
                  clear g8 hg hd hb hI hbel
                  go_wp2_with fail
                  go_ret
                  exact ⟨by rw [E.out]; rfl, HB.out⟩
            · have t2 := text_ne hs
              clear hx hs
              go_upto_region 6 with fail
              refine wp_region_said 9 [17, 18, 19, 20, 21, 22, 23, 24, 25]
                [.is (.slice (some ad) a.length c), .is (.int .i64 (j : Int)), .is (.pointer (some (ad.add (j * 3)))), .is (.agg #[.string xk, .string xs, .bool xd]), .is (.slice (some bd) b.length d), .is (.int .i64 (j : Int)), .is (.pointer (some (bd.add (j * 3)))), .is (.agg #[.string xk, .string ys, .bool yd]), .is (.bool true)]
                (fun W => Below w.heap.size w W) (by kernel_rfl) (by kernel_rfl) (by kernel_rfl) (by kernel_rfl) (by kernel_rfl) (fun W W' h hb => h.trans (hb.mono h.size)) hbel.out ?steps ?last
              case steps =>
                simp only [List.take_succ_cons, List.take_zero]
                refine ⟨?_, ?_, ?_, ?_, ?_, ?_, ?_, ?_, ?_, trivial⟩
                all_goals
                  intro vs W ρ hρ hc hf hg hI hH hd R' hR
                  obtain ⟨x0, x1, x2, y0, y1, y2⟩ := HC.out W hI
                  have HR := Lib.hid hR
                  simp [depsOf, Region.binds, sayAt, Say.holds] at hd
                  clear hR hI
                  go_simp
                  first
                    | exact HR.out _ _ (by simp [sayAt, Say.holds]) (Below.refl _ _) (by simp [sayAt, Say.isBlk])
                    | trace_state
              case last =>
                intro vs W hI hb hg hd
                have g8 := hg 8 (by omega)
                simp only [sayAt, Say.holds, List.getD_cons_succ, List.getD_cons_zero] at g8
                simp only [List.take_succ_cons, List.take_zero, List.drop_succ_cons, List.drop_zero, putAll, Act.put, List.setIfInBounds_toArray, List.set_cons_succ, List.set_cons_zero, Nat.zero_add, Nat.reduceAdd]
                rw [g8]
                have HB := Lib.hid hI
                clear g8 hg hd hb hI hbel
                go_wp2_with fail
                go_ret
                exact ⟨by rw [E.out]; rfl, HB.out⟩
          · have t1 := text_ne hk
            clear hx hk
            go_upto_region 6 with fail
            refine wp_region_said 9 [17, 18, 19, 20, 21, 22, 23, 24, 25]
              [.is (.slice (some ad) a.length c), .is (.int .i64 (j : Int)), .is (.pointer (some (ad.add (j * 3)))), .is (.agg #[.string xk, .string xs, .bool xd]), .is (.slice (some bd) b.length d), .is (.int .i64 (j : Int)), .is (.pointer (some (bd.add (j * 3)))), .is (.agg #[.string yk, .string ys, .bool yd]), .is (.bool true)]
              (fun W => Below w.heap.size w W) (by kernel_rfl) (by kernel_rfl) (by kernel_rfl) (by kernel_rfl) (by kernel_rfl) (fun W W' h hb => h.trans (hb.mono h.size)) hbel.out ?steps ?last
            case steps =>
              simp only [List.take_succ_cons, List.take_zero]
              refine ⟨?_, ?_, ?_, ?_, ?_, ?_, ?_, ?_, ?_, trivial⟩
              all_goals
                intro vs W ρ hρ hc hf hg hI hH hd R' hR
                obtain ⟨x0, x1, x2, y0, y1, y2⟩ := HC.out W hI
                have HR := Lib.hid hR
                simp [depsOf, Region.binds, sayAt, Say.holds] at hd
                clear hR hI
                go_simp
                first
                  | exact HR.out _ _ (by simp [sayAt, Say.holds]) (Below.refl _ _) (by simp [sayAt, Say.isBlk])
                  | trace_state
            case last =>
              intro vs W hI hb hg hd
              have g8 := hg 8 (by omega)
              simp only [sayAt, Say.holds, List.getD_cons_succ, List.getD_cons_zero] at g8
              simp only [List.take_succ_cons, List.take_zero, List.drop_succ_cons, List.drop_zero, putAll, Act.put, List.setIfInBounds_toArray, List.set_cons_succ, List.set_cons_zero, Nat.zero_add, Nat.reduceAdd]
              rw [g8]
              have HB := Lib.hid hI
              clear g8 hg hd hb hI hbel
              go_wp2_with fail
              go_ret
              exact ⟨by rw [E.out]; rfl, HB.out⟩
      · have E := Lib.hid (show decide (a = b) = true by
          rw [decide_eq_true_eq]
          exact List.ext_getElem HL.out fun x h h2 => heq.out x h h2 (by omega))
        have HB2 := hbel
        clear hbel
        go_wp2_with fail
        go_ret
        exact ⟨by rw [E.out]; rfl, HB2.out⟩
  · have q1 : ((a.length : Int) != (b.length : Int)) = true := by simp; omega
    have E := Lib.hid (show decide (a = b) = false by rw [decide_eq_false_iff_not]; intro e; exact hl (by rw [e]))
    clear hl ha hb
    go_enter Tryz.func58, Tryz.ntmps58
    go_wp2_with fail
    go_ret
    exact ⟨by rw [E.out]; rfl, Below.refl _ _⟩

end Lt
end Go.Proofs.YtjehjbkcdpidbaaGreat

/- Fields of a struct that comes as an argument: a row of numbers, a row of texts: what its reading says. -/
namespace Go.Proofs.YtjehjbkcdpidbaaGreat
namespace Bk
open Go.ChangeShapes Go.WideShapes Go.ChangeAt Go.RowKit Go.Joins

section
variable {H : Type} {enc : TypeId × Value → H} {W : World}

set_option maxRecDepth 20000 in
theorem field_ints {t e : TypeId} {v : Value} {fuel : Nat} {y : DataW H × List MemPlace} (ht : Tryz.prog.underlying t = some (.slice e)) (he : Tryz.prog.underlying e = some (.int .i64)) (hc : Tryz.prog.cellsOf e = 1) (hb8 : Tryz.prog.bytesOf e = 8)
    (hf : DataW.trod enc Tryz.prog W 0 (fun _ => true) true fuel t [v] = some y) (hwt : ∀ k ∈ y.1.weights Tryz.prog t, k ≤ reachBytes) (hl : ∀ x ∈ y.2, x.block < W.heap.size) :
    ∃ (A : Option Addr) (c : Nat) (L : List Int), v = .slice A L.length c ∧ IntsAt W A L ∧ L.length * 8 ≤ reachBytes ∧ L.length ≤ c ∧ c ≤ maxLen ∧ (∀ n ∈ L, -9223372036854775808 ≤ n ∧ n ≤ 9223372036854775807) ∧ (A = none → L = [] ∧ c = 0) := by
  rcases open_ints ht he hc hf with ⟨hcs, hx⟩ | ⟨a, len, cap, zs, hcs, _, hl', hm, hz, hx, hcell, hwz⟩
  · obtain rfl : v = .slice none 0 0 := by simpa using hcs
    exact ⟨none, 0, [], rfl, fun h => absurd h (by simp), by simp, by simp, Nat.zero_le _, by simp, fun _ => ⟨rfl, rfl⟩⟩
  · obtain rfl : v = .slice (some a) len cap := by simpa using hcs
    subst hx
    simp only [if_true] at hz
    have hlen : (zs.take len).length = len := by rw [List.length_take]; omega
    have hs := hwt (((lits (H := H) .i64 (zs.take len)).length + (lits (H := H) .i64 (zs.drop len)).length) * Tryz.prog.bytesOf e) (by simp [DataW.weights, ht])
    rw [hb8] at hs
    have hs2 : (zs.take len).length * 8 ≤ reachBytes := by
      refine Nat.le_trans (Nat.mul_le_mul_right 8 ?_) hs
      simp only [lits, List.length_map]
      omega
    refine ⟨some a, cap, zs.take len, by rw [hlen], fun hpos => ⟨a, rfl, ?_, fun i hi => ?_⟩, hs2, by rw [hlen]; exact hl', hm, fun n hn => ?_, fun h => by cases h⟩
    · obtain ⟨b, off, spot⟩ := a
      exact hl (.cell b off) (MemPlace.mem_row.2 ⟨0, by omega, by simp⟩)
    · have h1 := hcell i (by omega)
      rw [h1]
      congr 2
      rw [List.getElem_take, List.getD_eq_getElem?_getD, List.getElem?_eq_getElem (by omega), Option.getD_some]
    · have := hwz n (List.mem_of_mem_take hn)
      exact show IntKind.i64.min ≤ n ∧ n ≤ 9223372036854775807 by simpa [Lit.wf] using this

set_option maxRecDepth 20000 in
theorem field_texts {t e : TypeId} {v : Value} {fuel : Nat} {y : DataW H × List MemPlace} (ht : Tryz.prog.underlying t = some (.slice e)) (he : Tryz.prog.underlying e = some .string) (hc : Tryz.prog.cellsOf e = 1) (hb16 : Tryz.prog.bytesOf e = 16)
    (hf : DataW.trod enc Tryz.prog W 0 (fun _ => true) true fuel t [v] = some y) (hwt : ∀ k ∈ y.1.weights Tryz.prog t, k ≤ reachBytes) (hl : ∀ x ∈ y.2, x.block < W.heap.size) :
    ∃ (A : Option Addr) (c : Nat) (L : List ByteArray), v = .slice A L.length c ∧ StrsAt W A L ∧ L.length * 16 ≤ reachBytes ∧ L.length ≤ c ∧ c ≤ maxLen ∧ (∀ s ∈ L, s.size ≤ reachBytes) ∧ (A = none → L = [] ∧ c = 0) := by
  rcases open_strings ht he hc hf with ⟨hcs, hx⟩ | ⟨a, len, cap, zs, hcs, _, hl', hm, hz, hx, hcell, hwz⟩
  · obtain rfl : v = .slice none 0 0 := by simpa using hcs
    exact ⟨none, 0, [], rfl, fun h => absurd h (by simp), by simp, by simp, Nat.zero_le _, by simp, fun _ => ⟨rfl, rfl⟩⟩
  · obtain rfl : v = .slice (some a) len cap := by simpa using hcs
    subst hx
    simp only [if_true] at hz
    have hlen : (zs.take len).length = len := by rw [List.length_take]; omega
    have hs := hwt (((strs (H := H) (zs.take len)).length + (strs (H := H) (zs.drop len)).length) * Tryz.prog.bytesOf e) (by simp [DataW.weights, ht])
    rw [hb16] at hs
    have hs2 : (zs.take len).length * 16 ≤ reachBytes := by
      refine Nat.le_trans (Nat.mul_le_mul_right 16 ?_) hs
      simp only [strs, List.length_map]
      omega
    refine ⟨some a, cap, zs.take len, by rw [hlen], fun hpos => ⟨a, rfl, ?_, fun i hi => ?_⟩, hs2, by rw [hlen]; exact hl', hm, fun s hs' => ?_, fun h => by cases h⟩
    · obtain ⟨b, off, spot⟩ := a
      exact hl (.cell b off) (MemPlace.mem_row.2 ⟨0, by omega, by simp⟩)
    · have h1 := hcell i (by omega)
      rw [h1]
      congr 2
      rw [List.getElem_take, List.getD_eq_getElem?_getD, List.getElem?_eq_getElem (by omega), Option.getD_some]
    · exact hwt s.size (by
        simp only [DataW.weights, ht, List.mem_cons, List.mem_append]
        exact .inr (.inl (weights_strs _ _ _ _ hs')))

/-- what an argument's reading holds is within the reach -/
theorem arg_weights {ts : List TypeId} {ds : List (DataW H)} {j : Nat} {t : TypeId} {d : DataW H} (hsz : (DataW.weightsEach Tryz.prog ts ds).all (· ≤ reachBytes) = true) (hj : ts[j]? = some t) (hd : ds[j]? = some d) : ∀ k ∈ d.weights Tryz.prog t, k ≤ reachBytes := fun k hk => by
  have h1 := List.all_eq_true.1 hsz _ (DataW.weights_mem_each hj hd k hk)
  simpa using h1

theorem agg2_weights {t : TypeId} {f0 f1 : Field} (hs : Tryz.prog.underlying t = some (.struct #[f0, f1])) (d0 d1 : DataW H) : (DataW.agg [d0, d1]).weights Tryz.prog t = d0.weights Tryz.prog f0.type ++ (d1.weights Tryz.prog f1.type ++ []) := by
  simp only [DataW.weights, hs]
  rfl

end

end Bk
end Go.Proofs.YtjehjbkcdpidbaaGreat
