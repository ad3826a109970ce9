/- Parts of the proof, joined: PkMath, Bk, LtMath; their conditions stand with each. -/
import Derived.Test.YtkpcfakfkcghdaaRows
import Derived.WalkKit
import Derived.WalkSpells
import Derived.WalkLawsBesides
import Derived.Lib.Hide
import Derived.Deep.QuietTactic
import Derived.BigQuiet
import Derived.Deep.RegionWith
import Derived.Laws.CopyOwn
import Derived.Deep.RegionHeld3
import Derived.Deep.DeepCutAuto
import Derived.Deep.DrawnRows
import Derived.Deep.RegionHeldLaw
import Derived.Lib.AppendStr
import Derived.SliceStrings
import Derived.ProofKit
import Derived.SizedLaws
import Derived.ChangeSlices
import Derived.Carry
import Derived.Below
import Derived.Maps.AppendAt
import Derived.IntWalk
import Derived.Deep.AppendLies
import Derived.Laws.OwnMore
import Derived.Laws.BitsAllLaws
import Derived.Deep.Draws
import Derived.Lib.SmallJoins
import Derived.Lib.BufferWrite
import Derived.StillTail

/- Packs in plain lists: numbers in groups of seven bits, signed ones, a pack's bytes, what any bytes are as a pack; there and back; no condition. -/
namespace Go.Proofs.Ytkpcfakfkcghdaa
namespace Pk

/-! ### a number above nothing -/

def plain (n : Nat) : List UInt8 := if n < 128 then [UInt8.ofNat n] else UInt8.ofNat (n % 128 + 128) :: plain (n / 128)
termination_by n
decreasing_by omega

theorem plain_small {n : Nat} (h : n < 128) : plain n = [UInt8.ofNat n] := by rw [plain, if_pos h]
theorem plain_big {n : Nat} (h : 128 ≤ n) : plain n = UInt8.ofNat (n % 128 + 128) :: plain (n / 128) := by rw [plain, if_neg (by omega)]

theorem plain_pos (n : Nat) : 1 ≤ (plain n).length := by
  rw [plain]; split <;> simp

/-- .. is read: which, and how much of it; or where it fails -/
inductive Rd
  | ok (n used : Nat)
  | fin
  | form

def Rd.push (x : Nat) : Rd → Rd
  | .ok n u => .ok (x + 128 * n) (u + 1)
  | .fin => .fin
  | .form => .form

/-- at most k bytes more; i are read -/
def readK : Nat → Nat → List UInt8 → Rd
  | 0, _, _ => .form
  | _ + 1, _, [] => .fin
  | k + 1, i, b :: r => if b.toNat < 128 then (if b.toNat = 0 ∧ 0 < i then .form else .ok b.toNat 1) else (readK k (i + 1) r).push (b.toNat % 128)

def readR (L : List UInt8) : Rd := readK 9 0 L

theorem ofNat_toNat_lt {n : Nat} (h : n < 256) : (UInt8.ofNat n).toNat = n := UInt8.toNat_ofNat_of_lt' (by show n < 256; exact h)

theorem readK_plain : ∀ (k i n : Nat) (rest : List UInt8), n < 128 ^ k → (0 < i → 0 < n) → 1 ≤ k → readK k i (plain n ++ rest) = .ok n (plain n).length
  | 0, i, n, rest, h, hp, hk => absurd hk (by omega)
  | k + 1, i, n, rest, h, hp, _ => by
    by_cases hs : n < 128
    · rw [plain_small hs]
      show (if (UInt8.ofNat n).toNat < 128 then _ else _) = _
      rw [ofNat_toNat_lt (by omega), if_pos hs, if_neg (by omega)]; rfl
    · rw [plain_big (by omega)]
      show (if (UInt8.ofNat (n % 128 + 128)).toNat < 128 then _ else _) = _
      rw [ofNat_toNat_lt (by omega), if_neg (by omega)]
      have h2 : n / 128 < 128 ^ k := Nat.div_lt_of_lt_mul (by rw [Nat.pow_succ] at h; omega)
      have hk : 1 ≤ k := by
        rcases Nat.eq_zero_or_pos k with e | e
        · subst e; simp at h2; omega
        · exact e
      show (readK k (i + 1) (plain (n / 128) ++ rest)).push _ = _
      rw [readK_plain k (i + 1) (n / 128) rest h2 (fun _ => by omega) hk]
      show Rd.ok _ _ = Rd.ok _ _
      rw [List.length_cons, show (n % 128 + 128) % 128 + 128 * (n / 128) = n by omega]

theorem readK_ok : ∀ (k i : Nat) (L : List UInt8) {n u : Nat}, readK k i L = .ok n u → L = plain n ++ L.drop u ∧ u = (plain n).length ∧ n < 128 ^ k ∧ (0 < i → 0 < n)
  | 0, _, _, _, _, h => by simp [readK] at h
  | _ + 1, _, [], _, _, h => by simp [readK] at h
  | k + 1, i, b :: r, n, u, h => by
    have hb : b.toNat < 256 := b.toNat_lt
    rw [readK] at h
    split at h
    · next hs =>
      split at h
      · cases h
      · next hz =>
        simp only [Rd.ok.injEq] at h
        obtain ⟨rfl, rfl⟩ := h
        rw [plain_small hs]
        refine ⟨by simp, rfl, ?_, fun hi => by omega⟩
        have : 128 ^ 1 ≤ 128 ^ (k + 1) := Nat.pow_le_pow_right (by omega) (by omega)
        omega
    · next hs =>
      cases hr : readK k (i + 1) r with
      | fin => rw [hr] at h; simp [Rd.push] at h
      | form => rw [hr] at h; simp [Rd.push] at h
      | ok m v =>
        obtain ⟨e1, e2, e3, e4⟩ := readK_ok k (i + 1) r hr
        rw [hr] at h
        simp only [Rd.push, Rd.ok.injEq] at h
        obtain ⟨rfl, rfl⟩ := h
        have hm := e4 (by omega)
        have hp : plain (b.toNat % 128 + 128 * m) = b :: plain m := by
          rw [plain_big (by omega), show (b.toNat % 128 + 128 * m) / 128 = m by omega, show (b.toNat % 128 + 128 * m) % 128 + 128 = b.toNat by omega, UInt8.ofNat_toNat]
        rw [hp]
        refine ⟨?_, by rw [List.length_cons, e2], by rw [Nat.pow_succ]; omega, fun _ => by omega⟩
        rw [List.drop_succ_cons, List.cons_append, ← e1]

theorem readK_cut : ∀ (k i n j : Nat), n < 128 ^ k → 1 ≤ k → j < (plain n).length → readK k i ((plain n).take j) = .fin
  | 0, i, n, j, h, hk, hj => absurd hk (by omega)
  | k + 1, i, n, 0, h, _, hj => rfl
  | k + 1, i, n, j + 1, h, _, hj => by
    by_cases hs : n < 128
    · rw [plain_small hs] at hj; simp at hj
    · rw [plain_big (by omega)] at hj ⊢
      rw [List.length_cons] at hj
      have h2 : n / 128 < 128 ^ k := Nat.div_lt_of_lt_mul (by rw [Nat.pow_succ] at h; omega)
      have hk : 1 ≤ k := by
        rcases Nat.eq_zero_or_pos k with e | e
        · subst e; simp at h2; omega
        · exact e
      show (if (UInt8.ofNat (n % 128 + 128)).toNat < 128 then _ else _) = _
      rw [ofNat_toNat_lt (by omega), if_neg (by omega)]
      show (readK k (i + 1) ((plain (n / 128)).take j)).push _ = _
      rw [readK_cut k (i + 1) (n / 128) j h2 hk (by omega)]; rfl

theorem plain_len : ∀ (k n : Nat), n < 128 ^ k → 1 ≤ k → (plain n).length ≤ k
  | 0, _, _, h => absurd h (by omega)
  | k + 1, n, h, _ => by
    by_cases hs : n < 128
    · rw [plain_small hs]; simp
    · have h2 : n / 128 < 128 ^ k := Nat.div_lt_of_lt_mul (by rw [Nat.pow_succ] at h; omega)
      have hk : 1 ≤ k := by
        rcases Nat.eq_zero_or_pos k with e | e
        · subst e; simp at h2; omega
        · exact e
      have := plain_len k (n / 128) h2 hk
      rw [plain_big (by omega), List.length_cons]
      omega

theorem plain_mono : ∀ (n m : Nat), n ≤ m → (plain n).length ≤ (plain m).length
  | n, m, h => by
    by_cases hs : n < 128
    · rw [plain_small hs]; exact plain_pos m
    · have := plain_mono (n / 128) (m / 128) (Nat.div_le_div_right h)
      rw [plain_big (by omega), plain_big (show 128 ≤ m by omega), List.length_cons, List.length_cons]
      omega
termination_by n => n
decreasing_by omega

theorem plain_inj {n m : Nat} (hn : n < 128 ^ 9) (hm : m < 128 ^ 9) (h : plain n = plain m) : n = m := by
  have h1 := readK_plain 9 0 n [] hn (fun h => absurd h (by omega)) (by omega)
  have h2 := readK_plain 9 0 m [] hm (fun h => absurd h (by omega)) (by omega)
  rw [h, h2] at h1
  exact ((Rd.ok.inj h1).1).symm

/-! ### a signed one -/

def zig (z : Int) : Nat := if z < 0 then (-2 * z - 1).toNat else (2 * z).toNat
def unzig (n : Nat) : Int := if n % 2 = 1 then -((n / 2 : Nat) : Int) - 1 else ((n / 2 : Nat) : Int)

theorem unzig_zig (z : Int) : unzig (zig z) = z := by
  unfold unzig zig
  split <;> split <;> omega

theorem zig_unzig (n : Nat) : zig (unzig n) = n := by
  unfold unzig zig
  split <;> split <;> omega

/-- is it one of a pack's? -/
def numOk (z : Int) : Prop := -4611686018427387904 ≤ z ∧ z ≤ 4611686018427387903

instance (z : Int) : Decidable (numOk z) := inferInstanceAs (Decidable (_ ∧ _))

theorem zig_lt {z : Int} (h : numOk z) : zig z < 128 ^ 9 := by
  obtain ⟨h1, h2⟩ := h
  show zig z < 9223372036854775808
  unfold zig
  split <;> omega

theorem unzig_ok {n : Nat} (h : n < 128 ^ 9) : numOk (unzig n) := by
  have h' : n < 9223372036854775808 := h
  unfold unzig numOk
  split <;> omega

theorem zig_inj {a b : Int} (h : zig a = zig b) : a = b := by rw [← unzig_zig a, h, unzig_zig]

theorem zig_mono {a b : Int} (h0 : 0 ≤ a) (h : a ≤ b) : zig a ≤ zig b := by
  unfold zig
  rw [if_neg (by omega), if_neg (by omega)]
  omega

def signed (z : Int) : List UInt8 := plain (zig z)

theorem signed_len {z : Int} (h : numOk z) : 1 ≤ (signed z).length ∧ (signed z).length ≤ 9 := ⟨plain_pos _, plain_len 9 _ (zig_lt h) (by omega)⟩

theorem signed_inj {a b : Int} (ha : numOk a) (hb : numOk b) (h : signed a = signed b) : a = b := zig_inj (plain_inj (zig_lt ha) (zig_lt hb) h)

/-! ### a pack -/

def MayBe (ns : List Int) (ts : List ByteArray) : Prop := ns.length ≤ 1024 ∧ ts.length ≤ 1024 ∧ (∀ n ∈ ns, numOk n) ∧ ∀ t ∈ ts, t.size ≤ 4096

def textL (t : ByteArray) : List UInt8 := plain t.size ++ t.data.toList

def numsL (ns : List Int) : List UInt8 := ns.flatMap signed
def textsL (ts : List ByteArray) : List UInt8 := ts.flatMap textL

def bytesL (ns : List Int) (ts : List ByteArray) : List UInt8 := plain ns.length ++ (numsL ns ++ (plain ts.length ++ textsL ts))

/-- what is wrong: the bytes end; or here, with so many bytes left -/
inductive Er
  | fin
  | bad (left code : Nat)

def Er.place (n : Nat) : Er → Nat
  | .fin => n
  | .bad left _ => n - left

def Er.code : Er → Nat
  | .fin => 50
  | .bad _ c => c

def cnt (most : Nat) (L : List UInt8) : Except Er (Nat × List UInt8) :=
  match readR L with
  | .ok n u => if most < n then .error (.bad L.length 2) else .ok (n, L.drop u)
  | .fin => .error .fin
  | .form => .error (.bad L.length 3)

def numF (L : List UInt8) : Except Er (Nat × List UInt8) :=
  match readR L with
  | .ok n u => .ok (n, L.drop u)
  | .fin => .error .fin
  | .form => .error (.bad L.length 3)

def numsF : Nat → List UInt8 → Except Er (List Int × List UInt8)
  | 0, L => .ok ([], L)
  | k + 1, L => match numF L with
    | .error e => .error e
    | .ok (n, r) => match numsF k r with
      | .error e => .error e
      | .ok (ns, r2) => .ok (unzig n :: ns, r2)

def textF (L : List UInt8) : Except Er (ByteArray × List UInt8) :=
  match cnt 4096 L with
  | .error e => .error e
  | .ok (n, r) => if r.length < n then .error .fin else .ok (⟨(r.take n).toArray⟩, r.drop n)

def textsF : Nat → List UInt8 → Except Er (List ByteArray × List UInt8)
  | 0, L => .ok ([], L)
  | k + 1, L => match textF L with
    | .error e => .error e
    | .ok (t, r) => match textsF k r with
      | .error e => .error e
      | .ok (ts, r2) => .ok (t :: ts, r2)

def decL (L : List UInt8) : Except Er (List Int × List ByteArray) :=
  match cnt 1024 L with
  | .error e => .error e
  | .ok (k, r1) => match numsF k r1 with
    | .error e => .error e
    | .ok (ns, r2) => match cnt 1024 r2 with
      | .error e => .error e
      | .ok (m, r3) => match textsF m r3 with
        | .error e => .error e
        | .ok (ts, r4) => if r4 = [] then .ok (ns, ts) else .error (.bad r4.length 3)

/-! ### there -/

/-- f reads just A, as a; and nothing of what is shorter -/
structure Good {α : Type} (f : List UInt8 → Except Er (α × List UInt8)) (A : List UInt8) (a : α) : Prop where
  whole : ∀ rest, f (A ++ rest) = .ok (a, rest)
  cut : ∀ j, j < A.length → f (A.take j) = .error .fin

theorem Good.of_eq {α : Type} {f g : List UInt8 → Except Er (α × List UInt8)} {A : List UInt8} {a : α} (h : Good f A a) (e : ∀ L, g L = f L) : Good g A a :=
  ⟨fun rest => by rw [e]; exact h.whole rest, fun j hj => by rw [e]; exact h.cut j hj⟩

theorem Good.then {α β γ : Type} {f : List UInt8 → Except Er (α × List UInt8)} {g : α → List UInt8 → Except Er (β × List UInt8)} {h : α → β → γ} {A B : List UInt8} {a : α} {b : β} (hA : Good f A a) (hB : Good (g a) B b) :
    Good (fun L => match f L with | .error e => .error e | .ok (a, r) => match g a r with | .error e => .error e | .ok (b, r2) => .ok (h a b, r2)) (A ++ B) (h a b) := by
  refine ⟨fun rest => ?_, fun j hj => ?_⟩
  · rw [List.append_assoc]
    simp only [hA.whole, hB.whole]
  · by_cases hlt : j < A.length
    · rw [List.take_append_of_le_length (by omega)]
      simp only [hA.cut j hlt]
    · rw [List.length_append] at hj
      rw [List.take_append, List.take_of_length_le (by omega)]
      simp only [hA.whole, hB.cut (j - A.length) (by omega)]

theorem readR_plain {n : Nat} (rest : List UInt8) (h : n < 128 ^ 9) : readR (plain n ++ rest) = .ok n (plain n).length := readK_plain 9 0 n rest h (fun h => absurd h (by omega)) (by omega)

theorem readR_cut {n j : Nat} (h : n < 128 ^ 9) (hj : j < (plain n).length) : readR ((plain n).take j) = .fin := readK_cut 9 0 n j h (by omega) hj

theorem readR_ok {L : List UInt8} {n u : Nat} (h : readR L = .ok n u) : L = plain n ++ L.drop u ∧ u = (plain n).length ∧ n < 128 ^ 9 := by
  obtain ⟨h1, h2, h3, _⟩ := readK_ok 9 0 L h
  exact ⟨h1, h2, h3⟩

theorem cnt_good {most n : Nat} (h : n ≤ most) (h9 : n < 128 ^ 9) : Good (cnt most) (plain n) n := by
  refine ⟨fun rest => ?_, fun j hj => ?_⟩
  · unfold cnt
    rw [readR_plain rest h9]
    simp only [if_neg (show ¬ most < n by omega), List.drop_left]
  · unfold cnt
    rw [readR_cut h9 hj]

theorem numF_good {n : Nat} (h9 : n < 128 ^ 9) : Good numF (plain n) n := by
  refine ⟨fun rest => ?_, fun j hj => ?_⟩
  · unfold numF
    rw [readR_plain rest h9]
    simp only [List.drop_left]
  · unfold numF
    rw [readR_cut h9 hj]

theorem numsF_good : ∀ (ns : List Int), (∀ n ∈ ns, numOk n) → Good (numsF ns.length) (numsL ns) ns
  | [], _ => ⟨fun _ => rfl, fun j hj => absurd hj (by simp [numsL])⟩
  | z :: ns, h => by
    have hz := h z (List.mem_cons_self ..)
    have h1 := numF_good (zig_lt hz)
    have h2 := numsF_good ns (fun n hn => h n (List.mem_cons_of_mem _ hn))
    have h3 := Good.then (h := fun n (ns : List Int) => unzig n :: ns) h1 (g := fun _ => numsF ns.length) h2
    rw [unzig_zig] at h3
    refine h3.of_eq fun L => ?_
    rw [List.length_cons, numsF]
    cases numF L with
    | error e => rfl
    | ok x => obtain ⟨n, r⟩ := x; simp only; cases numsF ns.length r <;> rfl

theorem take_good {t : ByteArray} : Good (fun r => if r.length < t.size then Except.error Er.fin else .ok ((⟨(r.take t.size).toArray⟩ : ByteArray), r.drop t.size)) t.data.toList t := by
  have hl : t.data.toList.length = t.size := Array.length_toList
  refine ⟨fun rest => ?_, fun j hj => ?_⟩
  · rw [if_neg (by rw [List.length_append]; omega), ← hl, List.take_left, List.drop_left]
  · rw [if_pos (by rw [List.length_take]; omega)]

theorem textF_good {t : ByteArray} (h : t.size ≤ 4096) : Good textF (textL t) t := by
  have h1 := cnt_good (most := 4096) (n := t.size) h (by show _ < 9223372036854775808; omega)
  refine ⟨fun rest => ?_, fun j hj => ?_⟩
  · unfold textF textL
    rw [List.append_assoc, h1.whole]
    exact take_good.whole rest
  · unfold textF
    by_cases hlt : j < (plain t.size).length
    · unfold textL
      rw [List.take_append_of_le_length (by omega), h1.cut j hlt]
    · unfold textL at hj ⊢
      rw [List.length_append] at hj
      rw [List.take_append, List.take_of_length_le (by omega), h1.whole]
      exact take_good.cut (j - (plain t.size).length) (by omega)

theorem textsF_good : ∀ (ts : List ByteArray), (∀ t ∈ ts, t.size ≤ 4096) → Good (textsF ts.length) (textsL ts) ts
  | [], _ => ⟨fun _ => rfl, fun j hj => absurd hj (by simp [textsL])⟩
  | t :: ts, h => by
    have h1 := textF_good (h t (List.mem_cons_self ..))
    have h2 := textsF_good ts (fun n hn => h n (List.mem_cons_of_mem _ hn))
    have h3 := Good.then (h := fun t (ts : List ByteArray) => t :: ts) h1 (g := fun _ => textsF ts.length) h2
    refine h3.of_eq fun L => ?_
    rw [List.length_cons, textsF]
    cases textF L with
    | error e => rfl
    | ok x => obtain ⟨n, r⟩ := x; simp only; cases textsF ts.length r <;> rfl

theorem decL_bytes {ns : List Int} {ts : List ByteArray} (h : MayBe ns ts) (rest : List UInt8) : decL (bytesL ns ts ++ rest) = if rest = [] then .ok (ns, ts) else .error (.bad rest.length 3) := by
  obtain ⟨h1, h2, h3, h4⟩ := h
  unfold decL bytesL
  rw [List.append_assoc, (cnt_good h1 (by show _ < 9223372036854775808; omega)).whole]
  simp only
  rw [List.append_assoc, (numsF_good ns h3).whole]
  simp only
  rw [List.append_assoc, (cnt_good h2 (by show _ < 9223372036854775808; omega)).whole]
  simp only
  rw [(textsF_good ts h4).whole]

theorem decL_back {ns : List Int} {ts : List ByteArray} (h : MayBe ns ts) : decL (bytesL ns ts) = .ok (ns, ts) := by
  have := decL_bytes h []
  rwa [List.append_nil, if_pos rfl] at this

theorem decL_cut {ns : List Int} {ts : List ByteArray} (h : MayBe ns ts) {j : Nat} (hj : j < (bytesL ns ts).length) : decL ((bytesL ns ts).take j) = .error .fin := by
  obtain ⟨h1, h2, h3, h4⟩ := h
  have g1 := cnt_good (most := 1024) (n := ns.length) h1 (by show _ < 9223372036854775808; omega)
  have g2 := numsF_good ns h3
  have g3 := cnt_good (most := 1024) (n := ts.length) h2 (by show _ < 9223372036854775808; omega)
  have g4 := textsF_good ts h4
  unfold bytesL at hj ⊢
  unfold decL
  rw [List.length_append, List.length_append, List.length_append] at hj
  by_cases c1 : j < (plain ns.length).length
  · rw [List.take_append_of_le_length (by omega), g1.cut j c1]
  · rw [List.take_append, List.take_of_length_le (by omega), g1.whole]
    simp only
    by_cases c2 : j - (plain ns.length).length < (numsL ns).length
    · rw [List.take_append_of_le_length (by omega), g2.cut _ c2]
    · rw [List.take_append, List.take_of_length_le (by omega), g2.whole]
      simp only
      by_cases c3 : j - (plain ns.length).length - (numsL ns).length < (plain ts.length).length
      · rw [List.take_append_of_le_length (by omega), g3.cut _ c3]
      · rw [List.take_append, List.take_of_length_le (by omega), g3.whole]
        simp only
        rw [g4.cut _ (by omega)]

/-! ### and back -/

theorem cnt_ok {most n : Nat} {L r : List UInt8} (h : cnt most L = .ok (n, r)) : L = plain n ++ r ∧ n ≤ most ∧ n < 128 ^ 9 := by
  unfold cnt at h
  cases hr : readR L with
  | fin => rw [hr] at h; cases h
  | form => rw [hr] at h; cases h
  | ok m u =>
    obtain ⟨e1, _, e3⟩ := readR_ok hr
    rw [hr] at h
    simp only at h
    split at h
    · cases h
    · simp only [Except.ok.injEq, Prod.mk.injEq] at h
      obtain ⟨rfl, rfl⟩ := h
      exact ⟨e1, by omega, e3⟩

theorem numF_ok {n : Nat} {L r : List UInt8} (h : numF L = .ok (n, r)) : L = plain n ++ r ∧ n < 128 ^ 9 := by
  unfold numF at h
  cases hr : readR L with
  | fin => rw [hr] at h; cases h
  | form => rw [hr] at h; cases h
  | ok m u =>
    obtain ⟨e1, _, e3⟩ := readR_ok hr
    rw [hr] at h
    simp only [Except.ok.injEq, Prod.mk.injEq] at h
    obtain ⟨rfl, rfl⟩ := h
    exact ⟨e1, e3⟩

theorem numsF_ok : ∀ (k : Nat) {L r : List UInt8} {ns : List Int}, numsF k L = .ok (ns, r) → L = numsL ns ++ r ∧ ns.length = k ∧ ∀ n ∈ ns, numOk n
  | 0, L, r, ns, h => by
    simp only [numsF, Except.ok.injEq, Prod.mk.injEq] at h
    obtain ⟨rfl, rfl⟩ := h
    exact ⟨rfl, rfl, fun n hn => absurd hn (by simp)⟩
  | k + 1, L, r, ns, h => by
    rw [numsF] at h
    cases h1 : numF L with
    | error e => rw [h1] at h; cases h
    | ok x =>
      obtain ⟨n, r1⟩ := x
      obtain ⟨e1, e2⟩ := numF_ok h1
      rw [h1] at h
      simp only at h
      cases h2 : numsF k r1 with
      | error e => rw [h2] at h; cases h
      | ok y =>
        obtain ⟨ns', r2⟩ := y
        obtain ⟨f1, f2, f3⟩ := numsF_ok k h2
        rw [h2] at h
        simp only [Except.ok.injEq, Prod.mk.injEq] at h
        obtain ⟨rfl, rfl⟩ := h
        refine ⟨?_, by rw [List.length_cons, f2], fun z hz => ?_⟩
        · rw [e1, f1]
          show _ = (signed (unzig n) ++ numsL ns') ++ r2
          unfold signed
          rw [zig_unzig, List.append_assoc]
        · rcases List.mem_cons.1 hz with rfl | hz
          · exact unzig_ok e2
          · exact f3 z hz

theorem textF_ok {t : ByteArray} {L r : List UInt8} (h : textF L = .ok (t, r)) : L = textL t ++ r ∧ t.size ≤ 4096 := by
  unfold textF at h
  cases h1 : cnt 4096 L with
  | error e => rw [h1] at h; cases h
  | ok x =>
    obtain ⟨n, r1⟩ := x
    obtain ⟨e1, e2, _⟩ := cnt_ok h1
    rw [h1] at h
    simp only at h
    split at h
    · cases h
    · simp only [Except.ok.injEq, Prod.mk.injEq] at h
      obtain ⟨rfl, rfl⟩ := h
      have hz : (⟨(r1.take n).toArray⟩ : ByteArray).size = n := by
        show (r1.take n).toArray.size = n
        rw [List.size_toArray, List.length_take]; omega
      unfold textL
      rw [hz]
      refine ⟨?_, e2⟩
      rw [e1, List.append_assoc]
      congr 1
      exact (List.take_append_drop n r1).symm

theorem textsF_ok : ∀ (k : Nat) {L r : List UInt8} {ts : List ByteArray}, textsF k L = .ok (ts, r) → L = textsL ts ++ r ∧ ts.length = k ∧ ∀ t ∈ ts, t.size ≤ 4096
  | 0, L, r, ts, h => by
    simp only [textsF, Except.ok.injEq, Prod.mk.injEq] at h
    obtain ⟨rfl, rfl⟩ := h
    exact ⟨rfl, rfl, fun n hn => absurd hn (by simp)⟩
  | k + 1, L, r, ts, h => by
    rw [textsF] at h
    cases h1 : textF L with
    | error e => rw [h1] at h; cases h
    | ok x =>
      obtain ⟨t, r1⟩ := x
      obtain ⟨e1, e2⟩ := textF_ok h1
      rw [h1] at h
      simp only at h
      cases h2 : textsF k r1 with
      | error e => rw [h2] at h; cases h
      | ok y =>
        obtain ⟨ts', r2⟩ := y
        obtain ⟨f1, f2, f3⟩ := textsF_ok k h2
        rw [h2] at h
        simp only [Except.ok.injEq, Prod.mk.injEq] at h
        obtain ⟨rfl, rfl⟩ := h
        refine ⟨?_, by rw [List.length_cons, f2], fun z hz => ?_⟩
        · rw [e1, f1]
          show _ = (textL t ++ textsL ts') ++ r2
          rw [List.append_assoc]
        · rcases List.mem_cons.1 hz with rfl | hz
          · exact e2
          · exact f3 z hz

theorem decL_ok {L : List UInt8} {ns : List Int} {ts : List ByteArray} (h : decL L = .ok (ns, ts)) : MayBe ns ts ∧ L = bytesL ns ts := by
  unfold decL at h
  cases h1 : cnt 1024 L with
  | error e => rw [h1] at h; cases h
  | ok x =>
    obtain ⟨k, r1⟩ := x
    obtain ⟨a1, a2, _⟩ := cnt_ok h1
    rw [h1] at h
    simp only at h
    cases h2 : numsF k r1 with
    | error e => rw [h2] at h; cases h
    | ok x =>
      obtain ⟨ns', r2⟩ := x
      obtain ⟨b1, b2, b3⟩ := numsF_ok k h2
      rw [h2] at h
      simp only at h
      cases h3 : cnt 1024 r2 with
      | error e => rw [h3] at h; cases h
      | ok x =>
        obtain ⟨m, r3⟩ := x
        obtain ⟨c1, c2, _⟩ := cnt_ok h3
        rw [h3] at h
        simp only at h
        cases h4 : textsF m r3 with
        | error e => rw [h4] at h; cases h
        | ok x =>
          obtain ⟨ts', r4⟩ := x
          obtain ⟨d1, d2, d3⟩ := textsF_ok m h4
          rw [h4] at h
          simp only at h
          split at h
          · next hr =>
            simp only [Except.ok.injEq, Prod.mk.injEq] at h
            obtain ⟨rfl, rfl⟩ := h
            refine ⟨⟨by omega, by omega, b3, d3⟩, ?_⟩
            unfold bytesL
            rw [a1, b1, c1, d1, hr, List.append_nil, b2, d2]
          · cases h

/-! ### answers -/

/-- what Check answers -/
def ckE (ns : List Int) (ts : List ByteArray) : Nat :=
  if 1024 < ns.length ∨ 1024 < ts.length then 2 else if ¬ ∀ n ∈ ns, numOk n then 1 else if ¬ ∀ t ∈ ts, t.size ≤ 4096 then 2 else 0

theorem ckE_zero {ns : List Int} {ts : List ByteArray} : ckE ns ts = 0 ↔ MayBe ns ts := by
  unfold ckE MayBe
  constructor
  · intro h
    split at h
    · cases h
    · next h1 =>
      split at h
      · cases h
      · next h2 =>
        split at h
        · cases h
        · next h3 => exact ⟨by omega, by omega, Decidable.not_not.1 h2, Decidable.not_not.1 h3⟩
  · rintro ⟨h1, h2, h3, h4⟩
    rw [if_neg (by omega), if_neg (by simpa using h3), if_neg (by simpa using h4)]

/-- how long a pack's bytes may be -/
theorem numsL_le : ∀ (ns : List Int), (∀ n ∈ ns, numOk n) → (numsL ns).length ≤ 9 * ns.length
  | [], _ => by simp [numsL]
  | z :: ns, h => by
    have h1 := (signed_len (h z (List.mem_cons_self ..))).2
    have h2 := numsL_le ns (fun n hn => h n (List.mem_cons_of_mem _ hn))
    show (signed z ++ numsL ns).length ≤ _
    rw [List.length_append, List.length_cons]
    omega

theorem textL_le {t : ByteArray} (h : t.size ≤ 4096) : (textL t).length ≤ 4105 := by
  have h1 := plain_len 9 t.size (by show _ < 9223372036854775808; omega) (by omega)
  have h2 : t.data.toList.length = t.size := Array.length_toList
  unfold textL
  rw [List.length_append]
  omega

theorem textsL_le : ∀ (ts : List ByteArray), (∀ t ∈ ts, t.size ≤ 4096) → (textsL ts).length ≤ 4105 * ts.length
  | [], _ => by simp [textsL]
  | t :: ts, h => by
    have h1 := textL_le (h t (List.mem_cons_self ..))
    have h2 := textsL_le ts (fun n hn => h n (List.mem_cons_of_mem _ hn))
    show (textL t ++ textsL ts).length ≤ _
    rw [List.length_append, List.length_cons]
    omega

theorem bytesL_le {ns : List Int} {ts : List ByteArray} (h : MayBe ns ts) : (bytesL ns ts).length ≤ 5000000 := by
  obtain ⟨h1, h2, h3, h4⟩ := h
  have a1 := plain_len 9 ns.length (by show _ < 9223372036854775808; omega) (by omega)
  have a2 := plain_len 9 ts.length (by show _ < 9223372036854775808; omega) (by omega)
  have a3 := numsL_le ns h3
  have a4 := textsL_le ts h4
  unfold bytesL
  rw [List.length_append, List.length_append, List.length_append]
  omega

end Pk
end Go.Proofs.Ytkpcfakfkcghdaa

/- What the walks of layers from the fifth on use, of texts, rows and numbers, and contracts of the functions that all layers' laws use; no condition but the range. -/
namespace Go.Proofs.Ytkpcfakfkcghdaa
namespace Bk
open Go.ChangeShapes Go.WideShapes Go.ChangeAt Go.RowKit

theorem i64_wrap {x : Int} (h0 : 0 ≤ x) (h1 : x < 9223372036854775808) : IntKind.i64.wrap x = x := by
  simp only [IntKind.wrap, IntKind.bits, IntKind.signed]; simp; omega

theorem ofInt_i64 (a : Nat) (ha : a < 9223372036854775808) : (BitVec.ofInt 64 (a : Int)).toNat = a := by
  rw [BitVec.ofInt_natCast, BitVec.toNat_ofNat]; exact Nat.mod_eq_of_lt (by omega)

theorem i64_xor_nat (a b : Nat) (ha : a < 9223372036854775808) (hb : b < 9223372036854775808) : bits .xor .i64 (a : Int) (b : Int) = ((a ^^^ b : Nat) : Int) := by
  have hx : a ^^^ b < 2 ^ 63 := Nat.xor_lt_two_pow (by omega) (by omega)
  show IntKind.i64.wrap ((BitVec.ofInt 64 (a : Int) ^^^ BitVec.ofInt 64 (b : Int)).toNat : Int) = _
  rw [BitVec.toNat_xor, ofInt_i64 a ha, ofInt_i64 b hb, i64_wrap (by omega) (by omega)]

theorem ret_int {k : IntKind} {a b : Int} (h : a = b) : Ending.returned (.int k a) = .returned (.int k b) := by rw [h]

theorem addr_head (b j : Nat) : (⟨b, 0, none⟩ : Addr).add j = ⟨b, j, none⟩ := by unfold Addr.add; split <;> simp_all

theorem below_append {H : Nat} {w wr w1 : World} {v : Value} {o : Obj} {e : TypeId} {n : Nat} {xs : List Value} (hown : wr.ownsRow H e 1 v n xs) (hb : Below H w wr) (hH : H ≤ w.heap.size) (hg : (wr.alloc o).grownBy w1 v.ownBlock) : Below H w w1 :=
  (hb.alloc (Nat.le_trans hH hb.size) o).grown hg (by have := hb.size; simp; omega) (fun j hj => (hown.lt j hj).1)

theorem Try.infoU8 : (Try.prog.info? 5).map (fun i => (i.zero, i.size, i.bytes)) = some (some (.int .u8 0), 1, 1) := by kernel_rfl

theorem blk1 (w : World) (A : Obj) : (w.alloc A).heap.size = w.heap.size + 1 ∧ (w.alloc A).heap[w.heap.size]? = some A :=
  ⟨by simp, heap_alloc_new w A⟩

theorem blk2 (w : World) (A B : Obj) : ((w.alloc A).alloc B).heap.size = w.heap.size + 2 ∧ ((w.alloc A).alloc B).heap[w.heap.size]? = some A ∧ ((w.alloc A).alloc B).heap[w.heap.size + 1]? = some B := by
  obtain ⟨s1, b1⟩ := blk1 w A
  obtain ⟨s2, b2⟩ := blk1 (w.alloc A) B
  refine ⟨by omega, ?_, by rw [← s1]; exact b2⟩
  rw [heap_alloc_old _ _ (by omega)]; exact b1

theorem blk3 (w : World) (A B C : Obj) : (((w.alloc A).alloc B).alloc C).heap.size = w.heap.size + 3 ∧ (((w.alloc A).alloc B).alloc C).heap[w.heap.size]? = some A ∧
    (((w.alloc A).alloc B).alloc C).heap[w.heap.size + 1]? = some B ∧ (((w.alloc A).alloc B).alloc C).heap[w.heap.size + 2]? = some C := by
  obtain ⟨s1, b1, b2⟩ := blk2 w A B
  obtain ⟨s2, b3⟩ := blk1 ((w.alloc A).alloc B) C
  refine ⟨by omega, ?_, ?_, by rw [← s1]; exact b3⟩
  · rw [heap_alloc_old _ _ (by omega)]; exact b1
  · rw [heap_alloc_old _ _ (by omega)]; exact b2

theorem blk_cell {w : World} {g j : Nat} {cs : Array Value} {T : TypeId} {v : Value} (h : w.heap[g]? = some (.cells cs T (0, 0))) (hv : cs[j]? = some v) : w.cell? ⟨g, j, none⟩ = some v :=
  (cell_of_row w g j cs T (0, 0) h).trans hv

theorem blk_free {w : World} {g : Nat} {cs : Array Value} {T : TypeId} (h : w.heap[g]? = some (.cells cs T (0, 0))) : ∀ j, w.frozen? ⟨g, j, none⟩ = false := fun j => frozen_of_row w g j cs T h

theorem below_new {w w1 : World} {o : Obj} (h : Below (w.alloc o).heap.size (w.alloc o) w1) : Below w.heap.size w w1 :=
  ((Below.refl _ w).alloc (Nat.le_refl _) o).trans (h.mono (by simp))

/-- a cell of an old block, wherever it points -/
theorem cell_kept {B : Nat} {w w1 : World} (h : Below B w w1) (a : Addr) (ha : a.block < B) : w1.cell? a = w.cell? a := by
  unfold World.cell?
  rw [h.block a.block ha]

def strV (l : List ByteArray) : List Value := l.map Value.string

theorem strV_len (l : List ByteArray) : (strV l).length = l.length := by simp [strV]

theorem strV_at {l : List ByteArray} {i : Nat} (h : i < l.length) : (strV l)[i]? = some (.string l[i]) := by
  unfold strV
  rw [List.getElem?_map, List.getElem?_eq_getElem h]; rfl

theorem Try.infoStr : (Try.prog.info? 9).map (fun i => (i.zero, i.size, i.bytes)) = some (some (.string ⟨#[]⟩), 1, 16) := by kernel_rfl

theorem st_block (a : Addr) (n : Nat) : (a.add n).block = a.block := by unfold Addr.add; split <;> rfl

/-- the slice v holds the texts l -/
def StrsAt (w : World) (A : Option Addr) (l : List ByteArray) : Prop :=
  0 < l.length → ∃ ad, A = some ad ∧ ad.block < w.heap.size ∧ ∀ i (h : i < l.length), w.cell? (ad.add i) = some (.string l[i])

theorem StrsAt.below {w w' : World} {A : Option Addr} {l : List ByteArray} (h : StrsAt w A l) (hb : Below w.heap.size w w') : StrsAt w' A l := fun hp => by
  obtain ⟨ad, h1, h2, h3⟩ := h hp
  exact ⟨ad, h1, Nat.lt_of_lt_of_le h2 hb.size, fun i hi => (cell_kept hb _ (by rw [st_block]; exact h2)).trans (h3 i hi)⟩

theorem StrsAt.alloc {w : World} {A : Option Addr} {l : List ByteArray} (h : StrsAt w A l) (o : Obj) : StrsAt (w.alloc o) A l := h.below ((Below.refl _ w).alloc (Nat.le_refl _) o)

theorem StrsAt.drewN {w : World} {A : Option Addr} {l : List ByteArray} (h : StrsAt w A l) (n : Nat) : StrsAt (w.drewN n) A l := h

theorem StrsAt.blk {w : World} {g : Nat} {t : TypeId} {l : List ByteArray} (h : w.heap[g]? = some (.cells (strV l).toArray t (0, 0))) : StrsAt w (some ⟨g, 0, none⟩) l := fun _ =>
  ⟨_, rfl, (Array.getElem?_eq_some_iff.1 h).1, fun i hi => by rw [addr_head]; exact blk_cell h (by rw [List.getElem?_toArray]; exact strV_at hi)⟩

theorem StrsAt.own {w : World} {H g n cap : Nat} {e : TypeId} {l : List ByteArray} (h : w.ownsRow H e 1 (.slice (some ⟨g, 0, none⟩) n cap) n (strV l)) (hl : n = l.length) : StrsAt w (some ⟨g, 0, none⟩) l := fun hp => by
  have hf := World.ownsRow.cellAt h
  refine ⟨_, rfl, ?_, fun i hi => ?_⟩
  · obtain ⟨g', cap', hv, _, hlt⟩ := World.ownsRow.form h (by omega)
    simp only [Value.slice.injEq, Option.some.injEq, Addr.mk.injEq] at hv
    obtain ⟨⟨rfl, -⟩, -⟩ := hv
    exact hlt
  · rw [addr_head, hf i (by omega)]
    exact strV_at hi

theorem add_zero' (ad : Addr) : ad.add 0 = ad := by simp [Addr.add]

/-- what the call owns stays owned while no old block is written -/
theorem st_keep {H size n : Nat} {w W : World} {e : TypeId} {v : Value} {xs : List Value} (h : w.ownsRow H e size v n xs) (hb : Below w.heap.size w W) : W.ownsRow H e size v n xs := by
  refine ⟨h.1, ?_⟩
  rcases h.2 with h' | ⟨g, cap, cur, hv, h1, h2, h3⟩
  · exact .inl h'
  · exact .inr ⟨g, cap, cur, hv, h1, (hb.block g (Array.getElem?_eq_some_iff.1 h2).1).trans h2, h3⟩

theorem own_bytes {w : World} {H g n cap : Nat} {L : List UInt8} (h : w.ownsRow H 5 1 (.slice (some ⟨g, 0, none⟩) n cap) n (Lib.byteCells L)) (hn : n = L.length) (lo m c : Nat) (hlo : lo + m ≤ L.length) :
    (convert 86 9 (.slice (some ⟨g, lo, none⟩) m c)).run Try.prog w = .ok (.string ⟨((L.drop lo).take m).toArray⟩) w := by
  have hlen : ((L.drop lo).take m).length = m := by rw [List.length_take, List.length_drop]; omega
  have := run_convert_bytes_back (P := Try.prog) w 86 9 5 ⟨g, lo, none⟩ c ((L.drop lo).take m) Try.underlying86 Try.underlying5 Try.underlying9 (fun j hj => by
    have hj' : j < m := by rw [hlen] at hj; exact hj
    have hadd : (⟨g, lo, none⟩ : Addr).add j = ⟨g, lo + j, none⟩ := by unfold Addr.add; split <;> simp_all
    rw [hadd, World.ownsRow.cellAt h (lo + j) (by omega)]
    unfold Lib.byteCells
    rw [List.getElem?_map, List.getElem?_eq_getElem (by omega), Option.map_some, List.getElem_take, List.getElem_drop])
  rwa [hlen] at this

theorem owns_blk0 {w : World} {H g n : Nat} {e : TypeId} {xs : List Value} (h : w.ownsRow H e 1 (.slice (some ⟨g, 0, none⟩) n n) n xs) : w.heap[g]? = some (.cells xs.toArray e (0, 0)) := by
  rcases h.2 with ⟨h', _⟩ | ⟨g', cap', cur, h', _, hg, _, _, hcs, htake⟩
  · simp at h'
  · simp only [Value.slice.injEq, Option.some.injEq, Addr.mk.injEq, and_true, true_and] at h'
    obtain ⟨rfl, rfl⟩ := h'
    rw [Nat.mul_one] at hcs htake
    rw [List.take_of_length_le (by rw [Array.length_toList]; omega)] at htake
    rw [hg, ← htake]

theorem text_ne {s t : ByteArray} (h : s ≠ t) : (s.toList == t.toList) = false := by
  rw [beq_eq_false_iff_ne]
  intro e
  rw [ByteArray.toList_eq, ByteArray.toList_eq] at e
  apply h
  obtain ⟨a⟩ := s
  obtain ⟨b⟩ := t
  congr 1
  exact Array.toList_inj.1 e

theorem text_eq (s : ByteArray) : (s.toList == s.toList) = true := by simp

set_option maxRecDepth 20000 in
set_option maxHeartbeats 2000000 in
theorem same_any (A B : Option Addr) (c d : Nat) (a b : List ByteArray) (w : World) (ha : StrsAt w A a) (hb : StrsAt w B b) (hn : a.length ≤ 9223372036854775807) :
    Calls Try.prog 35 #[.slice A a.length c, .slice B b.length d] w fun e w' => e = .returned (.bool (decide (a = b))) ∧ ∃ n, w' = w.drewN n := by
  by_cases hl : a.length = b.length
  · have q1 : ((a.length : Int) != (b.length : Int)) = false := by simp [hl]
    have HA := Lib.hid ha
    have HB := Lib.hid hb
    have HL := Lib.hid hl
    clear ha hb hl
    go_enter Try.func35, Try.ntmps35
    go_wp2_with fail
    go_loopw [5] (fun i wr => ∃ j n : Nat, j ≤ a.length ∧ i = .int .i64 (j : Int) ∧ Hid (∀ x (h : x < a.length) (h2 : x < b.length), x < j → a[x] = b[x]) ∧ wr = w.drewN n) (fun i _ => a.length - (intOf i).toNat)
    case atStart => exact ⟨0, 0, by omega, rfl, fun x _ _ h => absurd h (by omega), rfl⟩
    case round =>
      obtain ⟨j, n, hj, rfl, heq, rfl⟩ := hrel
      by_cases hlt : j < a.length
      · have hltb : j < b.length := by rw [← HL.out]; exact hlt
        obtain ⟨ad, rfl, _, hca⟩ := HA.out (by omega)
        obtain ⟨bd, rfl, _, hcb⟩ := HB.out (by omega)
        have c1 := hca j hlt
        have c2 := hcb j hltb
        have p1 : (j : Int) < (a.length : Int) := by omega
        have p2 : (j : Int) < (b.length : Int) := by omega
        clear hca hcb
        generalize hW : w.drewN n = W
        have HW := Lib.hid hW
        have c1' : W.cell? (ad.add j) = some (.string a[j]) := by rw [← hW]; exact c1
        have c2' : W.cell? (bd.add j) = some (.string b[j]) := by rw [← hW]; exact c2
        clear hW c1 c2
        by_cases hx : a[j] = b[j]
        · have q2 : (a[j].toList == b[j].toList) = true := by rw [hx]; simp
          have HX := Lib.hid hx
          clear hx
          go_wp2_with fail
          go_quiet (fail)
          go_wp2
          go_roundw
          case rel => exact ⟨j + 1, _, by omega, by go_num, (fun x h h2 hxj => by
            by_cases e : x = j
            · subst e; exact HX.out
            · exact heq.out x h h2 (by omega)), by rw [← HW.out, World.drewN_drewN]⟩
          case measure => simp [intOf]; omega
        · have q2 : (a[j].toList == b[j].toList) = false := text_ne hx
          have E := Lib.hid (show decide (a = b) = false by rw [decide_eq_false_iff_not]; intro e; exact hx (by simp only [e]))
          clear hx
          go_wp2_with fail
          go_quiet (fail)
          go_wp2
          go_ret
          exact ⟨by rw [E.out]; rfl, _, by rw [← HW.out, World.drewN_drewN]⟩
      · have E := Lib.hid (show decide (a = b) = true by
          rw [decide_eq_true_eq]
          exact List.ext_getElem HL.out fun x h h2 => heq.out x h h2 (by omega))
        go_wp2_with fail
        go_ret
        exact ⟨by rw [E.out]; rfl, _, rfl⟩
  · have q1 : ((a.length : Int) != (b.length : Int)) = true := by simp; omega
    have E := Lib.hid (show decide (a = b) = false by rw [decide_eq_false_iff_not]; intro e; exact hl (by rw [e]))
    clear hl ha hb
    go_enter Try.func35, Try.ntmps35
    go_wp2_with fail
    go_ret
    exact ⟨by rw [E.out]; rfl, 0, rfl⟩

/-- the slice v holds the texts l, in blocks that are there -/
def TextsOf (w : World) (v : Value) (l : List ByteArray) : Prop :=
  ∃ (A : Option Addr) (c : Nat), v = .slice A l.length c ∧ StrsAt w A l ∧ (A = none → l = [] ∧ c = 0) ∧ l.length * 16 ≤ 140737488351232 ∧ (∀ s ∈ l, s.size ≤ 140737488351232) ∧ l.length ≤ c ∧ c ≤ maxLen

theorem weights_strs {H : Type} (P : Program) (e : TypeId) : ∀ (ss : List ByteArray) (s : ByteArray), s ∈ ss → s.size ∈ DataW.weightsAll (H := H) P e (strs ss)
  | [], _, h => by simp at h
  | x :: r, s, h => by
    show s.size ∈ (DataW.lit (H := H) (.string x.data.toList)).weights P e ++ DataW.weightsAll P e (strs r)
    rw [List.mem_append]
    rcases List.mem_cons.1 h with rfl | h
    · left
      show s.size ∈ [s.data.toList.length]
      simp
    · exact .inr (weights_strs P e r s h)

set_option maxRecDepth 20000 in
theorem open_textsOf2 {H : Type} {enc : TypeId × Value → H} {W : World} {base : Nat} {t e : TypeId} {v : Value} {d : DataW H} {p : List MemPlace} {ts : List TypeId} {ds : List (DataW H)} {j : Nat}
    (ht : Try.prog.underlying t = some (.slice e)) (he : Try.prog.underlying e = some .string) (hc : Try.prog.cellsOf e = 1)
    (hsz : (DataW.weightsEach Try.prog ts ds).all (· ≤ reachBytes) = true) (hj : ts[j]? = some t) (hd : ds[j]? = some d) (hb16 : Try.prog.bytesOf e = 16)
    (hv : Value.okWide Try.prog W .any base t v) (h : DataW.Trod enc Try.prog W 0 (fun _ => true) true t v d p) (hl : ∀ x ∈ p, x.block < W.heap.size) : ∃ L, TextsOf W v L ∧ ((d = .nil ∧ L = []) ∨ ∃ r, d = .slice (strs L) r) := by
  obtain ⟨a0, len, cap, rfl⟩ := okWide_slice ht hv
  obtain ⟨fuel, hf⟩ := h
  rcases open_strings ht he hc hf with ⟨hcs, hx⟩ | ⟨a, len', cap', zs, hcs, _, hl', hm, hz, hx, hcell, hwz⟩
  · simp [Value.cells] at hcs
    obtain ⟨rfl, rfl, rfl⟩ := hcs
    exact ⟨[], ⟨none, 0, rfl, fun h => absurd h (by simp), fun _ => ⟨rfl, rfl⟩, by simp, by simp, by simp, Nat.zero_le _⟩, .inl ⟨by simpa using congrArg Prod.fst hx, rfl⟩⟩
  · simp [Value.cells] at hcs
    obtain ⟨rfl, rfl, rfl⟩ := hcs
    simp only [Prod.mk.injEq] at hx
    obtain ⟨rfl, rfl⟩ := hx
    simp only [if_true] at hz
    have hlen : (zs.take len).length = len := by rw [List.length_take]; omega
    have hs := sized_slice hsz hj hd ht
    rw [hb16] at hs
    have hs2 : (zs.take len).length * 16 ≤ reachBytes := by
      refine Nat.le_trans (Nat.mul_le_mul_right 16 ?_) hs
      simp only [strs, List.length_map]
      omega
    refine ⟨zs.take len, ⟨some a, cap, by rw [hlen], fun hpos => ⟨a, rfl, ?_, fun i hi => ?_⟩, fun h => (by cases h), hs2, fun s hs' => ?_, by rw [hlen]; exact hl', hm⟩, .inr ⟨_, rfl⟩⟩
    · obtain ⟨b, off, spot⟩ := a
      exact hl (.cell b off) (MemPlace.mem_row.2 ⟨0, by omega, by simp⟩)
    · have h1 := hcell i (by omega)
      rw [h1]
      congr 2
      rw [List.getElem_take, List.getD_eq_getElem?_getD, List.getElem?_eq_getElem (by omega), Option.getD_some]
    · have h1 := List.all_eq_true.1 hsz _ (DataW.weights_mem_each hj hd s.size (by
        simp only [DataW.weights, ht, List.mem_cons, List.mem_append]
        exact .inr (.inl (weights_strs _ _ _ _ hs'))))
      have h2 : s.size ≤ reachBytes := by simpa using h1
      exact h2

def markS : ByteArray := ⟨#[109, 97, 114, 107]⟩

theorem StrsAt.news {w : World} {ad : Addr} {l : List ByteArray} (h : StrsAt w (some ad) l) : ∀ j u, (strV l)[j]? = some u → w.cell? (ad.add j) = some u := fun j u hu => by
  have hj : j < l.length := by
    have := (List.getElem?_eq_some_iff.1 hu).1
    rwa [strV_len] at this
  obtain ⟨a', e, _, h3⟩ := h (by omega)
  obtain rfl := Option.some.inj e
  rw [strV_at hj] at hu
  rw [← hu]
  exact h3 j hj

theorem lent_strs {w : World} {H g cap : Nat} {l : List ByteArray} (h : w.ownsRow H 9 1 (.slice (some ⟨g, 0, none⟩) (l.length + 1) cap) (l.length + 1) (strV l ++ [.string markS])) : StrsAt w (some ⟨g, 0, none⟩) l := fun _ => by
  have hf := World.ownsRow.cellAt h
  refine ⟨_, rfl, ?_, fun i hi => ?_⟩
  · obtain ⟨g', cap', hv, _, hlt⟩ := World.ownsRow.form h (by omega)
    simp only [Value.slice.injEq, Option.some.injEq, Addr.mk.injEq] at hv
    obtain ⟨⟨rfl, -⟩, -⟩ := hv
    exact hlt
  · rw [addr_head, hf i (by omega), List.getElem?_append_left (by rw [strV_len]; exact hi)]
    exact strV_at hi

theorem lent_mark {w : World} {H g cap : Nat} {l : List ByteArray} (h : w.ownsRow H 9 1 (.slice (some ⟨g, 0, none⟩) (l.length + 1) cap) (l.length + 1) (strV l ++ [.string markS])) : w.cell? ⟨g, l.length, none⟩ = some (.string ⟨#[109, 97, 114, 107]⟩) := by
  rw [World.ownsRow.cellAt h l.length (by omega), List.getElem?_append_right (by rw [strV_len]; exact Nat.le_refl _), strV_len, Nat.sub_self]
  rfl

/-- a number from 0 to n - 1 -/
def amongV (x : Int) (n : Nat) : Nat := (x % (n : Int)).toNat

theorem amongV_lt (x : Int) (n : Nat) (h : 1 ≤ n) : amongV x n < n := by
  have h1 := Int.emod_nonneg x (show (n : Int) ≠ 0 by omega)
  have h2 := Int.emod_lt_of_pos x (show (0 : Int) < n by omega)
  unfold amongV
  omega

theorem amongV_emod (x : Int) (n : Nat) (h : 1 ≤ n) : ((amongV x n : Nat) : Int) = x % (n : Int) := by
  have h1 := Int.emod_nonneg x (show (n : Int) ≠ 0 by omega)
  unfold amongV
  omega

theorem among_eq (x : Int) (n : Nat) (h1 : 1 ≤ n) : (x.tmod (n : Int) + (n : Int)).tmod (n : Int) = ((amongV x n : Nat) : Int) ∧ -(n : Int) < x.tmod (n : Int) ∧ x.tmod (n : Int) < (n : Int) := by
  have a1 : x.tmod (n : Int) < (n : Int) := Int.tmod_lt_of_pos x (by omega)
  have a2 : -(n : Int) < x.tmod (n : Int) := by
    rcases Int.le_total 0 x with h | h
    · have := Int.tmod_nonneg (n : Int) h; omega
    · have := Int.tmod_lt_of_pos (-x) (show (0 : Int) < n by omega)
      rw [Int.neg_tmod] at this
      omega
  refine ⟨?_, a2, a1⟩
  rw [Int.tmod_eq_emod_of_nonneg (by omega), amongV_emod x n h1, Int.add_emod_right, Int.tmod_def, Int.sub_mul_emod_self_left]

set_option maxHeartbeats 1000000 in
theorem among_any (x : Int) (n : Nat) (w : World) (h1 : 1 ≤ n) (h2 : n ≤ 1000000) :
    Calls Try.prog 13 #[.int .i64 x, .int .i64 (n : Int)] w fun e w' => e = .returned (.int .i64 ((amongV x n : Nat) : Int)) ∧ w' = w := by
  obtain ⟨e1, e2, e3⟩ := among_eq x n h1
  have e4 : ((n : Int) == 0) = false := by simp; omega
  have e6 : wrap64 (x.tmod (n : Int) + (n : Int)) = x.tmod (n : Int) + (n : Int) := IntWalk.wrap64_in _ ⟨by omega, by omega⟩
  have E : Hid ((wrap64 (x.tmod (n : Int) + (n : Int))).tmod (n : Int) = ((amongV x n : Nat) : Int)) := by
    show _ = _
    rw [e6, e1]
  clear e1 e2 e3 e6
  go_enter Try.func13, Try.ntmps13
  go_wp2
  go_ret
  exact ⟨ret_int E.out, rfl⟩

def Cel (w : World) (g : Nat) (t : TypeId) (xs : List Value) : Prop := w.heap[g]? = some (.cells xs.toArray t (0, 0))

section
variable {w w' : World} {g g' i : Nat} {t : TypeId} {xs : List Value} {v : Value}
theorem Cel.lt (h : Cel w g t xs) : g < w.heap.size := (Array.getElem?_eq_some_iff.1 h).1
theorem Cel.cell (h : Cel w g t xs) (hv : xs[i]? = some v) : w.cell? ⟨g, i, none⟩ = some v := blk_cell h (by rw [List.getElem?_toArray]; exact hv)
theorem Cel.free (h : Cel w g t xs) : w.frozen? ⟨g, i, none⟩ = false := blk_free h i
theorem Cel.set (h : Cel w g t xs) : Cel (w.setCell ⟨g, i, none⟩ v) g t (xs.set i v) := by
  unfold Cel at *
  simp [World.setCell, Array.getElem?_modify, h]
theorem Cel.far (h : Cel w g t xs) (hn : g ≠ g') : Cel (w.setCell ⟨g', i, none⟩ v) g t xs := (Below.heap_setCell w ⟨g', i, none⟩ v g hn).trans h
theorem Cel.below (h : Cel w g t xs) (hb : Below w.heap.size w w') : Cel w' g t xs := (hb.block g h.lt).trans h
theorem Cel.drewN (h : Cel w g t xs) (n : Nat) : Cel (w.drewN n) g t xs := h
end

/-- the block stands whole; its mark lies behind its cells -/
def CelM (w : World) (g : Nat) (t : TypeId) (xs : List Value) : Prop := ∃ lo hi, xs.length ≤ lo ∧ w.heap[g]? = some (.cells xs.toArray t (lo, hi))

section
variable {w w' : World} {g i : Nat} {t : TypeId} {xs : List Value} {v : Value}
theorem CelM.lt (h : CelM w g t xs) : g < w.heap.size := by obtain ⟨_, _, _, h⟩ := h; exact (Array.getElem?_eq_some_iff.1 h).1
theorem CelM.cell (h : CelM w g t xs) (hv : xs[i]? = some v) : w.cell? ⟨g, i, none⟩ = some v := by
  obtain ⟨lo, hi, _, h⟩ := h
  rw [cell_of_row w g i _ t (lo, hi) h, List.getElem?_toArray]; exact hv
theorem CelM.free (h : CelM w g t xs) (hi : i < xs.length) : w.frozen? ⟨g, i, none⟩ = false := by
  obtain ⟨lo, hi', h1, h⟩ := h
  simp only [World.frozen?, h, Bool.and_eq_false_iff, decide_eq_false_iff_not]
  left; omega
theorem CelM.set (h : CelM w g t xs) : CelM (w.setCell ⟨g, i, none⟩ v) g t (xs.set i v) := by
  obtain ⟨lo, hi, h1, h⟩ := h
  refine ⟨lo, hi, by rw [List.length_set]; exact h1, ?_⟩
  rw [setCell_eq_setRow w g i _ t (lo, hi) v h, setRow_heap w g _ _ t _ h, List.setIfInBounds_toArray]
theorem CelM.below (h : CelM w g t xs) (hb : Below w.heap.size w w') : CelM w' g t xs := by
  have hl := h.lt
  obtain ⟨lo, hi, h1, h⟩ := h
  exact ⟨lo, hi, h1, (hb.block g hl).trans h⟩
end

/-- two slices share no block -/
def Unlike (u v : Value) : Prop := ∀ j, u.ownBlock = some j → v.ownBlock = some j → False

theorem Unlike.symm {u v : Value} (h : Unlike u v) : Unlike v u := fun j h1 h2 => h j h2 h1

theorem Unlike.ne {u v : Value} (h : Unlike u v) : u.ownBlock = none ∨ u.ownBlock ≠ v.ownBlock := by
  cases e : u.ownBlock with
  | none => exact .inl rfl
  | some j => exact .inr fun e2 => h j e e2.symm

theorem Unlike.next {u v v' : Value} {n m : Nat} (h : Unlike u v) (hu : ∀ j, u.ownBlock = some j → j < n) (hat : v'.ownBlock = v.ownBlock ∨ v'.ownBlock = some m) (hm : n ≤ m) : Unlike u v' := fun j h1 h2 => by
  rcases hat with e | e
  · exact h j h1 (by rw [← e]; exact h2)
  · rw [e] at h2
    have := hu j h1
    simp only [Option.some.injEq] at h2
    omega

def byteAt (s : ByteArray) (p : Nat) : UInt8 := s.data[p]?.getD 0

theorem byteAt_get (s : ByteArray) (p : Nat) (h : p < s.size) : s[p]'h = byteAt s p := by
  unfold byteAt
  have h' : p < s.data.size := h
  rw [Array.getElem?_eq_getElem h']; rfl

/-- a row of values of which the first j stand, behind them zeros -/
def preV (xs : List Value) (z : Value) (j : Nat) : List Value := xs.take j ++ List.replicate (xs.length - j) z

theorem preV_length (xs : List Value) (z : Value) (j : Nat) (h : j ≤ xs.length) : (preV xs z j).length = xs.length := by simp [preV]; omega

theorem preV_set (xs : List Value) (z v : Value) (j : Nat) (h : j < xs.length) (hv : xs[j]? = some v) : (preV xs z j).set j v = preV xs z (j + 1) := by
  have e : xs[j]'h = v := by rw [List.getElem?_eq_getElem h] at hv; exact Option.some.inj hv
  unfold preV
  rw [show xs.length - j = (xs.length - (j + 1)) + 1 from by omega, List.replicate_succ, List.take_succ_eq_append_getElem h, e]
  rw [List.set_append_right _ _ (by simp; omega)]
  simp only [List.length_take, Nat.min_eq_left (Nat.le_of_lt h), Nat.sub_self, List.set_cons_zero, List.append_assoc, List.cons_append, List.nil_append]

theorem preV_at (xs : List Value) (z : Value) (j i : Nat) (h : j ≤ xs.length) (hi : i < xs.length) : ∃ v, (preV xs z j)[i]? = some v :=
  ⟨_, List.getElem?_eq_getElem (by rw [preV_length _ _ _ h]; exact hi)⟩

theorem preV_end (xs : List Value) (z : Value) : preV xs z xs.length = xs := by
  unfold preV
  rw [List.take_length, Nat.sub_self, List.replicate_zero, List.append_nil]

theorem preV_zero (xs : List Value) (z : Value) (n : Nat) (h : xs.length = n) (hz : z.cells = #[z]) : (madeCells z.cells (n * 1)).toList = preV xs z 0 := by
  rw [Nat.mul_one, hz, toList_madeCells_one]
  simp [preV, h]

/-- a text as bytes with a mark behind -/
theorem bytesRow_list (a : ByteArray) (cap : Nat) : ∃ rest : List Value, bytesRow a cap = (Lib.byteCells a.data.toList ++ rest).toArray := by
  refine ⟨List.replicate (cap - a.size) (.int .u8 0), ?_⟩
  apply Array.ext'
  unfold bytesRow
  rw [Array.toList_append, Array.toList_map, Array.toList_replicate]
  rfl

theorem bytes_at (a : ByteArray) (p : Nat) (rest : List Value) (h : p < a.size) : (Lib.byteCells a.data.toList ++ rest)[p]? = some (.int .u8 ((byteAt a p).toNat : Int)) := by
  have h' : p < a.data.size := h
  rw [List.getElem?_append_left (by rw [Lib.byteCells_length, Array.length_toList]; exact h')]
  unfold Lib.byteCells byteAt
  rw [List.getElem?_map, Array.getElem?_toList, Array.getElem?_eq_getElem h']; rfl

/-- 'string(b[lo:hi])' of a row of bytes that is known whole -/
theorem bytes_string {w : World} {g : Nat} {L : List UInt8} (hg : w.heap[g]? = some (.cells (Lib.byteCells L).toArray 5 (0, 0))) (lo n cap : Nat) (h : lo + n ≤ L.length) :
    (convert 86 9 (.slice (some ⟨g, lo, none⟩) n cap)).run Try.prog w = .ok (.string ⟨((L.drop lo).take n).toArray⟩) w := by
  have hlen : ((L.drop lo).take n).length = n := by rw [List.length_take, List.length_drop]; omega
  have := run_convert_bytes_back (P := Try.prog) w 86 9 5 ⟨g, lo, none⟩ cap ((L.drop lo).take n) Try.underlying86 Try.underlying5 Try.underlying9 (fun j hj => by
    have hj' : j < n := by rw [hlen] at hj; exact hj
    have hadd : (⟨g, lo, none⟩ : Addr).add j = ⟨g, lo + j, none⟩ := by unfold Addr.add; split <;> simp_all
    rw [hadd]
    refine blk_cell hg ?_
    rw [List.getElem?_toArray]
    unfold Lib.byteCells
    rw [List.getElem?_map, List.getElem?_eq_getElem (by omega), Option.map_some, List.getElem_take, List.getElem_drop])
  rwa [hlen] at this

theorem owns_lower {w : World} {H H' n : Nat} {v : Value} {e : TypeId} {xs : List Value} (h : w.ownsRow H e 1 v n xs) (hH : H' ≤ H) : w.ownsRow H' e 1 v n xs := by
  refine ⟨h.1, ?_⟩
  rcases h.2 with h' | ⟨g, cap, cur, hv, h1, h2, h3, h4, h5, h6⟩
  · exact .inl h'
  · exact .inr ⟨g, cap, cur, hv, Nat.le_trans hH h1, h2, h3, h4, h5, h6⟩

end Bk
end Go.Proofs.Ytkpcfakfkcghdaa

/- Letters in plain lists: keys that rise, what a letter may be, its numbers and texts; no condition. -/
namespace Go.Proofs.Ytkpcfakfkcghdaa
namespace Lt

def keyOk (s : ByteArray) : Prop := 1 ≤ s.size ∧ s.size ≤ 32
instance (s : ByteArray) : Decidable (keyOk s) := inferInstanceAs (Decidable (_ ∧ _))

/-- a is at most b, as Go compares texts -/
def leT (a b : ByteArray) : Bool := Op.bytesLess a.toList b.toList || a.toList == b.toList

/-- keys, each above the one ahead -/
def Rises (l : List ByteArray) : Prop := ∀ i (h : i < l.length), keyOk l[i] ∧ (0 < i → leT l[i] (l[i - 1]'(by omega)) = false)

theorem Rises.nil : Rises [] := fun i h => absurd h (by simp)

/-- how far the keys rise -/
def RisesTo (l : List ByteArray) (j : Nat) : Prop := ∀ i (h : i < l.length), i < j → keyOk l[i] ∧ (0 < i → leT l[i] (l[i - 1]'(by omega)) = false)

theorem RisesTo.zero (l : List ByteArray) : RisesTo l 0 := fun i _ hj => absurd hj (by omega)

theorem RisesTo.succ {l : List ByteArray} {j : Nat} (h : RisesTo l j) (hj : j < l.length) (hk : keyOk l[j]) (hr : 0 < j → leT l[j] (l[j - 1]'(by omega)) = false) : RisesTo l (j + 1) := fun i hi hij => by
  by_cases e : i = j
  · subst e; exact ⟨hk, hr⟩
  · exact h i hi (by omega)

theorem RisesTo.all {l : List ByteArray} (h : RisesTo l l.length) : Rises l := fun i hi => h i hi hi

theorem not_rises {l : List ByteArray} {j : Nat} (hj : j < l.length) (h : ¬ (keyOk l[j] ∧ (0 < j → leT l[j] (l[j - 1]'(by omega)) = false))) : ¬ Rises l := fun hr => h (hr j hj)

/-- a write -/
structure Wr where
  key : ByteArray
  shard : ByteArray
  dead : Bool

def wrOk (x : Wr) : Prop := x.shard.size ≤ 2052 ∧ ¬ (x.dead = true ∧ x.shard ≠ ⟨#[]⟩)

instance (x : Wr) : Decidable (wrOk x) := inferInstanceAs (Decidable (_ ∧ _))

def WritesOk (l : List Wr) : Prop := l.length ≤ 16 ∧ (∀ x ∈ l, wrOk x) ∧ Rises (l.map Wr.key)

def addr (n : Int) : Prop := (0 ≤ n ∧ n < 12) ∨ (100 ≤ n ∧ n < 116)
def txnOk (n : Int) : Prop := 1 ≤ n ∧ n ≤ 1125899906842623
def stampOk (n : Int) : Prop := 0 ≤ n ∧ n ≤ 1125899906842624

instance (n : Int) : Decidable (addr n) := inferInstanceAs (Decidable (_ ∨ _))
instance (n : Int) : Decidable (txnOk n) := inferInstanceAs (Decidable (_ ∧ _))
instance (n : Int) : Decidable (stampOk n) := inferInstanceAs (Decidable (_ ∧ _))

/-- a letter -/
structure Let where
  kind : Int
  src : Int
  dst : Int
  txn : Int
  ts : Int
  code : Int
  text : ByteArray
  keys : List ByteArray
  ws : List Wr

/-- what its kind lets it have -/
def kindOk (l : Let) : Prop :=
  (l.kind = 1 ∧ (l.keys.length = 1 ∧ (∀ k ∈ l.keys, keyOk k) ∧ l.ws = []) ∧ l.text = ⟨#[]⟩ ∧ l.code = 0) ∨
  (l.kind = 2 ∧ (l.keys.length = 1 ∧ (∀ k ∈ l.keys, keyOk k) ∧ l.ws = []) ∧ l.text.size ≤ 2052 ∧ (l.text = ⟨#[]⟩ ∨ l.code = 1)) ∨
  (l.kind = 3 ∧ l.keys.length ≤ 16 ∧ Rises l.keys ∧ WritesOk l.ws ∧ l.text = ⟨#[]⟩ ∧ l.code = 0) ∨
  (l.kind = 4 ∧ (l.keys = [] ∧ l.ws = [] ∧ l.text = ⟨#[]⟩) ∧ l.code ≤ 1) ∨
  ((l.kind = 5 ∨ l.kind = 6 ∨ l.kind = 7) ∧ (l.keys = [] ∧ l.ws = [] ∧ l.text = ⟨#[]⟩) ∧ l.code = 0) ∨
  (l.kind = 8 ∧ (l.keys = [] ∧ l.ws = [] ∧ l.text = ⟨#[]⟩) ∧ l.code ≤ 2)

def headOk (l : Let) : Prop := addr l.src ∧ addr l.dst ∧ txnOk l.txn ∧ stampOk l.ts ∧ 0 ≤ l.code ∧ l.code ≤ 4

def LetOk (l : Let) : Prop := headOk l ∧ kindOk l

/-- its numbers and texts -/
def numsOf (l : Let) : List Int := [l.kind, l.src, l.dst, l.txn, l.ts, l.code, (l.keys.length : Int)] ++ l.ws.map fun x => if x.dead then 1 else 0
def textsOf (l : Let) : List ByteArray := l.text :: (l.keys ++ l.ws.flatMap fun x => [x.key, x.shard])

def letL (l : Let) : List UInt8 := Pk.bytesL (numsOf l) (textsOf l)

theorem LetOk.bounds {l : Let} (h : LetOk l) : l.keys.length ≤ 16 ∧ l.ws.length ≤ 16 ∧ l.text.size ≤ 2052 ∧ (∀ k ∈ l.keys, keyOk k) ∧ (∀ x ∈ l.ws, keyOk x.key ∧ x.shard.size ≤ 2052) ∧ 1 ≤ l.kind ∧ l.kind ≤ 8 := by
  obtain ⟨_, h⟩ := h
  have e0 : (⟨#[]⟩ : ByteArray).size = 0 := rfl
  have rk : ∀ (m : List ByteArray), Rises m → ∀ k ∈ m, keyOk k := fun m hm k hk => by
    obtain ⟨i, hi, e⟩ := List.mem_iff_getElem.1 hk
    rw [← e]; exact (hm i hi).1
  have rw_ : ∀ (m : List Wr), Rises (m.map Wr.key) → ∀ x ∈ m, keyOk x.key := fun m hm x hx => rk _ hm _ (List.mem_map.2 ⟨x, hx, rfl⟩)
  rcases h with ⟨h1, ⟨h2, h3, h4⟩, h5, _⟩ | ⟨h1, ⟨h2, h3, h4⟩, h5, _⟩ | ⟨h1, h2, h3, ⟨h4, h5, h6⟩, h7, _⟩ | ⟨h1, ⟨h2, h3, h4⟩, _⟩ | ⟨h1, ⟨h2, h3, h4⟩, _⟩ | ⟨h1, ⟨h2, h3, h4⟩, _⟩
  · rw [h4, h5]; exact ⟨by omega, by simp, by rw [e0]; omega, h3, by simp, by omega, by omega⟩
  · rw [h4]; exact ⟨by omega, by simp, h5, h3, by simp, by omega, by omega⟩
  · rw [h7]; exact ⟨h2, h4, by rw [e0]; omega, rk _ h3, fun x hx => ⟨rw_ _ h6 x hx, (h5 x hx).1⟩, by omega, by omega⟩
  all_goals rw [h2, h3, h4]; exact ⟨by simp, by simp, by rw [e0]; omega, by simp, by simp, by omega, by omega⟩

/-- a letter that may be is a pack that may be -/
theorem LetOk.pack {l : Let} (h : LetOk l) : Pk.MayBe (numsOf l) (textsOf l) := by
  obtain ⟨b1, b2, b3, b4, b5, b6, b7⟩ := h.bounds
  obtain ⟨⟨h1, h2, h3, h4, h5, h6⟩, _⟩ := h
  have fl : (l.ws.flatMap fun x => [x.key, x.shard]).length = 2 * l.ws.length := by
    induction l.ws with
    | nil => rfl
    | cons x r ih => simp only [List.flatMap_cons, List.length_append, List.length_cons, List.length_nil]; omega
  refine ⟨?_, ?_, fun n hn => ?_, fun t ht => ?_⟩
  · unfold numsOf
    rw [List.length_append, List.length_map]
    show 7 + _ ≤ _
    omega
  · unfold textsOf
    rw [List.length_cons, List.length_append, fl]
    omega
  · unfold numsOf at hn
    rcases List.mem_append.1 hn with hn | hn
    · simp only [List.mem_cons, List.not_mem_nil, or_false] at hn
      unfold addr at h1 h2
      unfold txnOk at h3
      unfold stampOk at h4
      unfold Pk.numOk
      rcases hn with rfl | rfl | rfl | rfl | rfl | rfl | rfl <;> omega
    · obtain ⟨x, _, rfl⟩ := List.mem_map.1 hn
      unfold Pk.numOk
      split <;> omega
  · unfold textsOf at ht
    rcases List.mem_cons.1 ht with rfl | ht
    · omega
    · rcases List.mem_append.1 ht with ht | ht
      · have := b4 t ht; unfold keyOk at this; omega
      · obtain ⟨x, hx, hx2⟩ := List.mem_flatMap.1 ht
        have := b5 x hx
        unfold keyOk at this
        simp only [List.mem_cons, List.not_mem_nil, or_false] at hx2
        rcases hx2 with rfl | rfl <;> omega

/-- numbers and texts say the letter -/
theorem let_inj {l m : Let} (hn : numsOf l = numsOf m) (ht : textsOf l = textsOf m) : l = m := by
  obtain ⟨k1, a1, b1, c1, d1, e1, t1, ks1, ws1⟩ := l
  obtain ⟨k2, a2, b2, c2, d2, e2, t2, ks2, ws2⟩ := m
  simp only [numsOf, textsOf, List.cons_append, List.nil_append, List.cons.injEq] at hn ht
  obtain ⟨rfl, rfl, rfl, rfl, rfl, rfl, hk, hw⟩ := hn
  obtain ⟨rfl, ht⟩ := ht
  have hk' : ks1.length = ks2.length := by omega
  obtain ⟨rfl, hf⟩ := List.append_inj ht hk'
  have : ∀ (x y : List Wr), (x.map fun z => if z.dead = true then (1 : Int) else 0) = (y.map fun z => if z.dead = true then (1 : Int) else 0) → (x.flatMap fun z => [z.key, z.shard]) = (y.flatMap fun z => [z.key, z.shard]) → x = y := by
    intro x
    induction x with
    | nil => intro y h _; cases y with
      | nil => rfl
      | cons z r => simp at h
    | cons z r ih =>
      intro y h1 h2
      cases y with
      | nil => simp at h1
      | cons z2 r2 =>
        simp only [List.map_cons, List.cons.injEq, List.flatMap_cons, List.cons_append, List.nil_append] at h1 h2
        obtain ⟨g1, g2⟩ := h1
        obtain ⟨g3, g4, g5⟩ := h2
        rw [ih r2 g2 g5]
        congr 1
        obtain ⟨zk, zs, zd⟩ := z
        obtain ⟨yk, ys, yd⟩ := z2
        simp only at g1 g3 g4
        subst g3 g4
        cases zd <;> cases yd <;> simp at g1 ⊢
  rw [this ws1 ws2 hw hf]

theorem letL_inj {l m : Let} (hl : LetOk l) (hm : LetOk m) (h : letL l = letL m) : l = m := by
  have h1 := Pk.decL_back hl.pack
  have h2 := Pk.decL_back hm.pack
  unfold letL at h
  rw [h, h2] at h1
  simp only [Except.ok.injEq, Prod.mk.injEq] at h1
  exact (let_inj h1.1 h1.2).symm

end Lt
end Go.Proofs.Ytkpcfakfkcghdaa
