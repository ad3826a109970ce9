/- Parts of the proof, joined: ScMath, RdMath, BkStr, RdHead, ScRep, ScNone; their conditions stand with each. -/
import Derived.Lib.Strings
import Derived.Lib.Walk
import Derived.Lib.BufferWrite
import Derived.Lib.Hide
import Derived.Laws.MakeOwn
import Derived.WalkKit
import Derived.Test.YtjehjbkcdpidbaaGreatB0
import Derived.Test.YtjehjbkcdpidbaaGreatB1

/- A device in plain lists: what is on it, what waits in its cache, its fuse; what each call does; no condition. -/
namespace Go.Proofs.YtjehjbkcdpidbaaGreat
namespace Sc

/-- a device: of each sector what is on it, and what is in the cache (nothing: empty); its fuse (0: none); is it down? -/
structure Dev where
  on : List ByteArray
  new : List ByteArray
  left : Nat
  down : Bool

def nil0 : ByteArray := ⟨#[]⟩
def zero64 : ByteArray := ⟨(List.replicate 64 (0 : UInt8)).toArray⟩

theorem zero64_size : zero64.size = 64 := by decide
theorem nil0_size : nil0.size = 0 := rfl

/-- a device that may be -/
structure DevOk (D : Dev) : Prop where
  len : D.new.length = D.on.length
  pos : 1 ≤ D.on.length
  max : D.on.length ≤ 2048
  on64 : ∀ s ∈ D.on, s.size = 64
  new64 : ∀ s ∈ D.new, s = nil0 ∨ s.size = 64
  lft : D.left ≤ 1048576

def new0 (n : Nat) : Dev := ⟨List.replicate n zero64, List.replicate n nil0, 0, false⟩

theorem new0_ok {n : Nat} (h1 : 1 ≤ n) (h2 : n ≤ 2048) : DevOk (new0 n) :=
  ⟨by simp [new0], by simpa [new0] using h1, by simpa [new0] using h2, fun s hs => by rw [List.eq_of_mem_replicate hs]; exact zero64_size, fun s hs => .inl (List.eq_of_mem_replicate hs), by simp [new0]⟩

/-- what is read at a place, and the error -/
def rdV (D : Dev) (i : Int) : ByteArray × Int :=
  if D.down = true then (nil0, 90) else if i < 0 ∨ (D.on.length : Int) ≤ i then (nil0, 1) else
  (if D.new.getD i.toNat nil0 = nil0 then D.on.getD i.toNat nil0 else D.new.getD i.toNat nil0, 0)

/-- a write or a flush: is the fuse through? -/
def burn (D : Dev) : Dev × Bool := if D.left = 0 then (D, false) else (⟨D.on, D.new, D.left - 1, D.left == 1⟩, D.left == 1)

/-- a write -/
def wrD (D : Dev) (i : Int) (t : ByteArray) : Dev × Int :=
  if (rdV D i).2 ≠ 0 then (D, (rdV D i).2) else if t.size ≠ 64 then (D, 3) else
  if (burn D).2 = true then ((burn D).1, 90) else (⟨D.on, D.new.set i.toNat t, (burn D).1.left, (burn D).1.down⟩, 0)

/-- a list whose first j places are made anew by f -/
def upd (l : List ByteArray) (j : Nat) (f : Nat → ByteArray) : List ByteArray := (List.range l.length).map fun i => if i < j then f i else l.getD i nil0

theorem upd_len (l : List ByteArray) (j : Nat) (f : Nat → ByteArray) : (upd l j f).length = l.length := by simp [upd]

theorem upd_at {l : List ByteArray} {j : Nat} {f : Nat → ByteArray} {i : Nat} (h : i < (upd l j f).length) (h' : i < l.length) : (upd l j f)[i] = if i < j then f i else l[i] := by
  have e : (upd l j f)[i]? = some (if i < j then f i else l[i]) := by
    unfold upd
    rw [List.getElem?_map, List.getElem?_range h', Option.map_some, List.getD_eq_getElem?_getD, List.getElem?_eq_getElem h']; rfl
  rw [List.getElem?_eq_getElem h] at e
  exact Option.some.inj e

theorem upd_zero (l : List ByteArray) (f : Nat → ByteArray) : upd l 0 f = l := by
  apply List.ext_getElem (upd_len _ _ _)
  intro i h1 h2
  rw [upd_at h1 h2, if_neg (by omega)]

theorem upd_set {l : List ByteArray} {j : Nat} {f : Nat → ByteArray} {t : ByteArray} (_h : j < l.length) (ht : t = f j) : (upd l j f).set j t = upd l (j + 1) f := by
  subst ht
  apply List.ext_getElem (by rw [List.length_set, upd_len, upd_len])
  intro i h1 h2
  rw [List.length_set] at h1
  have h3 : i < l.length := by rw [upd_len] at h1; exact h1
  rw [List.getElem_set, upd_at h1 h3, upd_at h2 h3]
  by_cases e : j = i
  · subst e; rw [if_pos rfl, if_pos (by omega)]
  · rw [if_neg e]
    by_cases e2 : i < j
    · rw [if_pos e2, if_pos (by omega)]
    · rw [if_neg e2, if_neg (by omega)]

/-- the place is as it is to be -/
theorem upd_same {l : List ByteArray} {j : Nat} {f : Nat → ByteArray} (h : j < l.length) (hf : f j = l[j]) : upd l (j + 1) f = upd l j f := by
  rw [← upd_set h rfl, hf]
  apply List.ext_getElem (by rw [List.length_set])
  intro i h1 h2
  have h3 : i < l.length := by rw [upd_len] at h2; exact h2
  rw [List.getElem_set, upd_at h2 h3]
  by_cases e : j = i
  · subst e; rw [if_pos rfl, if_neg (by omega)]
  · rw [if_neg e]

theorem upd_mem {l : List ByteArray} {j : Nat} {f : Nat → ByteArray} {s : ByteArray} (h : s ∈ upd l j f) : (∃ i, i < l.length ∧ i < j ∧ s = f i) ∨ s ∈ l := by
  obtain ⟨i, hi, rfl⟩ := List.mem_iff_getElem.1 h
  have h3 : i < l.length := by rw [upd_len] at hi; exact hi
  rw [upd_at hi h3]
  by_cases e : i < j
  · rw [if_pos e]; exact .inl ⟨i, h3, e, rfl⟩
  · rw [if_neg e]; exact .inr (List.getElem_mem h3)

theorem upd_all (l : List ByteArray) (x : ByteArray) : upd l l.length (fun _ => x) = List.replicate l.length x := by
  apply List.ext_getElem (by rw [upd_len, List.length_replicate])
  intro i h1 h2
  have h3 : i < l.length := by rw [upd_len] at h1; exact h1
  rw [upd_at h1 h3, if_pos h3, List.getElem_replicate]

/-- what lies on the device behind a flush -/
def flushF (D : Dev) (i : Nat) : ByteArray := if D.new.getD i nil0 = nil0 then D.on.getD i nil0 else D.new.getD i nil0

def flD (D : Dev) : Dev × Int :=
  if D.down = true then (D, 90) else if (burn D).2 = true then ((burn D).1, 90) else
  (⟨upd D.on D.on.length (flushF D), upd D.new D.on.length (fun _ => nil0), (burn D).1.left, (burn D).1.down⟩, 0)

def fuD (D : Dev) (n : Int) : Dev × Int :=
  if D.down = true then (D, 90) else if n < 0 ∨ 1048576 < n then (D, 1) else (⟨D.on, D.new, n.toNat, D.down⟩, 0)

/-- how many sectors ahead of a place are in the cache -/
def cnt (new : List ByteArray) (i : Nat) : Nat := ((new.take i).filter fun s => decide (s ≠ nil0)).length

/-- how many bytes of a sector get through -/
def cutN (p : Int) : Nat := if p = 0 then 0 else if p = 1 then 64 else (p % 64).toNat

def torn (o n : ByteArray) (p : Int) : ByteArray := ⟨(n.data.toList.take (cutN p) ++ o.data.toList.drop (cutN p)).toArray⟩

/-- what lies on the device behind a crash -/
def tearF (D : Dev) (ps : List Int) (i : Nat) : ByteArray :=
  if D.new.getD i nil0 = nil0 then D.on.getD i nil0 else torn (D.on.getD i nil0) (D.new.getD i nil0) (ps.getD (cnt D.new i) 0)

def crD (D : Dev) (ps : List Int) : Dev := ⟨upd D.on D.on.length (tearF D ps), upd D.new D.on.length (fun _ => nil0), 0, false⟩

def dirtyN (D : Dev) : Nat := cnt D.new D.new.length

def wiD (D : Dev) : Dev := ⟨upd D.on D.on.length (fun _ => zero64), upd D.new D.on.length (fun _ => nil0), 0, false⟩

theorem cnt_succ {l : List ByteArray} {i : Nat} (h : i < l.length) : cnt l (i + 1) = cnt l i + if l[i] = nil0 then 0 else 1 := by
  unfold cnt
  rw [List.take_add_one, List.getElem?_eq_getElem h, List.filter_append, List.length_append]
  congr 1
  by_cases e : l[i] = nil0
  · simp [e]
  · simp [e]

theorem cnt_le (l : List ByteArray) (i : Nat) : cnt l i ≤ i := by
  unfold cnt
  refine Nat.le_trans (List.length_filter_le _ _) ?_
  rw [List.length_take]; omega

theorem cut_le (p : Int) : cutN p ≤ 64 := by
  unfold cutN
  split
  · omega
  split
  · omega
  omega

theorem torn_size {o n : ByteArray} (ho : o.size = 64) (hn : n.size = 64) (p : Int) : (torn o n p).size = 64 := by
  have h := cut_le p
  show (n.data.toList.take (cutN p) ++ o.data.toList.drop (cutN p)).toArray.size = 64
  have h1 : n.data.toList.length = 64 := hn
  have h2 : o.data.toList.length = 64 := ho
  rw [List.size_toArray, List.length_append, List.length_take, List.length_drop]
  omega

theorem getD_mem {l : List ByteArray} {i : Nat} (h : i < l.length) : l.getD i nil0 ∈ l := by
  rw [List.getD_eq_getElem?_getD, List.getElem?_eq_getElem h]
  exact List.getElem_mem h

theorem getD_at {l : List ByteArray} {i : Nat} (h : i < l.length) : l.getD i nil0 = l[i] := by
  rw [List.getD_eq_getElem?_getD, List.getElem?_eq_getElem h]; rfl

theorem burn_parts (D : Dev) : (burn D).1.on = D.on ∧ (burn D).1.new = D.new ∧ (burn D).1.left ≤ D.left := by
  unfold burn
  split
  · exact ⟨rfl, rfl, Nat.le_refl _⟩
  · exact ⟨rfl, rfl, Nat.sub_le _ _⟩

theorem burn_ok {D : Dev} (h : DevOk D) : DevOk (burn D).1 := by
  obtain ⟨b1, b2, b3⟩ := burn_parts D
  exact ⟨by rw [b1, b2]; exact h.len, by rw [b1]; exact h.pos, by rw [b1]; exact h.max, by rw [b1]; exact h.on64, by rw [b2]; exact h.new64, Nat.le_trans b3 h.lft⟩

theorem wrD_ok {D : Dev} (h : DevOk D) (i : Int) (t : ByteArray) : DevOk (wrD D i t).1 := by
  unfold wrD
  split
  · exact h
  split
  · exact h
  next ht =>
  split
  · exact burn_ok h
  · refine ⟨by rw [List.length_set]; exact h.len, h.pos, h.max, h.on64, fun s hs => ?_, Nat.le_trans (burn_parts D).2.2 h.lft⟩
    rcases List.mem_or_eq_of_mem_set hs with hs | rfl
    · exact h.new64 s hs
    · exact .inr (by simpa using ht)

theorem flush64 {D : Dev} (h : DevOk D) {i : Nat} (hi : i < D.on.length) : (flushF D i).size = 64 := by
  unfold flushF
  have hi2 : i < D.new.length := by rw [h.len]; exact hi
  split
  · exact h.on64 _ (getD_mem hi)
  next hn => exact (h.new64 _ (getD_mem hi2)).resolve_left hn

theorem tear64 {D : Dev} (h : DevOk D) (ps : List Int) {i : Nat} (hi : i < D.on.length) : (tearF D ps i).size = 64 := by
  unfold tearF
  have hi2 : i < D.new.length := by rw [h.len]; exact hi
  split
  · exact h.on64 _ (getD_mem hi)
  next hn => exact torn_size (h.on64 _ (getD_mem hi)) ((h.new64 _ (getD_mem hi2)).resolve_left hn) _

theorem cleared {D : Dev} (h : DevOk D) : ∀ s ∈ upd D.new D.on.length (fun _ => nil0), s = nil0 ∨ s.size = 64 := fun s hs => by
  rcases upd_mem hs with ⟨_, _, _, rfl⟩ | hs
  · exact .inl rfl
  · exact h.new64 s hs

theorem made {D : Dev} (h : DevOk D) {f : Nat → ByteArray} (hf : ∀ i, i < D.on.length → (f i).size = 64) : ∀ s ∈ upd D.on D.on.length f, s.size = 64 := fun s hs => by
  rcases upd_mem hs with ⟨i, hi, _, rfl⟩ | hs
  · exact hf i hi
  · exact h.on64 s hs

theorem flD_ok {D : Dev} (h : DevOk D) : DevOk (flD D).1 := by
  unfold flD
  split
  · exact h
  split
  · exact burn_ok h
  · exact ⟨by rw [upd_len, upd_len]; exact h.len, by rw [upd_len]; exact h.pos, by rw [upd_len]; exact h.max, made h (fun i hi => flush64 h hi), cleared h, Nat.le_trans (burn_parts D).2.2 h.lft⟩

theorem fuD_ok {D : Dev} (h : DevOk D) (n : Int) : DevOk (fuD D n).1 := by
  unfold fuD
  split
  · exact h
  split
  · exact h
  next hn => exact ⟨h.len, h.pos, h.max, h.on64, h.new64, by show n.toNat ≤ 1048576; omega⟩

theorem crD_ok {D : Dev} (h : DevOk D) (ps : List Int) : DevOk (crD D ps) :=
  ⟨by show (upd _ _ _).length = (upd _ _ _).length; rw [upd_len, upd_len]; exact h.len, by show _ ≤ (upd _ _ _).length; rw [upd_len]; exact h.pos, by show (upd _ _ _).length ≤ _; rw [upd_len]; exact h.max, made h (fun i hi => tear64 h ps hi), cleared h, Nat.zero_le _⟩

theorem wiD_ok {D : Dev} (h : DevOk D) : DevOk (wiD D) :=
  ⟨by show (upd _ _ _).length = (upd _ _ _).length; rw [upd_len, upd_len]; exact h.len, by show _ ≤ (upd _ _ _).length; rw [upd_len]; exact h.pos, by show (upd _ _ _).length ≤ _; rw [upd_len]; exact h.max, made h (fun _ _ => zero64_size), cleared h, Nat.zero_le _⟩

end Sc
end Go.Proofs.YtjehjbkcdpidbaaGreat

/- Heads of a log in plain numbers: eight bytes, the highest first; a head's text; which sector is one; no condition. -/
namespace Go.Proofs.YtjehjbkcdpidbaaGreat
namespace Rd
open Sc Bk

/-- the first k of a number's eight bytes, the highest first -/
def be (n k : Nat) : List UInt8 := (List.range k).map fun i => UInt8.ofNat (n / 256 ^ (7 - i) % 256)
def be8 (n : Nat) : List UInt8 := be n 8

theorem be_succ (n k : Nat) : be n (k + 1) = be n k ++ [UInt8.ofNat (n / 256 ^ (7 - k) % 256)] := by
  unfold be; rw [List.range_succ, List.map_append]; rfl
theorem be_len (n k : Nat) : (be n k).length = k := by simp [be]
theorem be8_len (n : Nat) : (be8 n).length = 8 := be_len n 8

/-- the number of bytes, the highest first -/
def numB (L : List UInt8) : Nat := L.foldl (fun x b => x * 256 + b.toNat) 0

theorem numB_snoc (L : List UInt8) (b : UInt8) : numB (L ++ [b]) = numB L * 256 + b.toNat := by simp [numB]

theorem numB_lt : ∀ (k : Nat) (L : List UInt8), L.length = k → numB L < 256 ^ k
  | 0, L, h => by rw [List.length_eq_zero_iff.1 h]; decide
  | k + 1, L, h => by
    obtain ⟨M, b, rfl⟩ : ∃ M b, L = M ++ [b] := ⟨L.dropLast, L.getLast (by intro e; rw [e] at h; cases h), (List.dropLast_concat_getLast _).symm⟩
    rw [List.length_append, List.length_singleton] at h
    have := numB_lt k M (by omega)
    have hb := b.toNat_lt
    rw [numB_snoc, Nat.pow_succ]
    omega

theorem num_be (n : Nat) (h : n < 256 ^ 8) : ∀ k, k ≤ 8 → numB (be n k) = n / 256 ^ (8 - k)
  | 0, _ => by rw [Nat.div_eq_of_lt h]; rfl
  | k + 1, hk => by
    rw [be_succ, numB_snoc, num_be n h k (by omega), show 8 - k = (7 - k) + 1 by omega, show 8 - (k + 1) = 7 - k by omega, Nat.pow_succ, ← Nat.div_div_eq_div_mul, UInt8.toNat_ofNat_of_lt' (by show _ < 256; omega)]
    omega

theorem num_be8 {n : Nat} (h : n < 256 ^ 8) : numB (be8 n) = n := by
  have := num_be n h 8 (Nat.le_refl _)
  show numB (be n 8) = n
  simpa using this

/-- a head's text, and its sector -/
def headP (c a l : Nat) : List UInt8 := (([82, 69, 68, 79] ++ be8 c) ++ [UInt8.ofNat (a % 256)]) ++ be8 l
def headL (c a l : Nat) : List UInt8 := ((headP c a l ++ headP c a l) ++ headP c a l) ++ [0]
def headB (c a l : Nat) : ByteArray := ⟨(headL c a l).toArray⟩

theorem headP_len (c a l : Nat) : (headP c a l).length = 21 := by
  unfold headP
  rw [List.length_append, List.length_append, List.length_append, be8_len, be8_len]; rfl
theorem headL_len (c a l : Nat) : (headL c a l).length = 64 := by
  unfold headL
  rw [List.length_append, List.length_append, List.length_append, headP_len]; rfl
theorem headB_size (c a l : Nat) : (headB c a l).size = 64 := by
  show (headL c a l).toArray.size = 64
  rw [List.size_toArray, headL_len]

/-- what a sector's bytes tell -/
def cOf (s : List UInt8) : Nat := numB ((s.drop 4).take 8)
def aOf (s : List UInt8) : Nat := (s.getD 12 0).toNat
def lOf (s : List UInt8) : Nat := numB ((s.drop 13).take 8)

/-- is it a head, of an area of so many bytes? -/
def okH (ab : Nat) (s : List UInt8) : Prop := 1 ≤ cOf s ∧ cOf s ≤ 4611686018427387904 ∧ aOf s ≤ 1 ∧ lOf s ≤ ab ∧ s = headL (cOf s) (aOf s) (lOf s)

instance (ab : Nat) (s : List UInt8) : Decidable (okH ab s) := by unfold okH; exact inferInstance

theorem c_head {c : Nat} (a l : Nat) (h : c < 256 ^ 8) : cOf (headL c a l) = c := by
  have e : ((headL c a l).drop 4).take 8 = be8 c := by
    have h8 := be8_len c
    unfold headL headP
    simp only [List.cons_append, List.nil_append, List.append_assoc, List.drop_succ_cons, List.drop_zero]
    rw [List.take_append_of_le_length (by omega), List.take_of_length_le (by omega)]
  unfold cOf
  rw [e, num_be8 h]

theorem a_head {c a l : Nat} (h : a < 256) : aOf (headL c a l) = a := by
  have e : (headL c a l).getD 12 0 = UInt8.ofNat (a % 256) := by
    have h8 := be8_len c
    unfold headL headP
    simp only [List.cons_append, List.nil_append, List.append_assoc]
    rw [List.getD_eq_getElem?_getD]
    simp only [List.getElem?_cons_succ]
    rw [List.getElem?_append_right (by omega), h8]
    simp
  unfold aOf
  rw [e, UInt8.toNat_ofNat_of_lt' (by show _ < 256; omega)]
  omega

theorem l_head {l : Nat} (c a : Nat) (h : l < 256 ^ 8) : lOf (headL c a l) = l := by
  have e : ((headL c a l).drop 13).take 8 = be8 l := by
    have h8 := be8_len c
    have h9 := be8_len l
    unfold headL headP
    simp only [List.append_assoc]
    rw [← List.append_assoc ([82, 69, 68, 79] : List UInt8), ← List.append_assoc ([82, 69, 68, 79] ++ be8 c : List UInt8)]
    rw [List.drop_append_of_le_length (by simp [h8]), List.drop_of_length_le (by simp [h8]), List.nil_append, List.take_append_of_le_length (by omega), List.take_of_length_le (by omega)]
  unfold lOf
  rw [e, num_be8 h]

theorem ok_head {ab c a l : Nat} (h1 : 1 ≤ c) (h2 : c ≤ 4611686018427387904) (h3 : a ≤ 1) (h4 : l ≤ ab) (h5 : ab < 256 ^ 8) : okH ab (headL c a l) := by
  have e1 := c_head (c := c) a l (by omega)
  have e2 := a_head (c := c) (a := a) (l := l) (by omega)
  have e3 := l_head (l := l) c a (by omega)
  unfold okH
  rw [e1, e2, e3]
  exact ⟨h1, h2, h3, h4, rfl⟩

end Rd
end Go.Proofs.YtjehjbkcdpidbaaGreat

/- Pieces of a text as steps of a walk; one new cell; no condition but the range. -/
namespace Go.Proofs.YtjehjbkcdpidbaaGreat
namespace Bk
open Go.RowKit

theorem text_size (L : List UInt8) : (⟨L.toArray⟩ : ByteArray).size = L.length := by
  show L.toArray.size = _
  simp

theorem textL_size (s : ByteArray) : s.data.toList.length = s.size := Array.length_toList

theorem extract_list (s : ByteArray) (a b : Nat) : s.extract a b = ⟨((s.data.toList.drop a).take (b - a)).toArray⟩ := by
  apply ByteArray.ext
  apply Array.toList_inj.1
  simp [ByteArray.data_extract, Array.toList_extract, List.extract_eq_take_drop]

theorem str_from (s : ByteArray) (a : Nat) (h : a ≤ s.size) (i : Int) (hi : i = (a : Int)) (W : World) :
    (Instr.slice 9 (.string s) (some (.int .i64 i)) none none).run Tryz.prog W = .ok (.string ⟨(s.data.toList.drop a).toArray⟩) W := by
  subst hi
  rw [run_slice_string_l W 9 s Tryz.underlying9 .i64 _ (by omega) (by omega), extract_list, Int.toNat_natCast, List.take_of_length_le (by rw [List.length_drop, Array.length_toList]; exact Nat.le_refl _)]

theorem str_to (s : ByteArray) (b : Nat) (h : b ≤ s.size) (j : Int) (hj : j = (b : Int)) (W : World) :
    (Instr.slice 9 (.string s) none (some (.int .i64 j)) none).run Tryz.prog W = .ok (.string ⟨(s.data.toList.take b).toArray⟩) W := by
  subst hj
  rw [run_slice_string_h W 9 s Tryz.underlying9 .i64 _ (by omega) (by omega), extract_list, Int.toNat_natCast, List.drop_zero, Nat.sub_zero]

theorem str_mid (s : ByteArray) (a b : Nat) (h1 : a ≤ b) (h : b ≤ s.size) (i j : Int) (hi : i = (a : Int)) (hj : j = (b : Int)) (W : World) :
    (Instr.slice 9 (.string s) (some (.int .i64 i)) (some (.int .i64 j)) none).run Tryz.prog W = .ok (.string ⟨((s.data.toList.drop a).take (b - a)).toArray⟩) W := by
  subst hi hj
  rw [run_slice_string W 9 s .i64 .i64 _ _ Tryz.underlying9 (by omega) (by omega) (by omega), extract_list, Int.toNat_natCast, Int.toNat_natCast]

theorem str_at (s : ByteArray) (a : Nat) (b : UInt8) (h : s.data.toList[a]? = some b) (i : Int) (hi : i = (a : Int)) (W : World) :
    (Instr.index 9 (.string s) (.int .i64 i)).run Tryz.prog W = .ok (.int .u8 (b.toNat : Int)) W := by
  subst hi
  have hl : a < s.data.toList.length := (List.getElem?_eq_some_iff.1 h).1
  have hl2 : a < s.size := by rw [Array.length_toList] at hl; exact hl
  rw [run_index_string W 9 s .i64 _ Tryz.underlying9, dif_pos (by omega)]
  congr 3
  rw [List.getElem?_eq_getElem hl] at h
  rw [← Option.some.inj h]
  simp only [Int.toNat_natCast]
  rfl

theorem str_one {w : World} {g : Nat} {t : TypeId} {u : Value} (h : w.heap[g]? = some (.cells #[u] t (0, 0))) : ∀ j v, [u][j]? = some v → w.cell? ((⟨g, 0, none⟩ : Addr).add j) = some v := fun j v hv => by
  match j with
  | 0 => simp at hv; subst hv; rw [addr_head]; exact blk_cell h rfl
  | j + 1 => simp at hv

end Bk
end Go.Proofs.YtjehjbkcdpidbaaGreat

/- What the document's own numbers and heads are; contracts; no condition but the range. -/
namespace Go.Proofs.YtjehjbkcdpidbaaGreat
namespace Rd
open Go.RowKit Sc Bk

attribute [local go_sem ↓] Go.wp_at_zero Go.wp_at_succ
attribute [local go_sem] floatUpon pick

theorem wrap_dec {j : Nat} (h : j ≤ 7) : IntKind.i64.wrap ((j : Int) - 1) = (j : Int) - 1 := by
  simp only [IntKind.wrap, IntKind.bits, IntKind.signed]; simp; omega

set_option maxRecDepth 20000 in
set_option maxHeartbeats 1000000 in
theorem reight_any (n : Nat) (w : World) (_hn : n ≤ 9223372036854775807) :
    Calls Tryz.prog 107 #[.int .i64 (n : Int)] w fun e w' => e = .returned (.string ⟨(be8 n).toArray⟩) ∧ Below w.heap.size w w' := by
  obtain ⟨i1, hi', hz0', hz1', hz2'⟩ := info_parts Tryz.infoU8
  go_enter Tryz.func107, Tryz.ntmps107
  go_wp2_with fail
  go_loopw [3, 4] (fun u c wr => ∃ (i : Nat) (m : Int), i ≤ 8 ∧ c = .int .i64 m ∧ Hid (m = 7 - (i : Int)) ∧ Hid (wr.ownsRow w.heap.size 5 1 u i (Lib.byteCells (be n i))) ∧ Hid (Below w.heap.size w wr)) (fun _ c _ => (intOf c + 1).toNat)
  case atStart => exact ⟨0, 7, by omega, rfl, rfl, World.ownsRow_nil _ _ _ _, Below.refl _ _⟩
  case round =>
    obtain ⟨i, m, hi, rfl, hm, hown, hbel⟩ := hrel
    by_cases hlt : i < 8
    · obtain ⟨j, hj⟩ : ∃ j, j = 7 - i := ⟨_, rfl⟩
      obtain rfl : m = (j : Int) := by have := hm.out; omega
      have hj7 : j ≤ 7 := by omega
      have wj := wrap_dec hj7
      have pj : (0 : Int) ≤ (j : Int) := by omega
      have hsh : (n : Int) / 2 ^ (8 * (j : Int)).toNat = ((n / 256 ^ j : Nat) : Int) := by
        rw [show (8 * (j : Int)).toNat = 8 * j by omega, Su.pow256, Int.natCast_ediv, Int.natCast_pow]; rfl
      have hcv : IntKind.u8.wrap ((n / 256 ^ j : Nat) : Int) = ((n / 256 ^ j : Nat) : Int) % 256 := by
        simp [IntKind.wrap, IntKind.bits, IntKind.signed]
      have hbc : Lib.byteCells (be n i) ++ [.int .u8 (((n / 256 ^ j : Nat) : Int) % 256)] = Lib.byteCells (be n (i + 1)) := by
        rw [be_succ, ← hj]
        unfold Lib.byteCells
        rw [List.map_append, List.map_cons, UInt8.toNat_ofNat_of_lt' (by show n / 256 ^ j % 256 < 256; omega)]; rfl
      have hmod : n / 256 ^ j % 256 < 256 := by omega
      have HJ := Lib.hid hj
      generalize n / 256 ^ j = q at hsh hcv hbc hmod
      have HBC := Lib.hid hbc
      clear hbc hj hm
      go_wp2_with (at_builtin; refine wpList_append_own _ rfl _ _ 82 rfl w.heap.size 5 i1 (.int .u8 0) 1 1 Tryz.underlying82 hi' hz0' hz1' hz2' rfl (by decide) _ _ _ rfl (hown.out.alloc _) ⟨wr.heap.size, 0, none⟩ 1 1 [.int .u8 ((q : Int) % 256)] rfl rfl ?c1 ?c2 ?c3 ?c4 ?c5 ?_)
      case c1 => exact cell_one_new _ _ _
      case c2 => intro u hu; simp at hu; subst hu; rfl
      case c3 => unfold maxLen; omega
      case c4 => omega
      case c5 => have := hbel.out.size; simp; omega
      intro v' w5 hown' hgrow _
      have HB5 := Lib.hid (below_append hown.out hbel.out (Nat.le_refl _) hgrow)
      rw [HBC.out] at hown'
      have HO5 := Lib.hid hown'
      clear hown' hgrow
      go_wp2_with fail
      go_roundw
      case rel => exact ⟨i + 1, _, by omega, rfl, Lib.hid (by have := HJ.out; omega), HO5.out, HB5.out⟩
      case measure => simp [intOf]
    · obtain rfl : i = 8 := by omega
      obtain rfl : m = -1 := by have := hm.out; omega
      have hlen : (Lib.byteCells (be n 8)).length = 8 := by rw [Lib.byteCells_length, be_len]
      obtain ⟨g, cap, rfl, _, _⟩ := World.ownsRow.form hown.out (by omega)
      have hcv := own_bytes hown.out (be_len n 8).symm 0 8 cap (by rw [be_len]; omega)
      rw [List.drop_zero, List.take_of_length_le (by rw [be_len]; exact Nat.le_refl _)] at hcv
      clear hm
      go_wp2_with fail
      go_ret
      exact ⟨rfl, hbel.out⟩

theorem wrap_step (x : Nat) (b : UInt8) : IntKind.i64.wrap (IntKind.i64.wrap (IntKind.i64.wrap (x : Int) * 256) + (b.toNat : Int)) = IntKind.i64.wrap ((x * 256 + b.toNat : Nat) : Int) := by
  simp only [IntKind.wrap, IntKind.bits, IntKind.signed]; simp; omega

set_option maxRecDepth 20000 in
set_option maxHeartbeats 1000000 in
theorem rnumber_any (s : ByteArray) (w : World) (hs : s.size = 8) :
    Calls Tryz.prog 105 #[.string s] w fun e w' => e = .returned (.int .i64 (IntKind.i64.wrap (numB s.data.toList : Int))) ∧ w' = w := by
  have hl : s.data.toList.length = 8 := by rw [Array.length_toList]; exact hs
  go_enter Tryz.func105, Tryz.ntmps105
  go_wp2_with fail
  go_loopw [3, 4] (fun u c wr => ∃ i : Nat, i ≤ 8 ∧ u = .int .i64 (IntKind.i64.wrap (numB (s.data.toList.take i) : Int)) ∧ c = .int .i64 (i : Int) ∧ wr = w) (fun _ c _ => 8 - (intOf c).toNat)
  case atStart => exact ⟨0, by omega, rfl, rfl, rfl⟩
  case round =>
    obtain ⟨i, hi, rfl, rfl, rfl⟩ := hrel
    by_cases hlt : i < 8
    · have pi : (i : Int) < 8 := by omega
      obtain ⟨b, hb⟩ : ∃ b, s.data.toList[i]? = some b := ⟨_, List.getElem?_eq_getElem (by omega)⟩
      have hix := fun W => str_at s i b hb (i : Int) rfl W
      have hst := wrap_step (numB (s.data.toList.take i)) b
      have hnx : numB (s.data.toList.take (i + 1)) = numB (s.data.toList.take i) * 256 + b.toNat := by
        rw [List.take_add_one, hb]; exact numB_snoc _ _
      rw [← hnx] at hst
      clear hnx
      have hbl : (b.toNat : Int) < 256 := by have := b.toNat_lt; omega
      have HSt := Lib.hid (fun z (hz : z = IntKind.i64.wrap (numB (s.data.toList.take i) : Int)) => show IntKind.i64.wrap (IntKind.i64.wrap (z * 256) + (b.toNat : Int)) = IntKind.i64.wrap (numB (s.data.toList.take (i + 1)) : Int) from by rw [hz]; exact hst)
      clear hst
      obtain ⟨z, hz⟩ : ∃ z, z = IntKind.i64.wrap (numB (s.data.toList.take i) : Int) := ⟨_, rfl⟩
      have HS2 := Lib.hid (HSt.out z hz)
      rw [← hz]
      clear hz HSt
      go_wp2_with fail
      go_roundw
      case rel => exact ⟨i + 1, by omega, (by have h := HS2.out; rw [IntWalk.i64_left, IntWalk.i64_left] at h; rw [h]), by go_num, trivial⟩
      case measure => simp [intOf]; omega
    · obtain rfl : i = 8 := by omega
      rw [List.take_of_length_le (by omega)]
      go_wp2_with fail
      go_ret
      exact ⟨rfl, rfl⟩

theorem back_one {w : World} {g : Nat} {b : UInt8} (h : w.heap[g]? = some (.cells #[.int .u8 (b.toNat : Int)] 5 (0, 0))) :
    (convert 82 9 (.slice (some ⟨g, 0, none⟩) 1 1)).run Tryz.prog w = .ok (.string ⟨[b].toArray⟩) w := by
  have := run_convert_bytes_back (P := Tryz.prog) w 82 9 5 ⟨g, 0, none⟩ 1 [b] Tryz.underlying82 Tryz.underlying5 Tryz.underlying9 (fun j hj => by
    rw [addr_head]
    refine blk_cell h ?_
    match j, hj with
    | 0, _ => rfl)
  exact this

theorem list_sum (X Y : List UInt8) (h : X.length + Y.length ≤ 1000) (W : World) : (Op.stringOp .add ⟨X.toArray⟩ ⟨Y.toArray⟩).run Tryz.prog W = .ok (.string ⟨(X ++ Y).toArray⟩) W := by
  have h1 : (⟨X.toArray⟩ : ByteArray).size = X.length := text_size X
  have h2 : (⟨Y.toArray⟩ : ByteArray).size = Y.length := text_size Y
  rw [run_string_add_sum W _ _ (by omega), ByteArray.mk_append_mk]

set_option maxRecDepth 20000 in
set_option maxHeartbeats 2000000 in
theorem rhead_any (c a l : Nat) (w : World) (hc : c ≤ 9223372036854775807) (ha : a ≤ 1) (hl : l ≤ 9223372036854775807) :
    Calls Tryz.prog 61 #[.int .i64 (c : Int), .int .i64 (a : Int), .int .i64 (l : Int)] w fun e w' => e = .returned (.string (headB c a l)) ∧ Below w.heap.size w w' := by
  have HE1 := Lib.hid (fun W => reight_any c W hc)
  have HE2 := Lib.hid (fun W => reight_any l W hl)
  obtain ⟨b, hb⟩ : ∃ b, b = UInt8.ofNat (a % 256) := ⟨_, rfl⟩
  have hbt : b.toNat = a := by rw [hb, UInt8.toNat_ofNat_of_lt' (by show a % 256 < 256; omega)]; omega
  have hcv : IntKind.u8.wrap (a : Int) = (b.toNat : Int) := by
    rw [hbt]; simp [IntKind.wrap, IntKind.bits, IntKind.signed]; omega
  have l1 := be8_len c
  have l2 := be8_len l
  have a1 := list_sum [82, 69, 68, 79] (be8 c) (by rw [l1]; decide)
  have a2 := list_sum ([82, 69, 68, 79] ++ be8 c) [b] (by rw [List.length_append, l1]; show 4 + 8 + 1 ≤ 1000; decide)
  have a3 := list_sum (([82, 69, 68, 79] ++ be8 c) ++ [b]) (be8 l) (by rw [List.length_append, List.length_append, l1, l2]; show 4 + 8 + 1 + 8 ≤ 1000; decide)
  have hP : (([82, 69, 68, 79] ++ be8 c) ++ [b]) ++ be8 l = headP c a l := by rw [hb]; rfl
  rw [hP] at a3
  have l3 := headP_len c a l
  have a4 := list_sum (headP c a l) (headP c a l) (by rw [l3]; decide)
  have a5 := list_sum (headP c a l ++ headP c a l) (headP c a l) (by rw [List.length_append, l3]; decide)
  have a6 := list_sum ((headP c a l ++ headP c a l) ++ headP c a l) [0] (by rw [List.length_append, List.length_append, l3]; decide)
  rw [show ((headP c a l ++ headP c a l) ++ headP c a l) ++ [0] = headL c a l from rfl] at a6
  have HHB := Lib.hid (show headB c a l = ⟨(headL c a l).toArray⟩ from rfl)
  generalize headB c a l = HB at HHB ⊢
  have HBk := Lib.hid (fun (W : World) (p : Nat) (h : W.heap[p]? = some (.cells #[.int .u8 (b.toNat : Int)] 5 (0, 0))) => back_one h)
  clear l1 l2 l3 hb hbt hP
  have hR : (⟨([82, 69, 68, 79] : List UInt8).toArray⟩ : ByteArray) = ⟨#[82, 69, 68, 79]⟩ := rfl
  have hZ : (⟨([0] : List UInt8).toArray⟩ : ByteArray) = ⟨#[0]⟩ := rfl
  rw [hR] at a1
  rw [hZ] at a6
  clear hR hZ
  generalize (⟨(headL c a l).toArray⟩ : ByteArray) = X6 at HHB a6
  generalize (⟨((headP c a l ++ headP c a l) ++ headP c a l).toArray⟩ : ByteArray) = X5 at a5 a6
  generalize (⟨(headP c a l ++ headP c a l).toArray⟩ : ByteArray) = X4 at a4 a5
  generalize (⟨(headP c a l).toArray⟩ : ByteArray) = X3 at a3 a4 a5
  generalize (⟨(([82, 69, 68, 79] ++ be8 c) ++ [b]).toArray⟩ : ByteArray) = X2 at a2 a3
  generalize (⟨([82, 69, 68, 79] ++ be8 c).toArray⟩ : ByteArray) = X1 at a1 a2
  generalize (⟨(be8 c).toArray⟩ : ByteArray) = E1 at HE1 a1
  generalize (⟨(be8 l).toArray⟩ : ByteArray) = E2 at HE2 a3
  generalize (⟨[b].toArray⟩ : ByteArray) = B1 at a2 HBk
  generalize b.toNat = bt at hcv HBk
  go_enter Tryz.func61, Tryz.ntmps61
  go_wp2_with fail
  refine wp_region_said 11 [8, 9, 10, 11, 12, 13, 14, 15, 16, 17, 18]
    [.is (.int .i64 (c : Int)), .is (.string E1), .is (.string X1), .is (.int .i64 (a : Int)), .is (.int .u8 (bt : Int)), .arr 5 #[.int .u8 (bt : Int)] 1 1, .is (.string B1), .is (.string X2), .is (.int .i64 (l : Int)), .is (.string E2), .is (.string X3)]
    (fun _ => True) (by kernel_rfl) (by kernel_rfl) (by kernel_rfl) (by kernel_rfl) (by kernel_rfl) (fun _ _ _ _ => trivial) trivial ?steps ?last
  case steps =>
    simp only [List.take_succ_cons, List.take_zero]
    refine ⟨?_, ?_, ?_, ?_, ?_, ?_, ?_, ?_, ?_, ?_, ?_, trivial⟩
    all_goals
      intro vs W ρ hρ hc hf hg hI hH hd R' hR
      have HR := Lib.hid hR
      simp [depsOf, Region.binds, sayAt, Say.holds] at hd
      clear hR
    case refine_6 =>
      go_simp
      exact HR.out _ _ ⟨W.heap.size, hH, by simp, rfl, heap_alloc_new W _⟩ ((Below.refl _ _).alloc (Nat.le_refl _) _) (fun h => by cases h)
    case refine_7 =>
      obtain ⟨p, hp1, hp2, hp3, hp4⟩ := hd
      have hbk := HBk.out _ p hp4
      go_simp
      exact HR.out _ _ (by simp [sayAt, Say.holds]) (Below.refl _ _) (by simp [sayAt, Say.isBlk])
    case refine_2 =>
      go_simp
      refine (HE1.out _).mono ?_
      rintro e w' ⟨rfl, hb⟩
      exact ⟨_, rfl, HR.out _ _ (by simp [sayAt, Say.holds]) hb (by simp [sayAt, Say.isBlk])⟩
    case refine_10 =>
      go_simp
      refine (HE2.out _).mono ?_
      rintro e w' ⟨rfl, hb⟩
      exact ⟨_, rfl, HR.out _ _ (by simp [sayAt, Say.holds]) hb (by simp [sayAt, Say.isBlk])⟩
    all_goals
      go_simp
      first
        | exact HR.out _ _ (by simp [sayAt, Say.holds]) (Below.refl _ _) (by simp [sayAt, Say.isBlk])
        | trace_state
  case last =>
    intro vs W hI hb hg hd
    have g := hg 10 (by omega)
    simp only [sayAt, Say.holds, List.getD_cons_succ, List.getD_cons_zero] at g
    simp only [List.take_succ_cons, List.take_zero, List.drop_succ_cons, List.drop_zero, putAll, Act.put, List.setIfInBounds_toArray, List.set_cons_succ, List.set_cons_zero, Nat.zero_add, Nat.reduceAdd]
    rw [g]
    have HB2 := Lib.hid hb
    clear g hg hd hb hI
    go_wp2_with fail
    go_ret
    exact ⟨by rw [HHB.out]; rfl, HB2.out⟩

end Rd
end Go.Proofs.YtjehjbkcdpidbaaGreat

/- A call that writes its own blocks alone; the document's device in the memory; no condition. -/
namespace Go.Proofs.YtjehjbkcdpidbaaGreat
namespace Sc
open Go.RowKit Bk

/-- beside the blocks F no old block is turned; F' are old ones of F and new ones -/
structure Fr (F F' : Nat → Prop) (w w' : World) : Prop where
  os : w'.os = w.os
  tape : w'.tape = w.tape
  output : w'.output = w.output
  size : w.heap.size ≤ w'.heap.size
  block : ∀ k, k < w.heap.size → ¬ F k → w'.heap[k]? = w.heap[k]?
  foot : ∀ k, F' k → F k ∨ w.heap.size ≤ k

theorem Fr.refl (F : Nat → Prop) (w : World) : Fr F F w w := ⟨rfl, rfl, rfl, Nat.le_refl _, fun _ _ _ => rfl, fun _ h => .inl h⟩

theorem Fr.trans {F G H : Nat → Prop} {a b c : World} (h : Fr F G a b) (k : Fr G H b c) : Fr F H a c :=
  ⟨k.os.trans h.os, k.tape.trans h.tape, k.output.trans h.output, Nat.le_trans h.size k.size,
    fun i hi hn => (k.block i (Nat.lt_of_lt_of_le hi h.size) (fun hg => (h.foot i hg).elim hn (by omega))).trans (h.block i hi hn),
    fun i hi => (k.foot i hi).elim (fun hg => h.foot i hg) (fun hs => .inr (Nat.le_trans h.size hs))⟩

theorem Fr.below {F : Nat → Prop} {a b c : World} {G : Nat → Prop} (h : Fr F G a b) (k : Below b.heap.size b c) : Fr F G a c :=
  ⟨k.os.trans h.os, k.tape.trans h.tape, k.output.trans h.output, Nat.le_trans h.size k.size,
    fun i hi hn => (k.block i (Nat.lt_of_lt_of_le hi h.size)).trans (h.block i hi hn), h.foot⟩

theorem Fr.set {F G : Nat → Prop} {a b : World} (h : Fr F G a b) {p : Addr} (hp : F p.block) (v : Value) : Fr F G a (b.setCell p v) :=
  ⟨h.os, h.tape, h.output, by simpa [World.setCell] using h.size, fun i hi hn => (Below.heap_setCell b p v i (fun e => hn (by rw [e]; exact hp))).trans (h.block i hi hn), h.foot⟩

/-- as a call tells it that owns blocks from B on -/
theorem Fr.belowB {F G : Nat → Prop} {a b : World} {B : Nat} (h : Fr F G a b) (hF : ∀ k, F k → B ≤ k) (hB : B ≤ a.heap.size) : Below B a b :=
  ⟨h.os, h.tape, h.output, h.size, fun k hk => h.block k (by omega) (fun hf => by have := hF k hf; omega)⟩

/-- the blocks of one are as they were behind a call of another one -/
theorem Fr.kept {F G : Nat → Prop} {a b : World} (h : Fr F G a b) {H : Nat → Prop} (hd : ∀ k, H k → ¬ F k) (hl : ∀ k, H k → k < a.heap.size) : ∀ k, H k → b.heap[k]? = a.heap[k]? := fun k hk => h.block k (hl k hk) (hd k hk)

theorem strV_get {l : List ByteArray} {sp : List Value} {i : Nat} (h : i < l.length) : (strV l ++ sp)[i]? = some (.string l[i]) := by
  rw [List.getElem?_append_left (by rw [strV_len]; exact h)]
  exact strV_at h

theorem strV_set {l : List ByteArray} {sp : List Value} {i : Nat} (t : ByteArray) (h : i < l.length) : (strV l ++ sp).set i (.string t) = strV (l.set i t) ++ sp := by
  rw [List.set_append_left _ _ (by rw [strV_len]; exact h)]
  congr 1
  unfold strV
  rw [List.map_set]

/-- the document's device: a struct, and two rows of texts -/
structure RAt (w : World) (g : Nat) (ao an : Addr) (co cn : Nat) (so sn : List Value) (D : Dev) : Prop where
  cel : Cel w g 67 [.slice (some ao) D.on.length co, .slice (some an) D.new.length cn, .int .i64 (D.left : Int), .bool D.down]
  o0 : ao = ⟨ao.block, 0, none⟩
  n0 : an = ⟨an.block, 0, none⟩
  ro : Cel w ao.block 9 (strV D.on ++ so)
  rn : Cel w an.block 9 (strV D.new ++ sn)
  d1 : g ≠ ao.block
  d2 : g ≠ an.block
  d3 : ao.block ≠ an.block

def RFoot (g : Nat) (ao an : Addr) : Nat → Prop := fun k => k = g ∨ k = ao.block ∨ k = an.block

section
variable {w w' : World} {g : Nat} {ao an : Addr} {co cn : Nat} {so sn : List Value} {D : Dev}

theorem RAt.lt (h : RAt w g ao an co cn so sn D) : ∀ k, RFoot g ao an k → k < w.heap.size := fun k hk => by
  rcases hk with rfl | rfl | rfl
  · exact h.cel.lt
  · exact h.ro.lt
  · exact h.rn.lt

theorem RAt.kept (h : RAt w g ao an co cn so sn D) (hk : ∀ k, RFoot g ao an k → w'.heap[k]? = w.heap[k]?) : RAt w' g ao an co cn so sn D :=
  ⟨(hk g (.inl rfl)).trans h.cel, h.o0, h.n0, (hk _ (.inr (.inl rfl))).trans h.ro, (hk _ (.inr (.inr rfl))).trans h.rn, h.d1, h.d2, h.d3⟩

theorem RAt.step (h : RAt w g ao an co cn so sn D) (hb : Below w.heap.size w w') : RAt w' g ao an co cn so sn D := h.kept fun k hk => hb.block k (h.lt k hk)

theorem at_add (h : ao = ⟨ao.block, 0, none⟩) (i : Nat) : ao.add i = ⟨ao.block, i, none⟩ := by
  rw [h]; exact addr_head _ _

theorem RAt.readO (h : RAt w g ao an co cn so sn D) {i : Nat} (hi : i < D.on.length) : w.cell? (ao.add i) = some (.string D.on[i]) := by
  rw [at_add h.o0]; exact h.ro.cell (strV_get hi)

theorem RAt.readN (h : RAt w g ao an co cn so sn D) {i : Nat} (hi : i < D.new.length) : w.cell? (an.add i) = some (.string D.new[i]) := by
  rw [at_add h.n0]; exact h.rn.cell (strV_get hi)

theorem RAt.freeO (h : RAt w g ao an co cn so sn D) (i : Nat) : w.frozen? (ao.add i) = false := by
  rw [at_add h.o0]; exact h.ro.free

theorem RAt.freeN (h : RAt w g ao an co cn so sn D) (i : Nat) : w.frozen? (an.add i) = false := by
  rw [at_add h.n0]; exact h.rn.free

theorem RAt.setO (h : RAt w g ao an co cn so sn D) {i : Nat} (hi : i < D.on.length) (t : ByteArray) : RAt (w.setCell (ao.add i) (.string t)) g ao an co cn so sn ⟨D.on.set i t, D.new, D.left, D.down⟩ := by
  rw [at_add h.o0]
  refine ⟨?_, h.o0, h.n0, ?_, h.rn.far (Ne.symm h.d3), h.d1, h.d2, h.d3⟩
  · show Cel _ g _ [.slice (some ao) (D.on.set i t).length co, _, _, _]
    rw [List.length_set]
    exact h.cel.far h.d1
  · have := h.ro.set (i := i) (v := .string t)
    rwa [strV_set t hi] at this

theorem RAt.setN (h : RAt w g ao an co cn so sn D) {i : Nat} (hi : i < D.new.length) (t : ByteArray) : RAt (w.setCell (an.add i) (.string t)) g ao an co cn so sn ⟨D.on, D.new.set i t, D.left, D.down⟩ := by
  rw [at_add h.n0]
  refine ⟨?_, h.o0, h.n0, h.ro.far h.d3, ?_, h.d1, h.d2, h.d3⟩
  · show Cel _ g _ [_, .slice (some an) (D.new.set i t).length cn, _, _]
    rw [List.length_set]
    exact h.cel.far h.d2
  · have := h.rn.set (i := i) (v := .string t)
    rwa [strV_set t hi] at this

theorem RAt.setLeft (h : RAt w g ao an co cn so sn D) (n : Nat) : RAt (w.setCell ⟨g, 2, none⟩ (.int .i64 (n : Int))) g ao an co cn so sn ⟨D.on, D.new, n, D.down⟩ :=
  ⟨h.cel.set, h.o0, h.n0, h.ro.far (Ne.symm h.d1), h.rn.far (Ne.symm h.d2), h.d1, h.d2, h.d3⟩

theorem RAt.setDown (h : RAt w g ao an co cn so sn D) (b : Bool) : RAt (w.setCell ⟨g, 3, none⟩ (.bool b)) g ao an co cn so sn ⟨D.on, D.new, D.left, b⟩ :=
  ⟨h.cel.set, h.o0, h.n0, h.ro.far (Ne.symm h.d1), h.rn.far (Ne.symm h.d2), h.d1, h.d2, h.d3⟩

theorem foot_g : RFoot g ao an g := .inl rfl
theorem foot_o (i : Nat) : RFoot g ao an (ao.add i).block := by rw [st_block]; exact .inr (.inl rfl)
theorem foot_n (i : Nat) : RFoot g ao an (an.add i).block := by rw [st_block]; exact .inr (.inr rfl)

end

end Sc
end Go.Proofs.YtjehjbkcdpidbaaGreat

/- Sixty-four bytes: none, and what a text is that is made so long; contracts; no condition but the range. -/
namespace Go.Proofs.YtjehjbkcdpidbaaGreat
namespace Sc
open Go.RowKit Bk

/-- 'copy(dst, s)' of a text that need not find room: as many of its bytes as find it -/
theorem copy_some {P : Program} (w : World) (dT sT ty elem : TypeId) (g dLen dCap m : Nat) (s : ByteArray) (cur : Array Value) (t : TypeId)
    (hu : P.underlying dT = some (.slice elem)) (hs : (P.info? elem).map (·.size) = some 1) (hg : w.heap[g]? = some (.cells cur t (0, 0))) (hm : m = min s.size dLen) (hfit : m ≤ cur.size) :
    (Builtin.copy_ #[dT, sT] ty #[.slice (some ⟨g, 0, none⟩) dLen dCap, .string s]).run P w =
      .ok (goInt m) (w.setRow g (Lib.byteCells (s.data.toList.take m) ++ cur.toList.drop m).toArray) := by
  have hlen : (Lib.byteCells (s.data.toList.take m)).length = m := by
    have : s.data.toList.length = s.size := rfl
    rw [Lib.byteCells_length, List.length_take]; omega
  have hst := run_storeCells_at P g 0 t (Lib.byteCells (s.data.toList.take m)) 0 cur w hg (by rw [hlen]; simpa using hfit) (Lib.byteCells_one _)
  have hmin : Nat.min s.size dLen = m := hm.symm
  have htk : List.take m (List.map (fun b : UInt8 => Value.int IntKind.u8 (b.toNat : Int)) s.data.toList) = Lib.byteCells (s.data.toList.take m) := by
    unfold Lib.byteCells
    rw [List.map_take]
  rw [hlen] at hst
  simp only [Nat.add_zero, Nat.zero_add, List.take_zero, List.nil_append] at hst
  cases hq : P.info? elem with
  | none => simp [hq] at hs
  | some i =>
    simp [Builtin.copy_, run_underlying hu, Builtin.lenOf, Builtin.firstCells, sizeOf, typeInfo, hq, hmin]
    rw [htk, hst]
    simp [Result.andThen]

/-- a text made sixty-four long -/
def fitB (s : ByteArray) : ByteArray := ⟨(s.data.toList.take 64 ++ List.replicate (64 - min s.size 64) (0 : UInt8)).toArray⟩

theorem fitB_size (s : ByteArray) : (fitB s).size = 64 := by
  show (s.data.toList.take 64 ++ List.replicate (64 - min s.size 64) (0 : UInt8)).toArray.size = 64
  have : s.data.toList.length = s.size := rfl
  rw [List.size_toArray, List.length_append, List.length_take, List.length_replicate]
  omega

theorem fitB_nil : fitB nil0 = zero64 := by decide

theorem zeros_cells : Lib.byteCells (List.replicate 64 (0 : UInt8)) = List.replicate 64 (Value.int .u8 0) := by
  unfold Lib.byteCells
  rw [List.map_replicate]; rfl

/-- the row that is made, and the text that it is -/
theorem back_of {w : World} {g : Nat} {l : List UInt8} (h : w.heap[g]? = some (.cells (Lib.byteCells l).toArray 5 (0, 0))) (hl : l.length = 64) :
    (convert 82 9 (.slice (some ⟨g, 0, none⟩) 64 64)).run Tryz.prog w = .ok (.string ⟨l.toArray⟩) w := by
  have := run_convert_bytes_back (P := Tryz.prog) w 82 9 5 ⟨g, 0, none⟩ 64 l Tryz.underlying82 Tryz.underlying5 Tryz.underlying9 (fun j hj => by
    rw [addr_head]
    refine blk_cell h ?_
    rw [List.getElem?_toArray]
    unfold Lib.byteCells
    rw [List.getElem?_map, List.getElem?_eq_getElem hj]; rfl)
  rwa [hl] at this

set_option maxRecDepth 20000 in
theorem make_64 (W : World) : (Instr.makeSlice 82 (.int .i64 64) (.int .i64 64)).run Tryz.prog W = .ok (.slice (some ⟨W.heap.size, 0, none⟩) 64 64) (W.alloc (.cells (Lib.byteCells (List.replicate 64 (0 : UInt8))).toArray 5)) := by
  obtain ⟨i0, hi, hz0, hz1, hz2⟩ := info_parts Bk.Tryz.infoU8
  have h := run_make (P := Tryz.prog) W 82 5 i0 (.int .u8 0) Tryz.underlying82 hi hz0 .i64 .i64 64 64 (by omega) (by omega) (by rw [hz2]; omega) (by omega)
  rw [h, hz1]
  congr 3
  kernel_rfl

set_option maxRecDepth 20000 in
set_option maxHeartbeats 2000000 in
theorem none_any (w : World) :
    Calls Tryz.prog 23 #[] w fun e w' => e = .returned (.string zero64) ∧ Below w.heap.size w w' := by
  have hmk := make_64
  have hcv := back_of (w := w.alloc (.cells (Lib.byteCells (List.replicate 64 (0 : UInt8))).toArray 5)) (heap_alloc_new w _) (by simp)
  have HB := Lib.hid ((Below.refl _ w).alloc (Nat.le_refl _) (.cells (Lib.byteCells (List.replicate 64 (0 : UInt8))).toArray 5))
  have HZ : Hid ((⟨(List.replicate 64 (0 : UInt8)).toArray⟩ : ByteArray) = zero64) := Lib.hid rfl
  generalize (⟨(List.replicate 64 (0 : UInt8)).toArray⟩ : ByteArray) = z at hcv HZ
  generalize (Lib.byteCells (List.replicate 64 (0 : UInt8))).toArray = M at hmk hcv HB
  go_enter Tryz.func23, Tryz.ntmps23
  go_wp2_with fail
  go_ret
  exact ⟨by rw [← HZ.out]; rfl, HB.out⟩

end Sc
end Go.Proofs.YtjehjbkcdpidbaaGreat
