/- A device in plain lists: what is on it, what waits in its cache, its fuse; what each call does; no condition. -/
import Derived.Test.YtecgimnmccmpjaaBk
namespace Go.Proofs.Ytecgimnmccmpjaa
namespace Sc

/-- a device: of each sector what is on it, and what is in the cache (nothing: empty); its fuse (0: none); is it down? -/
structure Dev where
  on : List ByteArray
  new : List ByteArray
  left : Nat
  down : Bool

def nil0 : ByteArray := ⟨#[]⟩
def zero64 : ByteArray := ⟨(List.replicate 64 (0 : UInt8)).toArray⟩

theorem zero64_size : zero64.size = 64 := by decide
theorem nil0_size : nil0.size = 0 := rfl

/-- a device that may be -/
structure DevOk (D : Dev) : Prop where
  len : D.new.length = D.on.length
  pos : 1 ≤ D.on.length
  max : D.on.length ≤ 2048
  on64 : ∀ s ∈ D.on, s.size = 64
  new64 : ∀ s ∈ D.new, s = nil0 ∨ s.size = 64
  lft : D.left ≤ 1048576

def new0 (n : Nat) : Dev := ⟨List.replicate n zero64, List.replicate n nil0, 0, false⟩

theorem new0_ok {n : Nat} (h1 : 1 ≤ n) (h2 : n ≤ 2048) : DevOk (new0 n) :=
  ⟨by simp [new0], by simpa [new0] using h1, by simpa [new0] using h2, fun s hs => by rw [List.eq_of_mem_replicate hs]; exact zero64_size, fun s hs => .inl (List.eq_of_mem_replicate hs), by simp [new0]⟩

/-- what is read at a place, and the error -/
def rdV (D : Dev) (i : Int) : ByteArray × Int :=
  if D.down = true then (nil0, 90) else if i < 0 ∨ (D.on.length : Int) ≤ i then (nil0, 1) else
  (if D.new.getD i.toNat nil0 = nil0 then D.on.getD i.toNat nil0 else D.new.getD i.toNat nil0, 0)

/-- a write or a flush: is the fuse through? -/
def burn (D : Dev) : Dev × Bool := if D.left = 0 then (D, false) else (⟨D.on, D.new, D.left - 1, D.left == 1⟩, D.left == 1)

/-- a write -/
def wrD (D : Dev) (i : Int) (t : ByteArray) : Dev × Int :=
  if (rdV D i).2 ≠ 0 then (D, (rdV D i).2) else if t.size ≠ 64 then (D, 3) else
  if (burn D).2 = true then ((burn D).1, 90) else (⟨D.on, D.new.set i.toNat t, (burn D).1.left, (burn D).1.down⟩, 0)

/-- a list whose first j places are made anew by f -/
def upd (l : List ByteArray) (j : Nat) (f : Nat → ByteArray) : List ByteArray := (List.range l.length).map fun i => if i < j then f i else l.getD i nil0

theorem upd_len (l : List ByteArray) (j : Nat) (f : Nat → ByteArray) : (upd l j f).length = l.length := by simp [upd]

theorem upd_at {l : List ByteArray} {j : Nat} {f : Nat → ByteArray} {i : Nat} (h : i < (upd l j f).length) (h' : i < l.length) : (upd l j f)[i] = if i < j then f i else l[i] := by
  have e : (upd l j f)[i]? = some (if i < j then f i else l[i]) := by
    unfold upd
    rw [List.getElem?_map, List.getElem?_range h', Option.map_some, List.getD_eq_getElem?_getD, List.getElem?_eq_getElem h']; rfl
  rw [List.getElem?_eq_getElem h] at e
  exact Option.some.inj e

theorem upd_zero (l : List ByteArray) (f : Nat → ByteArray) : upd l 0 f = l := by
  apply List.ext_getElem (upd_len _ _ _)
  intro i h1 h2
  rw [upd_at h1 h2, if_neg (by omega)]

theorem upd_set {l : List ByteArray} {j : Nat} {f : Nat → ByteArray} {t : ByteArray} (_h : j < l.length) (ht : t = f j) : (upd l j f).set j t = upd l (j + 1) f := by
  subst ht
  apply List.ext_getElem (by rw [List.length_set, upd_len, upd_len])
  intro i h1 h2
  rw [List.length_set] at h1
  have h3 : i < l.length := by rw [upd_len] at h1; exact h1
  rw [List.getElem_set, upd_at h1 h3, upd_at h2 h3]
  by_cases e : j = i
  · subst e; rw [if_pos rfl, if_pos (by omega)]
  · rw [if_neg e]
    by_cases e2 : i < j
    · rw [if_pos e2, if_pos (by omega)]
    · rw [if_neg e2, if_neg (by omega)]

/-- the place is as it is to be -/
theorem upd_same {l : List ByteArray} {j : Nat} {f : Nat → ByteArray} (h : j < l.length) (hf : f j = l[j]) : upd l (j + 1) f = upd l j f := by
  rw [← upd_set h rfl, hf]
  apply List.ext_getElem (by rw [List.length_set])
  intro i h1 h2
  have h3 : i < l.length := by rw [upd_len] at h2; exact h2
  rw [List.getElem_set, upd_at h2 h3]
  by_cases e : j = i
  · subst e; rw [if_pos rfl, if_neg (by omega)]
  · rw [if_neg e]

theorem upd_mem {l : List ByteArray} {j : Nat} {f : Nat → ByteArray} {s : ByteArray} (h : s ∈ upd l j f) : (∃ i, i < l.length ∧ i < j ∧ s = f i) ∨ s ∈ l := by
  obtain ⟨i, hi, rfl⟩ := List.mem_iff_getElem.1 h
  have h3 : i < l.length := by rw [upd_len] at hi; exact hi
  rw [upd_at hi h3]
  by_cases e : i < j
  · rw [if_pos e]; exact .inl ⟨i, h3, e, rfl⟩
  · rw [if_neg e]; exact .inr (List.getElem_mem h3)

theorem upd_all (l : List ByteArray) (x : ByteArray) : upd l l.length (fun _ => x) = List.replicate l.length x := by
  apply List.ext_getElem (by rw [upd_len, List.length_replicate])
  intro i h1 h2
  have h3 : i < l.length := by rw [upd_len] at h1; exact h1
  rw [upd_at h1 h3, if_pos h3, List.getElem_replicate]

/-- what lies on the device behind a flush -/
def flushF (D : Dev) (i : Nat) : ByteArray := if D.new.getD i nil0 = nil0 then D.on.getD i nil0 else D.new.getD i nil0

def flD (D : Dev) : Dev × Int :=
  if D.down = true then (D, 90) else if (burn D).2 = true then ((burn D).1, 90) else
  (⟨upd D.on D.on.length (flushF D), upd D.new D.on.length (fun _ => nil0), (burn D).1.left, (burn D).1.down⟩, 0)

def fuD (D : Dev) (n : Int) : Dev × Int :=
  if D.down = true then (D, 90) else if n < 0 ∨ 1048576 < n then (D, 1) else (⟨D.on, D.new, n.toNat, D.down⟩, 0)

/-- how many sectors ahead of a place are in the cache -/
def cnt (new : List ByteArray) (i : Nat) : Nat := ((new.take i).filter fun s => decide (s ≠ nil0)).length

/-- how many bytes of a sector get through -/
def cutN (p : Int) : Nat := if p = 0 then 0 else if p = 1 then 64 else (p % 64).toNat

def torn (o n : ByteArray) (p : Int) : ByteArray := ⟨(n.data.toList.take (cutN p) ++ o.data.toList.drop (cutN p)).toArray⟩

/-- what lies on the device behind a crash -/
def tearF (D : Dev) (ps : List Int) (i : Nat) : ByteArray :=
  if D.new.getD i nil0 = nil0 then D.on.getD i nil0 else torn (D.on.getD i nil0) (D.new.getD i nil0) (ps.getD (cnt D.new i) 0)

def crD (D : Dev) (ps : List Int) : Dev := ⟨upd D.on D.on.length (tearF D ps), upd D.new D.on.length (fun _ => nil0), 0, false⟩

def dirtyN (D : Dev) : Nat := cnt D.new D.new.length

def wiD (D : Dev) : Dev := ⟨upd D.on D.on.length (fun _ => zero64), upd D.new D.on.length (fun _ => nil0), 0, false⟩

theorem cnt_succ {l : List ByteArray} {i : Nat} (h : i < l.length) : cnt l (i + 1) = cnt l i + if l[i] = nil0 then 0 else 1 := by
  unfold cnt
  rw [List.take_add_one, List.getElem?_eq_getElem h, List.filter_append, List.length_append]
  congr 1
  by_cases e : l[i] = nil0
  · simp [e]
  · simp [e]

theorem cnt_le (l : List ByteArray) (i : Nat) : cnt l i ≤ i := by
  unfold cnt
  refine Nat.le_trans (List.length_filter_le _ _) ?_
  rw [List.length_take]; omega

theorem cut_le (p : Int) : cutN p ≤ 64 := by
  unfold cutN
  split
  · omega
  split
  · omega
  omega

theorem torn_size {o n : ByteArray} (ho : o.size = 64) (hn : n.size = 64) (p : Int) : (torn o n p).size = 64 := by
  have h := cut_le p
  show (n.data.toList.take (cutN p) ++ o.data.toList.drop (cutN p)).toArray.size = 64
  have h1 : n.data.toList.length = 64 := hn
  have h2 : o.data.toList.length = 64 := ho
  rw [List.size_toArray, List.length_append, List.length_take, List.length_drop]
  omega

theorem getD_mem {l : List ByteArray} {i : Nat} (h : i < l.length) : l.getD i nil0 ∈ l := by
  rw [List.getD_eq_getElem?_getD, List.getElem?_eq_getElem h]
  exact List.getElem_mem h

theorem getD_at {l : List ByteArray} {i : Nat} (h : i < l.length) : l.getD i nil0 = l[i] := by
  rw [List.getD_eq_getElem?_getD, List.getElem?_eq_getElem h]; rfl

theorem burn_parts (D : Dev) : (burn D).1.on = D.on ∧ (burn D).1.new = D.new ∧ (burn D).1.left ≤ D.left := by
  unfold burn
  split
  · exact ⟨rfl, rfl, Nat.le_refl _⟩
  · exact ⟨rfl, rfl, Nat.sub_le _ _⟩

theorem burn_ok {D : Dev} (h : DevOk D) : DevOk (burn D).1 := by
  obtain ⟨b1, b2, b3⟩ := burn_parts D
  exact ⟨by rw [b1, b2]; exact h.len, by rw [b1]; exact h.pos, by rw [b1]; exact h.max, by rw [b1]; exact h.on64, by rw [b2]; exact h.new64, Nat.le_trans b3 h.lft⟩

theorem wrD_ok {D : Dev} (h : DevOk D) (i : Int) (t : ByteArray) : DevOk (wrD D i t).1 := by
  unfold wrD
  split
  · exact h
  split
  · exact h
  next ht =>
  split
  · exact burn_ok h
  · refine ⟨by rw [List.length_set]; exact h.len, h.pos, h.max, h.on64, fun s hs => ?_, Nat.le_trans (burn_parts D).2.2 h.lft⟩
    rcases List.mem_or_eq_of_mem_set hs with hs | rfl
    · exact h.new64 s hs
    · exact .inr (by simpa using ht)

theorem flush64 {D : Dev} (h : DevOk D) {i : Nat} (hi : i < D.on.length) : (flushF D i).size = 64 := by
  unfold flushF
  have hi2 : i < D.new.length := by rw [h.len]; exact hi
  split
  · exact h.on64 _ (getD_mem hi)
  next hn => exact (h.new64 _ (getD_mem hi2)).resolve_left hn

theorem tear64 {D : Dev} (h : DevOk D) (ps : List Int) {i : Nat} (hi : i < D.on.length) : (tearF D ps i).size = 64 := by
  unfold tearF
  have hi2 : i < D.new.length := by rw [h.len]; exact hi
  split
  · exact h.on64 _ (getD_mem hi)
  next hn => exact torn_size (h.on64 _ (getD_mem hi)) ((h.new64 _ (getD_mem hi2)).resolve_left hn) _

theorem cleared {D : Dev} (h : DevOk D) : ∀ s ∈ upd D.new D.on.length (fun _ => nil0), s = nil0 ∨ s.size = 64 := fun s hs => by
  rcases upd_mem hs with ⟨_, _, _, rfl⟩ | hs
  · exact .inl rfl
  · exact h.new64 s hs

theorem made {D : Dev} (h : DevOk D) {f : Nat → ByteArray} (hf : ∀ i, i < D.on.length → (f i).size = 64) : ∀ s ∈ upd D.on D.on.length f, s.size = 64 := fun s hs => by
  rcases upd_mem hs with ⟨i, hi, _, rfl⟩ | hs
  · exact hf i hi
  · exact h.on64 s hs

theorem flD_ok {D : Dev} (h : DevOk D) : DevOk (flD D).1 := by
  unfold flD
  split
  · exact h
  split
  · exact burn_ok h
  · exact ⟨by rw [upd_len, upd_len]; exact h.len, by rw [upd_len]; exact h.pos, by rw [upd_len]; exact h.max, made h (fun i hi => flush64 h hi), cleared h, Nat.le_trans (burn_parts D).2.2 h.lft⟩

theorem fuD_ok {D : Dev} (h : DevOk D) (n : Int) : DevOk (fuD D n).1 := by
  unfold fuD
  split
  · exact h
  split
  · exact h
  next hn => exact ⟨h.len, h.pos, h.max, h.on64, h.new64, by show n.toNat ≤ 1048576; omega⟩

theorem crD_ok {D : Dev} (h : DevOk D) (ps : List Int) : DevOk (crD D ps) :=
  ⟨by show (upd _ _ _).length = (upd _ _ _).length; rw [upd_len, upd_len]; exact h.len, by show _ ≤ (upd _ _ _).length; rw [upd_len]; exact h.pos, by show (upd _ _ _).length ≤ _; rw [upd_len]; exact h.max, made h (fun i hi => tear64 h ps hi), cleared h, Nat.zero_le _⟩

theorem wiD_ok {D : Dev} (h : DevOk D) : DevOk (wiD D) :=
  ⟨by show (upd _ _ _).length = (upd _ _ _).length; rw [upd_len, upd_len]; exact h.len, by show _ ≤ (upd _ _ _).length; rw [upd_len]; exact h.pos, by show (upd _ _ _).length ≤ _; rw [upd_len]; exact h.max, made h (fun _ _ => zero64_size), cleared h, Nat.zero_le _⟩

end Sc
end Go.Proofs.Ytecgimnmccmpjaa
