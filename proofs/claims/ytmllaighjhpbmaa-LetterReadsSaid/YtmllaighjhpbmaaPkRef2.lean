/- What the document's own Check of packs answers; contract; no condition but the range. -/
import Derived.Test.YtmllaighjhpbmaaPkRef
namespace Go.Proofs.Ytmllaighjhpbmaa
namespace Pk
open Go.RowKit Bk

attribute [local go_sem ↓] Go.wp_at_zero Go.wp_at_succ
attribute [local go_sem] floatUpon pick

/-- the value of a pack -/
def packV (A B : Option Addr) (c d : Nat) (ns : List Int) (ts : List ByteArray) : Value := .agg #[.slice A ns.length c, .slice B ts.length d]

/-- .. that holds these -/
def Holds (w : World) (v : Value) (ns : List Int) (ts : List ByteArray) : Prop :=
  ∃ (A B : Option Addr) (c d : Nat), v = packV A B c d ns ts ∧ IntsAt w A ns ∧ StrsAt w B ts

theorem Holds.below {w w' : World} {v : Value} {ns : List Int} {ts : List ByteArray} (h : Holds w v ns ts) (hb : Below w.heap.size w w') : Holds w' v ns ts := by
  obtain ⟨A, B, c, d, h1, h2, h3⟩ := h
  exact ⟨A, B, c, d, h1, h2.below hb, h3.below hb⟩

theorem ckE_long {ns : List Int} {ts : List ByteArray} (h : 1024 < ns.length ∨ 1024 < ts.length) : ckE ns ts = 2 := by unfold ckE; rw [if_pos h]

theorem ckE_num {ns : List Int} {ts : List ByteArray} (h : ¬ (1024 < ns.length ∨ 1024 < ts.length)) {z : Int} (hz : z ∈ ns) (hn : ¬ numOk z) : ckE ns ts = 1 := by
  unfold ckE
  rw [if_neg h, if_pos (fun hh => hn (hh z hz))]

theorem ckE_text {ns : List Int} {ts : List ByteArray} (h : ¬ (1024 < ns.length ∨ 1024 < ts.length)) (h2 : ∀ n ∈ ns, numOk n) {t : ByteArray} (ht : t ∈ ts) (hn : 4096 < t.size) : ckE ns ts = 2 := by
  unfold ckE
  rw [if_neg h, if_neg (fun hh => hh h2), if_pos (fun hh => by have := hh t ht; omega)]

theorem ckE_ok {ns : List Int} {ts : List ByteArray} (h : ¬ (1024 < ns.length ∨ 1024 < ts.length)) (h2 : ∀ n ∈ ns, numOk n) (h3 : ∀ t ∈ ts, t.size ≤ 4096) : ckE ns ts = 0 := ckE_zero.2 ⟨by omega, by omega, h2, h3⟩

theorem mem_take_succ {α : Type} {l : List α} {j : Nat} (h : j < l.length) {p : α → Prop} (h1 : ∀ x ∈ l.take j, p x) (h2 : p l[j]) : ∀ x ∈ l.take (j + 1), p x := by
  intro x hx
  rw [List.take_add_one, List.getElem?_eq_getElem h] at hx
  rcases List.mem_append.1 hx with hx | hx
  · exact h1 x hx
  · rw [Option.toList_some, List.mem_singleton] at hx
    rw [hx]; exact h2

end Pk
end Go.Proofs.Ytmllaighjhpbmaa
