/- What the landed device does at Flush; contract; no condition but the range. -/
import Derived.Test.YtecgimnmccmpjaaScLand3
import Derived.Maps.RangeWalk
namespace Go.Proofs.Ytecgimnmccmpjaa
namespace Sc
open Go.RowKit Bk

attribute [local go_sem ↓] Go.wp_at_zero Go.wp_at_succ
attribute [local go_sem] floatUpon pick

/-- a sector is stored at the operation, for the walk -/
theorem wpList_secStore (w : World) {ops : Array Oper} {rest : List Oper} {o : Oper} {act : Act} {Q : Exit → Act → World → Prop}
    (hg : o.guard = none) (x y : Operand) (hop : o.op = Op.store 64 x y) (a : Nat) (l : List ByteArray) (h : Cel w a 64 (onC l)) (h64 : ∀ s ∈ l, s.size = 64)
    (i : Nat) (hi : i < l.length) (t : ByteArray) (ht : t.size = 64) (hx : act.eval x = .pointer (some ⟨a, i * 64, none⟩)) (hy : act.eval y = secV t)
    (hK : wpList Try.prog ops Q rest (act.put o.dst undef) (w.setRow a (onC (l.set i t)).toArray)) : wpList Try.prog ops Q (o :: rest) act w := by
  refine wpList_plain hg fun K' hK' => ?_
  have hrun := sec_store h h64 hi ht
  unfold Oper.wp
  simp only [execOp, hop, hx, hy, Sem.run_bind, hrun, Result.andThen_ok]
  exact hK' _ _ hK

/-- what lies on the device while a flush goes through the cache: what is still to come is not there yet -/
def flF (D : Dev) (left : Lit → Bool) (i : Nat) : ByteArray := if D.new.getD i nil0 ≠ nil0 ∧ left (.int .i64 (i : Int)) = false then D.new.getD i nil0 else D.on.getD i nil0
def flL (D : Dev) (left : Lit → Bool) : List ByteArray := (List.range D.on.length).map (flF D left)

theorem flL_len (D : Dev) (left : Lit → Bool) : (flL D left).length = D.on.length := by simp [flL]

theorem flL_64 {D : Dev} (hok : DevOk D) (left : Lit → Bool) : ∀ s ∈ flL D left, s.size = 64 := fun s hs => by
  unfold flL at hs
  obtain ⟨i, hi, rfl⟩ := List.mem_map.1 hs
  rw [List.mem_range] at hi
  unfold flF
  split
  next h => exact (hok.new64 _ (getD_mem (by rw [hok.len]; exact hi))).resolve_left h.1
  · exact hok.on64 _ (getD_mem hi)

theorem flL_start {D : Dev} (hok : DevOk D) {left : Lit → Bool} (hl : ∀ x : Int, left (.int .i64 x) = (slot D.new x).isSome) : flL D left = D.on := by
  refine List.ext_getElem (flL_len D left) fun i h1 h2 => ?_
  simp only [flL, List.getElem_map, List.getElem_range]
  unfold flF
  rw [if_neg, getD_at h2]
  rintro ⟨h3, h4⟩
  rw [hl, slot_nat (by rw [hok.len]; exact h2), if_neg h3] at h4
  cases h4

theorem flL_end {D : Dev} {left : Lit → Bool} (hl : ∀ z, left z = false) : flL D left = upd D.on D.on.length (flushF D) := by
  unfold flL upd
  refine List.map_congr_left fun i hi => ?_
  rw [List.mem_range] at hi
  unfold flF flushF
  rw [if_pos hi]
  by_cases e : D.new.getD i nil0 = nil0
  · rw [if_neg (fun h => h.1 e), if_pos e]
  · rw [if_pos ⟨e, hl _⟩, if_neg e]

theorem flL_step {D : Dev} {left : Lit → Bool} {i : Nat} (_hi : i < D.on.length) (hw : D.new.getD i nil0 ≠ nil0) :
    (flL D left).set i (D.new.getD i nil0) = flL D (fun z => left z && !z.sameKey (.int .i64 (i : Int))) := by
  refine List.ext_getElem (by rw [List.length_set, flL_len, flL_len]) fun k h1 h2 => ?_
  rw [List.getElem_set]
  simp only [flL, List.getElem_map, List.getElem_range]
  unfold flF
  by_cases e : i = k
  · subst e
    rw [if_pos rfl, if_pos ⟨hw, by simp [Lit.sameKey]⟩]
  · rw [if_neg e]
    have : (Lit.int IntKind.i64 (k : Int)).sameKey (.int .i64 (i : Int)) = false := Maps.sameKey_ne (fun h => e (by injection h with _ h; omega))
    simp [this]

theorem below_grown {u v : World} (h : Below u.heap.size u v) : u.grownBy v none := ⟨h.os, h.tape, h.output, h.size, fun k hk _ => h.block k hk⟩

theorem row_grown (u : World) (k : Nat) (c : Array Value) : u.grownBy (u.setRow k c) (some k) := ⟨rfl, rfl, rfl, by simp, fun i _ hn => row_far c (fun e => hn (by rw [e]))⟩

/-- what is known of an entry that comes out -/
theorem entry_is {w : World} {b n : Nat} {new : List ByteArray} {DM : DataW Unit} (_h : w.ownsMap Try.prog 3 rdSec b n DM) (hs : Says DM new) {x : Int} {c : ByteArray} {kl : Lit} {y : DataW Unit × List MemPlace}
    (hk : keyOf Try.prog 3 (.int .i64 x) = some kl) (hR : rdSec (secV c) = some y) (hat : ∀ zd, DM.atKey kl zd = y.1) :
    ∃ i : Nat, x = (i : Int) ∧ kl = .int .i64 (i : Int) ∧ i < new.length ∧ new.getD i nil0 ≠ nil0 ∧ c = new.getD i nil0 ∧ c.size = 64 := by
  obtain ⟨x', e1, e2, _⟩ := Maps.keyOf_i64 Try.underlying3 hk
  obtain rfl : x = x' := by simpa using e1
  subst e2
  obtain ⟨s, hs64, e3, e4⟩ := rdSec_inv hR
  obtain rfl := secV_inj e3
  rw [e4] at hat
  simp only at hat
  have hh := Maps.has_true_of_atKey hat
  rw [hs.has x] at hh
  obtain ⟨i, rfl, h1, h2⟩ := slot_some hh
  have hsl := slot_nat h1
  rw [if_neg h2] at hsl
  have := hs.at_ _ _ hsl (strD c)
  rw [hat] at this
  exact ⟨i, rfl, rfl, h1, h2, strD_inj this, hs64⟩

section
variable {w w' : World} {g a b : Nat} {D : Dev}

/-- a flush under way: the iterator is block r -/
structure FlEnv (w W : World) (g a b r : Nat) (D D1 : Dev) (DM : DataW Unit) (left : Lit → Bool) (cnt : Nat) : Prop where
  rg : W.ranges Try.prog 3 rdSec b r D.new.length DM left cnt
  d : LAt W g a b ⟨flL D left, D.new, D1.left, D1.down⟩
  f : Fr (LFoot g a b) (LFoot g a b) w W
  ra : r ≠ a
  rg' : r ≠ g
  wr : w.heap.size ≤ r

theorem FlEnv.step {W W' : World} {r : Nat} {D1 : Dev} {DM : DataW Unit} {left : Lit → Bool} {cnt : Nat} (h : FlEnv w W g a b r D D1 DM left cnt) (hb : Below W.heap.size W W') : FlEnv w W' g a b r D D1 DM left cnt :=
  ⟨h.rg.kept (below_grown hb) (by simp) (by simp), h.d.step hb, h.f.below hb, h.ra, h.rg', h.wr⟩

theorem FlEnv.put {W : World} {r : Nat} {D1 : Dev} {DM : DataW Unit} {left : Lit → Bool} {i : Nat} (hi : i < D.on.length) (hw : D.new.getD i nil0 ≠ nil0)
    (hd : LAt W g a b ⟨flL D left, D.new, D1.left, D1.down⟩) (hf : Fr (LFoot g a b) (LFoot g a b) w W) (hra : r ≠ a) (hrg : r ≠ g) (hwr : w.heap.size ≤ r) {cnt : Nat}
    (hr : W.ranges Try.prog 3 rdSec b r D.new.length DM (fun z => left z && !z.sameKey (.int .i64 (i : Int))) cnt) {c : ByteArray} (hc : c = D.new.getD i nil0) :
    FlEnv w (W.setRow a (onC ((flL D left).set i c)).toArray) g a b r D D1 DM (fun z => left z && !z.sameKey (.int .i64 (i : Int))) cnt := by
  subst hc
  have hd' := hd.setRow (l := (flL D left).set i (D.new.getD i nil0)) (by simp)
  have e := flL_step (left := left) hi hw
  refine ⟨hr.kept (row_grown W a _) (fun e => hd.d3 (Option.some.inj e).symm) (fun e => hra (Option.some.inj e)), ?_, hf.row (.inl lfoot_a) _, hra, hrg, hwr⟩
  rw [e] at hd' ⊢
  exact hd'

end

end Sc
end Go.Proofs.Ytecgimnmccmpjaa
