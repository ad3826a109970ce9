/- A table of leases in plain terms: what each call answers and leaves; no condition. -/
import Derived.Test.YtlhcaankfhdakaaBk
namespace Go.Proofs.Ytlhcaankfhdakaa
namespace Ls

/-- a lease: its number, its stamp, the tick up to which it runs -/
structure Le where
  n : Int
  t : Int
  u : Int

def le0 : Le := ⟨0, 0, 0⟩
def g (l : List Le) (k : Nat) : Le := l.getD k le0

theorem g_lt {l : List Le} {k : Nat} (h : k < l.length) : g l k = l[k] := by
  unfold g; rw [List.getD_eq_getElem?_getD, List.getElem?_eq_getElem h]; rfl
theorem g_at {l : List Le} {k : Nat} {x : Le} (h : l[k]? = some x) : g l k = x := by
  unfold g; rw [List.getD_eq_getElem?_getD, h]; rfl
theorem at_g {l : List Le} {k : Nat} (h : k < l.length) : l[k]? = some (g l k) := by
  rw [g_lt h, List.getElem?_eq_getElem h]

/-- a table: how long its leases run, how many were given out, those that are there -/
structure Tb where
  long : Int
  many : Int
  L : List Le

def okT (x : Int) : Prop := 0 ≤ x ∧ x ≤ 1099511627776
def okS (x : Int) : Prop := 0 ≤ x ∧ x ≤ 1125899906842624
instance (x : Int) : Decidable (okT x) := by unfold okT; infer_instance
instance (x : Int) : Decidable (okS x) := by unfold okS; infer_instance

/-- those that are not over -/
def lv (L : List Le) (now : Int) : List Le := L.filter (fun x => decide (now ≤ x.u))
/-- the place of a number -/
def nu (L : List Le) (n : Int) : Nat := L.findIdx (fun x => decide (x.n = n))
def minT : List Le → Int → Int
  | [], m => m
  | x :: r, m => minT r (min m x.t)

def takeB (D : Tb) (now ts : Int) : Tb × Int × Int :=
  if ¬ (okT now ∧ okS ts) then (D, 0, 1) else if 1024 ≤ (lv D.L now).length then (D, 0, 2) else (⟨D.long, D.many + 1, lv D.L now ++ [⟨D.many + 1, ts, now + D.long⟩]⟩, D.many + 1, 0)
def checkB (D : Tb) (now n : Int) : Int × Int :=
  if ¬ okT now then (0, 1) else if D.L.length ≤ nu D.L n then (0, 5) else if (g D.L (nu D.L n)).u < now then (0, 170) else ((g D.L (nu D.L n)).t, 0)
def keepB (D : Tb) (now n : Int) : Tb × Int :=
  if (checkB D now n).2 ≠ 0 then (D, (checkB D now n).2) else (⟨D.long, D.many, D.L.set (nu D.L n) ⟨(g D.L (nu D.L n)).n, (g D.L (nu D.L n)).t, max (g D.L (nu D.L n)).u (now + D.long)⟩⟩, 0)
def endB (D : Tb) (n : Int) : Tb × Int := if nu D.L n < D.L.length then (⟨D.long, D.many, D.L.eraseIdx (nu D.L n)⟩, 0) else (D, 5)
def lowB (D : Tb) (now last : Int) : Int × Int := if ¬ (okT now ∧ okS last) then (0, 1) else (minT (lv D.L now) last, 0)

theorem lv_snoc {L : List Le} {j : Nat} (h : j < L.length) (now : Int) : lv (L.take (j + 1)) now = if now ≤ (g L j).u then lv (L.take j) now ++ [g L j] else lv (L.take j) now := by
  unfold lv
  rw [List.take_succ_eq_append_getElem h, List.filter_append, ← g_lt h]
  by_cases e : now ≤ (g L j).u
  · rw [if_pos e]; simp [e]
  · rw [if_neg e]; simp [e]

theorem minT_snoc : ∀ (l : List Le) (x : Le) (m : Int), minT (l ++ [x]) m = min (minT l m) x.t
  | [], _, _ => rfl
  | _ :: r, x, _ => minT_snoc r x _

theorem lv_len (L : List Le) (now : Int) : (lv L now).length ≤ L.length := List.length_filter_le _ _

theorem nu_at {L : List Le} {n : Int} (h : nu L n < L.length) : (g L (nu L n)).n = n := by
  unfold nu at h ⊢
  have := List.findIdx_getElem (p := fun x : Le => decide (x.n = n)) (w := h)
  rw [g_lt h]
  simpa using this

theorem nu_eq {L : List Le} {n : Int} {j : Nat} (h : j < L.length) (hn : (g L j).n = n) (hno : ∀ k, k < j → (g L k).n ≠ n) : nu L n = j := by
  unfold nu
  rw [List.findIdx_eq h]
  refine ⟨by rw [← g_lt h]; simpa using hn, fun k hk => ?_⟩
  have := hno k hk
  rw [g_lt (by omega)] at this
  simpa using this

theorem nu_no {L : List Le} {n : Int} (hno : ∀ k, k < L.length → (g L k).n ≠ n) : ¬ nu L n < L.length := fun h => hno _ h (nu_at h)

end Ls
end Go.Proofs.Ytlhcaankfhdakaa
