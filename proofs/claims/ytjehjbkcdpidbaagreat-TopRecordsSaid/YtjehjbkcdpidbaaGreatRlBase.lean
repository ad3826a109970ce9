/- The landed log in the memory: its struct, its row of texts, its row of bytes; what its calls read; contracts; no condition but the range. -/
import Derived.Test.YtjehjbkcdpidbaaGreatB9
namespace Go.Proofs.YtjehjbkcdpidbaaGreat
namespace Rd
open Go.RowKit Sc Bk

attribute [local go_sem ↓] Go.wp_at_zero Go.wp_at_succ
attribute [local go_sem] floatUpon pick

/-- what is asked of the calls of the landed device that only read -/
structure DevQ (Rep : RepT) : Prop where
  lt : ∀ {W F g D}, Rep W F g D → ∀ k, F k → k < W.heap.size
  ok : ∀ {W F g D}, Rep W F g D → DevOk D
  kept : ∀ {W W' F g D}, Rep W F g D → (∀ k, F k → W'.heap[k]? = W.heap[k]?) → Rep W' F g D
  size : ∀ {F g D} (w : World), Rep w F g D → Calls Tryz.prog 39 #[.pointer (some ⟨g, 0, none⟩)] w fun e w' => e = .returned (.int .i64 (D.on.length : Int)) ∧ w' = w
  read : ∀ {F g D} (i : Int) (w : World), Rep w F g D → -9223372036854775808 ≤ i ∧ i ≤ 9223372036854775807 → Calls Tryz.prog 29 #[.pointer (some ⟨g, 0, none⟩), .int .i64 i] w fun e w' => e = .returned (.tuple #[.string (rdV D i).1, .int .i64 (rdV D i).2]) ∧ Below w.heap.size w w'

/-- the log's struct: the device, the head, the texts, how many are synced, what waits -/
def LC (W : World) (p g c a n : Nat) (A : Value) (mn : Nat) (B : Value) : Prop :=
  Cel W p 84 [.pointer (some ⟨g, 0, none⟩), .int .i64 (c : Int), .int .i64 (a : Int), .int .i64 (n : Int), A, .int .i64 (mn : Int), B]

/-- the log's blocks -/
def LFt (p : Nat) (A B : Value) : Nat → Prop := fun k => k = p ∨ A.ownBlock = some k ∨ B.ownBlock = some k

/-- a landed log -/
structure LL (W : World) (p g : Nat) (A B : Value) (l : Lg) : Prop where
  cel : LC W p g l.cnt l.ar l.bs.length A l.mn B
  txt : W.ownsRow 0 9 1 A l.ts.length (strV l.ts)
  wt : W.ownsRow 0 5 1 B (waitL l).length (Lib.byteCells (waitL l))

def LRep (W : World) (L : Nat → Prop) (p g _n : Nat) (l : Lg) : Prop := ∃ A B, L = LFt p A B ∧ LL W p g A B l

section
variable {Rep : RepT} {W W' w : World} {F : Nat → Prop} {p g c a n m mn : Nat} {A B : Value} {l : Lg} {D : Dev}

theorem DevQ.step (H : DevQ Rep) (h : Rep W F g D) (hb : Below W.heap.size W W') : Rep W' F g D := H.kept h fun k hk => hb.block k (H.lt h k hk)

theorem own_kept {e : TypeId} {H : Nat} {v : Value} {k : Nat} {xs : List Value} (h : W.ownsRow H e 1 v k xs) (hk : ∀ j, v.ownBlock = some j → W'.heap[j]? = W.heap[j]?) : W'.ownsRow H e 1 v k xs := by
  rcases h with ⟨hl, hn | ⟨j, cap, cur, hv, hb, hg, rest⟩⟩
  · exact ⟨hl, .inl hn⟩
  · exact ⟨hl, .inr ⟨j, cap, cur, hv, hb, (hk j (by rw [hv]; rfl)).trans hg, rest⟩⟩

theorem own_lt {e : TypeId} {H : Nat} {v : Value} {k : Nat} {xs : List Value} (h : W.ownsRow H e 1 v k xs) : ∀ j, v.ownBlock = some j → j < W.heap.size := fun j hj => by
  rcases h with ⟨hl, ⟨hn, _⟩ | ⟨i, cap, cur, hv, hb, hg, rest⟩⟩
  · rw [hn] at hj; cases hj
  · rw [hv] at hj; cases hj; exact (Array.getElem?_eq_some_iff.1 hg).1

theorem own_far {e t : TypeId} {H : Nat} {v : Value} {k q : Nat} {xs ys : List Value} (h : W.ownsRow H e 1 v k xs) (hc : Cel W q t ys) (hn : e ≠ t) : v.ownBlock ≠ some q := fun e' => by
  rcases h with ⟨hl, ⟨hn, _⟩ | ⟨i, cap, cur, hv, hb, hg, rest⟩⟩
  · rw [hn] at e'; cases e'
  · rw [hv] at e'; cases e'
    unfold Cel at hc
    rw [hg] at hc
    simp only [Option.some.injEq, Obj.cells.injEq] at hc
    exact hn hc.2.1

theorem LL.lt (h : LL W p g A B l) : ∀ k, LFt p A B k → k < W.heap.size := fun k hk => by
  rcases hk with rfl | hk | hk
  · exact h.cel.lt
  · exact own_lt h.txt k hk
  · exact own_lt h.wt k hk

theorem LL.kept (h : LL W p g A B l) (hk : ∀ k, LFt p A B k → W'.heap[k]? = W.heap[k]?) : LL W' p g A B l :=
  ⟨(hk p (.inl rfl)).trans h.cel, own_kept h.txt fun j hj => hk j (.inr (.inl hj)), own_kept h.wt fun j hj => hk j (.inr (.inr hj))⟩

theorem LL.step (h : LL W p g A B l) (hb : Below W.heap.size W W') : LL W' p g A B l := h.kept fun k hk => hb.block k (h.lt k hk)

theorem LL.dA (h : LL W p g A B l) : A.ownBlock ≠ some p := own_far h.txt h.cel (by decide)
theorem LL.dB (h : LL W p g A B l) : B.ownBlock ≠ some p := own_far h.wt h.cel (by decide)

set_option maxRecDepth 20000 in
set_option maxHeartbeats 1000000 in
theorem sectors_any (H : DevQ Rep) (hr : Rep w F g D) (hc : LC w p g c a n A mn B) (h2 : 4 ≤ D.on.length) :
    Calls Tryz.prog 109 #[.pointer (some ⟨p, 0, none⟩)] w fun e w' => e = .returned (.int .i64 (((D.on.length - 2) / 2 : Nat) : Int)) ∧ w' = w := by
  have k0 := hc.cell (i := 0) rfl
  have hmx := (H.ok hr).max
  have HS := Lib.hid (H.size w hr)
  obtain ⟨x, hx⟩ : ∃ x, x = (D.on.length - 2) / 2 := ⟨_, rfl⟩
  have e2 : ((D.on.length : Int) - 2).tdiv 2 = (x : Int) := by rw [Int.tdiv_eq_ediv_of_nonneg (by omega)]; omega
  have b1 : x ≤ 1024 := by omega
  rw [← hx]
  clear hx hc hr
  generalize D.on.length = N at *
  go_enter Tryz.func109, Tryz.ntmps109
  go_wp2_with fail
  refine HS.out.mono ?_
  rintro e w' ⟨rfl, rfl⟩
  go_wp2_with fail
  go_ret
  exact ⟨rfl, rfl⟩

set_option maxRecDepth 20000 in
set_option maxHeartbeats 1000000 in
theorem most_any (H : DevQ Rep) (hr : Rep w F g D) (hc : LC w p g c a n A mn B) (h2 : 4 ≤ D.on.length) :
    Calls Tryz.prog 65 #[.pointer (some ⟨p, 0, none⟩)] w fun e w' => e = .returned (.int .i64 (areaN D : Int)) ∧ w' = w := by
  have HS := Lib.hid (sectors_any H hr hc h2)
  have hmx := (H.ok hr).max
  obtain ⟨x, hx⟩ : ∃ x, x = (D.on.length - 2) / 2 := ⟨_, rfl⟩
  have e3 : (x : Int) * 64 = (areaN D : Int) := by unfold areaN; omega
  have b1 : x ≤ 1024 := by omega
  have b2 : areaN D ≤ 65536 := by omega
  rw [← hx] at HS
  clear hx hc hr hmx
  generalize areaN D = ab at *
  go_enter Tryz.func65, Tryz.ntmps65
  go_wp2_with fail
  refine HS.out.mono ?_
  rintro e w' ⟨rfl, rfl⟩
  go_wp2_with fail
  go_ret
  exact ⟨rfl, rfl⟩

set_option maxRecDepth 20000 in
set_option maxHeartbeats 1000000 in
theorem first_any (H : DevQ Rep) (hr : Rep w F g D) (hc : LC w p g c a n A mn B) (h2 : 4 ≤ D.on.length) (i : Nat) (hi : i ≤ 1) :
    Calls Tryz.prog 115 #[.pointer (some ⟨p, 0, none⟩), .int .i64 (i : Int)] w fun e w' => e = .returned (.int .i64 (areaAt D i : Int)) ∧ w' = w := by
  have HS := Lib.hid (sectors_any H hr hc h2)
  have hmx := (H.ok hr).max
  obtain ⟨x, hx⟩ : ∃ x, x = (D.on.length - 2) / 2 := ⟨_, rfl⟩
  have b1 : x ≤ 1024 := by omega
  have e4 : areaAt D i = 2 + i * x := by unfold areaAt areaN; rw [← hx, Nat.mul_div_cancel _ (by omega)]
  rw [← hx] at HS
  rw [e4]
  clear hx hc hr hmx e4
  have hi' : i = 0 ∨ i = 1 := by omega
  rcases hi' with rfl | rfl
  · simp only [Nat.zero_mul, Nat.add_zero]
    go_enter Tryz.func115, Tryz.ntmps115
    go_wp2_with fail
    refine HS.out.mono ?_
    rintro e w' ⟨rfl, rfl⟩
    go_wp2_with fail
    go_ret
    exact ⟨by simp, rfl⟩
  · have e5 : 2 + 1 * (x : Int) = ((2 + 1 * x : Nat) : Int) := by omega
    go_enter Tryz.func115, Tryz.ntmps115
    go_wp2_with fail
    refine HS.out.mono ?_
    rintro e w' ⟨rfl, rfl⟩
    go_wp2_with fail
    go_ret
    exact ⟨by simp, rfl⟩

end

end Rd
end Go.Proofs.YtjehjbkcdpidbaaGreat
