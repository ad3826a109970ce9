/- The document's net in the memory: New, place, Send; contracts; no condition but the ranges. -/
import Derived.Test.YtkpcfakfkcghdaaNtTake2
import Derived.Test.YtkpcfakfkcghdaaA5
namespace Go.Proofs.Ytkpcfakfkcghdaa
namespace Nt
open Go.RowKit Bk Lt
set_option linter.unusedVariables false

attribute [local go_sem ↓] Go.wp_at_zero Go.wp_at_succ
attribute [local go_sem] floatUpon pick

/-- a letter whose rows lie away from the blocks P -/
structure RV (W : World) (P : Nat → Prop) (x : LI) : Prop where
  val : LetVal W x.A x.B x.c x.d x.l
  ka : 0 < x.l.keys.length → ∀ ad, x.A = some ad → ¬ P ad.block
  wa : 0 < x.l.ws.length → ∀ ad, x.B = some ad → ¬ P ad.block

section
variable {W W' : World} {P P' : Nat → Prop} {x : LI}

theorem RV.away (h : RV W P x) (k : Away P W W') : RV W' P x := by
  refine ⟨⟨fun hp => ?_, fun hp => ?_, h.val.rng, h.val.kn, h.val.wn⟩, h.ka, h.wa⟩
  · obtain ⟨ad, e, h1, h2⟩ := h.val.ks hp
    exact ⟨ad, e, Nat.lt_of_lt_of_le h1 k.size, fun i hi => (k.cell _ (by rw [st_block]; exact h1) (by rw [st_block]; exact h.ka hp ad e)).trans (h2 i hi)⟩
  · obtain ⟨ad, e, h1, h2⟩ := h.val.ws hp
    have e2 : ∀ n, W'.cell? (ad.add n) = W.cell? (ad.add n) := fun n => k.cell _ (by rw [st_block]; exact h1) (by rw [st_block]; exact h.wa hp ad e)
    exact ⟨ad, e, Nat.lt_of_lt_of_le h1 k.size, fun i hi => by
      obtain ⟨z0, z1, z2⟩ := h2 i hi
      exact ⟨(e2 _).trans z0, (e2 _).trans z1, (e2 _).trans z2⟩⟩

theorem RV.below (h : RV W P x) (hb : Below W.heap.size W W') : RV W' P x := ⟨h.val.below hb, h.ka, h.wa⟩

/-- other blocks to be away from: old ones and new ones -/
theorem RV.turn (h : RV W P x) (hP : ∀ k, P' k → P k ∨ W.heap.size ≤ k) : RV W P' x := by
  refine ⟨h.val, fun hp ad e hk => ?_, fun hp ad e hk => ?_⟩
  · obtain ⟨ad', e', h1, _⟩ := h.val.ks hp
    obtain rfl := Option.some.inj (e.symm.trans e')
    exact (hP _ hk).elim (h.ka hp ad e) (fun h2 => by omega)
  · obtain ⟨ad', e', h1, _⟩ := h.val.ws hp
    obtain rfl := Option.some.inj (e.symm.trans e')
    exact (hP _ hk).elim (h.wa hp ad e) (fun h2 => by omega)
end

/-- the document's net in block b -/
structure RAt (W : World) (P : Nat → Prop) (b : Nat) (room : Int) (A : Option Addr) (c : Nat) (L : List LI) : Prop where
  cel : Cel W b 41 [.int .i64 room, .slice A L.length c]
  row : RowF W P A (L.flatMap lcs)
  cap : L.length ≤ c ∧ c ≤ maxLen ∧ (A = none → L.length = 0 ∧ c = 0)
  rv : ∀ x ∈ L, RV W P x
  pb : P b
  lt : ∀ k, P k → k < W.heap.size
  rm : room ≤ 1024
  len : (L.length : Int) ≤ room
  ok : ∀ x ∈ L, LetOk x.l

def RRep (W : World) (P : Nat → Prop) (b : Nat) (room : Int) (l : List Let) : Prop := ∃ A c L, RAt W P b room A c L ∧ L.map (·.l) = l

section
variable {W W' : World} {P P' : Nat → Prop} {b : Nat} {room : Int} {A : Option Addr} {c : Nat} {L : List LI} {l : List Let}

theorem RAt.away (h : RAt W P b room A c L) (k : Away P W W') (hb : W'.heap[b]? = W.heap[b]?) : RAt W' P b room A c L :=
  ⟨hb.trans h.cel, h.row.away k, h.cap, fun x hx => (h.rv x hx).away k, h.pb, fun i hi => Nat.lt_of_lt_of_le (h.lt i hi) k.size, h.rm, h.len, h.ok⟩

theorem RAt.below (h : RAt W P b room A c L) (hb : Below W.heap.size W W') : RAt W' P b room A c L := h.away (Away.of hb) (hb.block b h.cel.lt)

theorem RAt.turn (h : RAt W P b room A c L) (hP : ∀ k, P' k → P k ∨ W.heap.size ≤ k) (hb : P' b) (hl : ∀ k, P' k → k < W.heap.size) : RAt W P' b room A c L :=
  ⟨h.cel, h.row.turn hP, h.cap, fun x hx => (h.rv x hx).turn hP, hb, hl, h.rm, h.len, h.ok⟩

theorem RAt.len10 (h : RAt W P b room A c L) : L.length ≤ 1024 := by have := h.len; have := h.rm; omega

/-- another row, that is new -/
theorem RAt.put {H : Nat} {v : Value} {L' : List LI} (h : RAt W P b room A c L) (ho : W'.ownsRow H 35 9 v L'.length (L'.flatMap lcs)) (hb : Below W.heap.size W W') (hH : ∀ k, P k → k < H) (hrv : ∀ x ∈ L', RV W' P x) (hlen : (L'.length : Int) ≤ room) (hok : ∀ x ∈ L', LetOk x.l) :
    ∃ A' c', v = .slice A' L'.length c' ∧ RAt (W'.setCell ⟨b, 1, none⟩ v) P b room A' c' L' ∧ Far (fun k => k = b) W (W'.setCell ⟨b, 1, none⟩ v) := by
  obtain ⟨A', c', rfl, hr, h1, h2, h3⟩ := own_rowF (F := P) ho (flat_len L') hH
  have ha : Away P W' (W'.setCell ⟨b, 1, none⟩ (.slice A' L'.length c')) := ⟨by simp [World.setCell], fun k _ hn => Below.heap_setCell W' ⟨b, 1, none⟩ _ k (fun e => hn (by rw [e]; exact h.pb))⟩
  refine ⟨A', c', rfl, ⟨(h.cel.below hb).set, hr.away ha, ⟨h1, h2, h3⟩, fun x hx => (hrv x hx).away ha, h.pb, fun k hk => Nat.lt_of_lt_of_le (h.lt k hk) (Nat.le_trans hb.size ha.size), h.rm, hlen, hok⟩, ?_⟩
  exact (Far.of hb).trans (Far.set (F := fun k => k = b) rfl _)

set_option maxHeartbeats 4000000 in
theorem rnew_no (room : Int) (w : World) (h : room < 1 ∨ 1024 < room) :
    Calls Try.prog 9 #[.int .i64 room] w fun e w' => e = .returned (.tuple #[.pointer none, .int .i64 1]) ∧ w' = w := by
  by_cases h1 : room < 1
  · clear h
    go_enter Try.func9, Try.ntmps9
    go_wp2_with fail
    go_ret2
    exact ⟨rfl, rfl⟩
  · have h2 : 1024 < room := by omega
    have h3 : 1 ≤ room := by omega
    clear h h1
    go_enter Try.func9, Try.ntmps9
    go_wp2_with fail
    go_ret2
    exact ⟨rfl, rfl⟩

set_option maxHeartbeats 4000000 in
theorem rnew_any (room : Int) (w : World) (h1 : 1 ≤ room) (h2 : room ≤ 1024) (hP : ∀ k, P k → k < w.heap.size) :
    Calls Try.prog 9 #[.int .i64 room] w fun e w' => e = .returned (.tuple #[.pointer (some ⟨w.heap.size, 0, none⟩), .int .i64 0]) ∧ RAt w' (fun k => P k ∨ k = w.heap.size) w.heap.size room none 0 [] ∧ Below w.heap.size w w' := by
  have HP := Lib.hid hP
  clear hP
  go_enter Try.func9, Try.ntmps9
  go_wp2_with fail
  go_ret2
  refine ⟨rfl, ⟨(blk1 w _).2, RowF.nil _ _ _, ⟨Nat.le_refl _, Nat.zero_le _, fun _ => ⟨rfl, rfl⟩⟩, fun x hx => absurd hx (by simp), .inr rfl, (fun k hk => hk.elim (fun h => by have := HP.out k h; simp; omega) (fun e => by subst e; simp)), h2, (by simp; omega), fun x hx => absurd hx (by simp)⟩, (Below.refl _ w).alloc (Nat.le_refl _) _⟩

set_option maxRecDepth 20000 in
set_option maxHeartbeats 4000000 in
theorem rplace_any (h : RAt W P b room A c L) (p : Int) (hn : 1 ≤ L.length) : Calls Try.prog 47 #[.pointer (some ⟨b, 0, none⟩), .int .i64 p] W fun e w' => e = .returned (.int .i64 (amongV p L.length : Int)) ∧ ∃ n, w' = W.drewN n := by
  have hl10 := h.len10
  have k1 := h.cel.cell (i := 1) rfl
  obtain ⟨n, hN⟩ : ∃ n, L.length = n := ⟨_, rfl⟩
  rw [hN] at k1 hn hl10 ⊢
  obtain ⟨e1, e2, e3⟩ := among_eq p n hn
  have e4 : ((n : Int) == 0) = false := by simp; omega
  have e6 : wrap64 (p.tmod (n : Int) + (n : Int)) = p.tmod (n : Int) + (n : Int) := IntWalk.wrap64_in _ ⟨by omega, by omega⟩
  have e7 : wrap64 (p.tmod (n : Int)) = p.tmod (n : Int) := IntWalk.wrap64_in _ ⟨by omega, by omega⟩
  have ha := amongV_lt p n hn
  have E : Hid ((p.tmod (n : Int) + (n : Int)) % (n : Int) = ((amongV p n : Nat) : Int)) := Lib.hid (by rw [← Int.tmod_eq_emod_of_nonneg (by omega)]; exact e1)
  clear h hN e1 ha
  go_enter Try.func47, Try.ntmps47
  go_upto_region 1 with fail
  go_quiet (fail)
  go_wp2_with fail
  go_ret
  exact ⟨ret_int E.out, _, rfl⟩
end

/-- a row of texts, or of writes, away from some blocks: as an argument's -/
theorem rv_of {W : World} {P : Nat → Prop} {x : LI} (h : LetVal W x.A x.B x.c x.d x.l) (hA : ∀ ad, x.A = some ad → ¬ P ad.block) (hB : ∀ ad, x.B = some ad → ¬ P ad.block) : RV W P x := ⟨h, fun _ => hA, fun _ => hB⟩

def RPost (W : World) (P : Nat → Prop) (b : Nat) (room : Int) (l : List Let) (w' : World) : Prop := RRep w' P b room l ∧ Far (fun k => k = b) W w'


end Nt
end Go.Proofs.Ytkpcfakfkcghdaa
