/- Parts of the proof, joined: RdIn, RdIn2, RdIn3, RdIdle, RdSide, BkStrApp, BkBuild, BkLen, ScSec; their conditions stand with each. -/
import Derived.Lib.AppendStr
import Derived.Shelf.Strings.BuilderK
import Derived.Test.YtjehjbkcdpidbaaGreatRows
import Derived.WalkKit
import Derived.Deep.MidRow
import Derived.Deep.WholeRow
import Derived.Laws.CopyRow
import Derived.Test.YtjehjbkcdpidbaaGreatB0
import Derived.Test.YtjehjbkcdpidbaaGreatB2
import Derived.Test.YtjehjbkcdpidbaaGreatB3
import Derived.Test.YtjehjbkcdpidbaaGreatB4
import Derived.Test.YtjehjbkcdpidbaaGreatB7
import Derived.Test.YtjehjbkcdpidbaaGreatB8

/- A log stays what is told by what is seen of its device; no condition. -/
namespace Go.Proofs.YtjehjbkcdpidbaaGreat
namespace Rd
open Go.RowKit Sc Bk

theorem cat_congr {D D' : Dev} {a b : Nat} : ∀ {i : Nat}, (∀ k, k < i → flushF D' (areaAt D' a + k) = flushF D (areaAt D b + k)) → catS D' a i = catS D b i
  | 0, _ => rfl
  | i + 1, h => by rw [catS_succ, catS_succ, cat_congr (i := i) (fun k hk => h k (by omega)), h i (by omega)]

theorem cat_block {D : Dev} (hok : DevOk D) (h : 4 ≤ D.on.length) {a : Nat} (ha : a ≤ 1) : ∀ {m i : Nat}, i < m → m ≤ areaN D / 64 → ((catS D a m).drop (64 * i)).take 64 = (flushF D (areaAt D a + i)).data.toList
  | 0, i, hi, _ => by omega
  | m + 1, i, hi, hm => by
    have hl := catS_len hok h ha m (by omega)
    have h64 : (flushF D (areaAt D a + m)).data.toList.length = 64 := by rw [Array.length_toList]; exact flush64 hok (area_fit h ha (by omega))
    rw [catS_succ]
    by_cases e : i = m
    · subst e
      rw [List.drop_append_of_le_length (by omega), List.drop_of_length_le (by omega), List.nil_append, List.take_of_length_le (by omega)]
    · rw [List.drop_append_of_le_length (by omega), List.take_append_of_le_length (by rw [List.length_drop]; omega)]
      exact cat_block hok h ha (by omega) (by omega)

theorem stored_len {D : Dev} (hok : DevOk D) (h : 4 ≤ D.on.length) {a n : Nat} (ha : a ≤ 1) (hn : n ≤ areaN D) : (storedL D a n).length = n := by
  have hd : areaN D / 64 * 64 = areaN D := by unfold areaN; omega
  unfold storedL
  rw [List.length_take, catS_len hok h ha _ (by omega)]
  omega

theorem blk_take {all : List UInt8} {i : Nat} (_h : 64 * i < all.length) : (blkB all i).data.toList.take (all.length - 64 * i) = (all.drop (64 * i)).take 64 := by
  have hl := rowB_len (all := all) (i := i) (Nat.le_refl _)
  show (rowB all i (limB all i)).take (all.length - 64 * i) = _
  unfold rowB
  have hd : (all.drop (64 * i)).length = all.length - 64 * i := List.length_drop
  unfold limB
  by_cases h2 : 64 ≤ all.length - 64 * i
  · rw [Nat.min_eq_left h2, Nat.sub_self, List.replicate_zero, List.append_nil, List.take_of_length_le (by rw [List.length_take]; omega)]
  · rw [Nat.min_eq_right (by omega), List.take_append_of_le_length (by rw [List.length_take]; omega), List.take_take, Nat.min_self, List.take_of_length_le (by omega), List.take_of_length_le (by omega)]

/-- the bytes behind a settling -/
theorem settle_stored {D D' : Dev} (hok : DevOk D) (hok' : DevOk D') (h4 : 4 ≤ D.on.length) (hlen : D'.on.length = D.on.length) {a q : Nat} (ha : a ≤ 1) (hq : q < 2) {H : ByteArray} {old more : List UInt8} (hz : (old ++ more).length ≤ areaN D)
    (hst : storedL D a old.length = old)
    (hv : ∀ j, j < D.on.length → flushF D' j = if j = q then H else if areaAt D a + old.length / 64 ≤ j ∧ j < areaAt D a + old.length / 64 + manyW old more then blkB (old ++ more) (j - areaAt D a) else flushF D j) :
    storedL D' a (old ++ more).length = old ++ more := by
  have hN := areaN_on hlen
  have hA := areaAt_on hlen a
  have hd : areaN D / 64 * 64 = areaN D := by unfold areaN; omega
  have h2 : 2 ≤ areaAt D a := by unfold areaAt; omega
  have hfit : ∀ k, k < areaN D / 64 → areaAt D a + k < D.on.length := fun k hk => area_fit h4 ha hk
  by_cases hm : more = []
  · subst hm
    rw [List.append_nil] at *
    unfold storedL at hst ⊢
    rw [cat_congr (D := D) (b := a) (fun k hk => ?_)]
    · exact hst
    · rw [hA, hv _ (hfit k (by omega)), if_neg (by omega), if_neg]
      unfold manyW
      rw [if_pos rfl]
      omega
  have hmw : manyW old more = ((old ++ more).length + 63) / 64 - old.length / 64 := by unfold manyW; rw [if_neg hm]
  have hlm : old.length ≤ (old ++ more).length := by rw [List.length_append]; omega
  have hmp : 1 ≤ more.length := by
    cases more with
    | nil => exact absurd rfl hm
    | cons x xs => simp
  have hal : (old ++ more).length = old.length + more.length := List.length_append
  have key : ∀ i, i ≤ ((old ++ more).length + 63) / 64 → (catS D' a i).take (old ++ more).length = (old ++ more).take (64 * i) := by
    intro i
    induction i with
    | zero => intro _; simp [catS]
    | succ i ih =>
      intro hi
      have ih := ih (by omega)
      have hlc := catS_len hok' (by omega) ha i (by rw [hN]; omega)
      have hlt : 64 * i < (old ++ more).length := by omega
      rw [catS_succ, List.take_append, hlc]
      rw [ih]
      have e2 : (old ++ more).take (64 * (i + 1)) = (old ++ more).take (64 * i) ++ ((old ++ more).drop (64 * i)).take 64 := by
        rw [show 64 * (i + 1) = 64 * i + 64 by omega, List.take_add]
      rw [e2]
      congr 1
      rw [hA, hv _ (hfit i (by omega)), if_neg (by omega)]
      by_cases hf : old.length / 64 ≤ i
      · rw [if_pos (by omega), Nat.add_sub_cancel_left]
        exact blk_take hlt
      · rw [if_neg (by omega)]
        have hblk := cat_block hok h4 ha (m := (old.length + 63) / 64) (i := i) (by omega) (by omega)
        have h64 : (flushF D (areaAt D a + i)).data.toList.length = 64 := by rw [Array.length_toList]; exact flush64 hok (hfit i (by omega))
        rw [List.take_of_length_le (by omega), ← hblk]
        rw [List.drop_append_of_le_length (by omega), List.take_append_of_le_length (by rw [List.length_drop]; omega)]
        conv => rhs; rw [← hst]
        unfold storedL
        rw [List.drop_take, List.take_take, Nat.min_eq_left (by omega)]
  have hk := key (((old ++ more).length + 63) / 64) (Nat.le_refl _)
  unfold storedL
  rw [hk, List.take_of_length_le (by omega)]

/-! ### heads -/

theorem hds_none {D : Dev} : ∀ {i : Nat}, hdsP D i = none → ∀ j, j < i → ¬ okH (areaN D) (flushF D j).data.toList
  | 0, _, _, _ => by omega
  | i + 1, e, j, hj => by
    unfold hdsP at e
    split at e
    · cases e
    next hc =>
      by_cases hji : j = i
      · subst hji
        intro ho
        exact hc ⟨ho, fun h' e' => by rw [e] at e'; cases e'⟩
      · exact hds_none e j (by omega)

theorem hds_max {D : Dev} : ∀ {i : Nat} {h : Nat × Nat × Nat}, hdsP D i = some h → ∀ j, j < i → okH (areaN D) (flushF D j).data.toList → cOf (flushF D j).data.toList ≤ h.1
  | 0, _, e, _, _, _ => by cases e
  | i + 1, h, e, j, hj, ho => by
    unfold hdsP at e
    split at e
    next hc =>
      cases e
      by_cases hji : j = i
      · subst hji; exact Nat.le_refl _
      · cases hp : hdsP D i with
        | none => exact absurd ho (hds_none hp j (by omega))
        | some h' => exact Nat.le_trans (hds_max hp j (by omega) ho) (Nat.le_of_lt (hc.2 h' hp))
    next hc =>
      by_cases hji : j = i
      · subst hji
        have : ¬ ∀ h', hdsP D j = some h' → h'.1 < cOf (flushF D j).data.toList := fun hall => hc ⟨ho, hall⟩
        rw [e] at this
        refine Nat.le_of_not_lt fun hlt => this fun h' e' => ?_
        cases e'; exact hlt
      · exact hds_max e j (by omega) ho
/-- a head that is greater than all counts -/
theorem hds_new {D' : Dev} {q c a n : Nat} (hq : q < 2) (hab : areaN D' < 256 ^ 8) (hc1 : 1 ≤ c) (hc : c ≤ 4611686018427387904) (ha : a ≤ 1) (hn : n ≤ areaN D') (hv : flushF D' q = headB c a n)
    (ho : ∀ j, j < 2 → j ≠ q → okH (areaN D') (flushF D' j).data.toList → cOf (flushF D' j).data.toList < c) : hdsP D' 2 = some (c, a, n) := by
  have hL : (headB c a n).data.toList = headL c a n := by unfold headB; simp
  have hok : okH (areaN D') (flushF D' q).data.toList := by rw [hv, hL]; exact ok_head hc1 hc ha hn hab
  have e1 : cOf (flushF D' q).data.toList = c := by rw [hv, hL]; exact c_head a n (by omega)
  have e2 : aOf (flushF D' q).data.toList = a := by rw [hv, hL]; exact a_head (by omega)
  have e3 : lOf (flushF D' q).data.toList = n := by rw [hv, hL]; exact l_head c a (by omega)
  have hs : ∀ i, hdsP D' (i + 1) = if okH (areaN D') (flushF D' i).data.toList ∧ (∀ h, hdsP D' i = some h → h.1 < cOf (flushF D' i).data.toList) then some (cOf (flushF D' i).data.toList, aOf (flushF D' i).data.toList, lOf (flushF D' i).data.toList) else hdsP D' i := fun _ => rfl
  have h0 : hdsP D' 0 = none := rfl
  rcases (show q = 0 ∨ q = 1 by omega) with rfl | rfl
  · have h1 : hdsP D' 1 = some (c, a, n) := by
      rw [hs 0, if_pos ⟨hok, fun h e => by rw [h0] at e; cases e⟩, e1, e2, e3]
    rw [hs 1, if_neg, h1]
    rintro ⟨g1, g2⟩
    have := g2 _ h1
    have := ho 1 (by omega) (by omega) g1
    omega
  · rw [hs 1, if_pos, e1, e2, e3]
    refine ⟨hok, fun h e => ?_⟩
    rw [e1]
    rw [hs 0] at e
    split at e
    next hc0 =>
      cases e
      exact ho 0 (by omega) (by omega) hc0.1
    · rw [h0] at e; cases e

end Rd
end Go.Proofs.YtjehjbkcdpidbaaGreat

/- A log stays what is told by what is seen of its device: Open, Append, Sync, Restart, a fuse; behind a crash; no condition. -/
namespace Go.Proofs.YtjehjbkcdpidbaaGreat
namespace Rd
open Go.RowKit Sc Bk

theorem frs_all (ts : List ByteArray) (n : Nat) : frs ts 0 n = (ts.take n).flatMap fun s => Su.frameL s.data.toList := by
  unfold frs; rw [List.drop_zero]

theorem frs_join (ts : List ByteArray) : ∀ {a b : Nat}, a ≤ b → b ≤ ts.length → frs ts 0 a ++ frs ts a b = frs ts 0 b
  | a, 0, h, _ => by
    obtain rfl : a = 0 := by omega
    rw [frs_same]; rfl
  | a, b + 1, h, hb => by
    rcases Nat.eq_or_lt_of_le h with e | e
    · rw [← e, frs_same, List.append_nil]
    · rw [frs_succ (show a ≤ b by omega) (by omega), frs_succ (Nat.zero_le b) (by omega), ← List.append_assoc, frs_join ts (a := a) (b := b) (by omega) (by omega)]

theorem walk_ok : ∀ (f : Nat) (r : List UInt8) (a : Nat), r.length ≤ f → (Su.walkR f r a).2.2 = 0 → r = (Su.walkR f r a).1.flatMap (fun s => Su.frameL s.data.toList) ∧ ∀ t ∈ (Su.walkR f r a).1, t.size ≤ 4096
  | 0, r, a, h, _ => by
    obtain rfl : r = [] := List.eq_nil_of_length_eq_zero (by omega)
    exact ⟨rfl, fun t ht => by cases ht⟩
  | f + 1, r, a, h, h0 => by
    by_cases hr : r = []
    · subst hr
      rw [Su.walkR_nil]
      exact ⟨rfl, fun t ht => by cases ht⟩
    · cases he : Su.restR r with
      | error e =>
        rw [Su.walkR_err hr he] at h0
        have := Su.restR_err he
        have h00 : e = 0 := h0
        omega
      | ok t =>
        obtain ⟨h1, h2, h3⟩ := Su.restR_ok he
        rw [Su.walkR_ok hr he] at h0 ⊢
        have ih := walk_ok f (r.drop (t.length + 6)) (a + t.length + 6) (by rw [List.length_drop]; omega) h0
        refine ⟨?_, fun x hx => ?_⟩
        · rw [List.flatMap_cons, ← ih.1]
          have : (⟨t.toArray⟩ : ByteArray).data.toList = t := by simp
          rw [this, ← h3, List.take_append_drop]
        · rcases List.mem_cons.1 hx with rfl | hx
          · show t.toArray.size ≤ 4096
            rw [List.size_toArray]; exact h1
          · exact ih.2 x hx

theorem all_ok {L : List UInt8} (h : (Su.allR ⟨L.toArray⟩).2.2 = 0) : L = frs (Su.allR ⟨L.toArray⟩).1 0 (Su.allR ⟨L.toArray⟩).1.length ∧ ∀ t ∈ (Su.allR ⟨L.toArray⟩).1, t.size ≤ 4096 := by
  have hd : (⟨L.toArray⟩ : ByteArray).data.toList = L := by simp
  unfold Su.allR at h ⊢
  rw [hd] at h ⊢
  have := walk_ok (⟨L.toArray⟩ : ByteArray).size L 0 (by rw [text_size]; exact Nat.le_refl _) h
  refine ⟨?_, this.2⟩
  rw [frs_all, List.take_length]
  exact this.1

/-- frames are found again -/
theorem all_back {ts : List ByteArray} {n : Nat} (h : ∀ t ∈ ts, t.size ≤ 4096) : (Su.allR ⟨(frs ts 0 n).toArray⟩).1 = ts.take n ∧ (Su.allR ⟨(frs ts 0 n).toArray⟩).2.2 = 0 := by
  have hd : (⟨(frs ts 0 n).toArray⟩ : ByteArray).data.toList = frs ts 0 n := by simp
  have e : frs ts 0 n = Su.framesL ((ts.take n).map fun s => s.data.toList) := by
    rw [frs_all]
    unfold Su.framesL
    rw [List.flatMap_map]
  unfold Su.allR
  rw [hd, e, Su.walkR_frames _ _ _ (fun t ht => by
    obtain ⟨s, hs, rfl⟩ := List.mem_map.1 ht
    have := h s (List.mem_of_mem_take hs)
    rw [Array.length_toList]; exact this) (by rw [text_size]; exact Nat.le_refl _)]
  refine ⟨?_, rfl⟩
  rw [List.map_map]
  conv => rhs; rw [← List.map_id (ts.take n)]
  exact List.map_congr_left fun s _ => by
    cases s
    simp

theorem room_small {D : Dev} (hok : DevOk D) : areaN D ≤ 65536 := by have := hok.max; unfold areaN; omega

theorem many_small {D : Dev} (hok : DevOk D) {ts : List ByteArray} {mn : Nat} {bs wt : List UInt8} (hm : mn ≤ ts.length) (hb : bs = frs ts 0 mn) (hw : wt = frs ts mn ts.length) (hr : bs.length + wt.length ≤ areaN D) : ts.length ≤ 1000000 := by
  have h1 := frames_ge ts 0 mn (Nat.zero_le _) hm
  have h2 := frames_ge ts mn ts.length hm (Nat.le_refl _)
  have h3 := room_small hok
  rw [← hb] at h1
  rw [← hw] at h2
  omega

section
variable {D : Dev} {l : Lg}

/-- two devices of which the same is seen -/
theorem LgIn.seen {D' : Dev} (h : LgIn D l) (hlen : D'.on.length = D.on.length) (hv : ∀ j, j < D.on.length → flushF D' j = flushF D j) : LgIn D' l := by
  have hN := areaN_on hlen
  have hA := areaAt_on hlen l.ar
  have h4 := h.ok.dev
  have hs : ∀ i, i ≤ 2 → hdsP D' i = hdsP D i := by
    intro i
    induction i with
    | zero => intro _; rfl
    | succ i ih =>
      intro hi
      show (if okH (areaN D') _ ∧ _ then _ else _) = (if okH (areaN D) _ ∧ _ then _ else _)
      rw [hN, hv i (by omega), ih (by omega)]
  refine ⟨⟨by omega, h.ok.ar, h.ok.mn, by rw [hN]; exact h.ok.room, h.ok.many⟩, h.c1, h.cnt, h.bs, h.small, ?_, fun hc => ?_⟩
  · have hst := h.st
    unfold storedL at hst ⊢
    rw [cat_congr (D := D) (b := l.ar) (fun k hk => ?_)]
    · exact hst
    · have hd : areaN D / 64 * 64 = areaN D := by unfold areaN; omega
      have hrm := h.ok.room
      rw [hA]
      exact hv _ (area_fit h4 h.ok.ar (by omega))
  · rw [hs 2 (Nat.le_refl _)]; exact h.hd hc

theorem fuse_seen (D : Dev) (n : Int) : ∀ j, flushF (fuD D n).1 j = flushF D j := fun j => by
  unfold fuD
  split
  · rfl
  split
  · rfl
  · rfl

theorem app_in (hok : DevOk D) (h : LgIn D l) (t : ByteArray) : LgIn D (appendP D l t).1 := by
  unfold appendP
  split
  · exact h
  split
  · exact h
  next h1 h2 =>
    have hw := wait_snoc (l := l) h.ok.mn t
    have hfl : (Su.frameL t.data.toList).length = t.size + 6 := by rw [Su.frameL_len]; rfl
    have hroom : l.bs.length + (waitL ⟨l.cnt, l.ar, l.bs, l.ts ++ [t], l.mn⟩).length ≤ areaN D := by
      rw [hw, List.length_append, hfl]
      unfold roomN at h2
      omega
    have hbs : l.bs = frs (l.ts ++ [t]) 0 l.mn := by
      rw [h.bs, frs_all, frs_all, List.take_append_of_le_length h.ok.mn]
    have hmn : l.mn ≤ (l.ts ++ [t]).length := by rw [List.length_append]; have := h.ok.mn; omega
    refine ⟨⟨h.ok.dev, h.ok.ar, hmn, hroom, many_small hok hmn hbs rfl hroom⟩, h.c1, h.cnt, hbs, fun x hx => ?_, h.st, h.hd⟩
    rcases List.mem_append.1 hx with hx | hx
    · exact h.small x hx
    · rw [List.mem_singleton] at hx; subst hx; omega

/-- behind a settling the new log is told -/
theorem settle_in (hok : DevOk D) (h : LgIn D l) (hu : D.down = false) {a mn : Nat} {old more : List UInt8} {ts : List ByteArray} (ha : a ≤ 1) (hz : (old ++ more).length ≤ areaN D) (hst : storedL D a old.length = old) (hc : l.cnt < 4611686018427388000)
    (hbs : old ++ more = frs ts 0 mn) (hmn : mn = ts.length) (hsm : ∀ t ∈ ts, t.size ≤ 4096) :
    ((settleP D l.cnt a old more).2 = 0 ∧ (settleP D l.cnt a old more).1.down = false ∧ Sc.Clean (settleP D l.cnt a old more).1 ∧ LgIn (settleP D l.cnt a old more).1 ⟨l.cnt + 1, a, old ++ more, ts, mn⟩) ∨ ((settleP D l.cnt a old more).2 = 90 ∧ (settleP D l.cnt a old more).1.down = true) := by
  have h4 := h.ok.dev
  have hab := room_small hok
  rcases settle_view hok hu h4 l.cnt a old more ha hz with ⟨p1, p2, p3, p4⟩ | p
  case inr => exact .inr p
  left
  have hlen := settle_len D l.cnt a old more
  have hok' : DevOk (settleP D l.cnt a old more).1 := by
    unfold settleP
    have : ∀ {r : Dev × Int} {f : Dev → Dev × Int}, DevOk r.1 → (∀ E, DevOk E → DevOk (f E).1) → DevOk (andD r f).1 := fun hr hf => by
      unfold andD
      split
      · exact hf _ hr
      · exact hr
    refine this (wrs_ok _ _ _ _ _ hok) fun D1 h1 => this ?_ fun D2 h2 => this (wrD_ok h2 _ _) fun D3 h3 => flD_ok h3
    split
    · exact h1
    · exact flD_ok h1
  generalize (settleP D l.cnt a old more).1 = D' at p2 p3 p4 hlen hok' ⊢
  have hN := areaN_on hlen
  have hq : (l.cnt + 1) % 2 < 2 := Nat.mod_lt _ (by omega)
  have hz2 : (old ++ more).length ≤ areaN D' := by rw [hN]; exact hz
  have hw0 : waitL ⟨l.cnt + 1, a, old ++ more, ts, mn⟩ = [] := by unfold waitL; rw [hmn]; exact frs_same _ _
  have hroom : (old ++ more).length + (waitL ⟨l.cnt + 1, a, old ++ more, ts, mn⟩).length ≤ areaN D' := by rw [hw0]; simpa using hz2
  refine ⟨p1, p2, p3, ⟨⟨by omega, ha, by rw [hmn]; exact Nat.le_refl _, hroom, many_small hok' (by rw [hmn]; exact Nat.le_refl _) hbs rfl hroom⟩, by show 1 ≤ l.cnt + 1; omega, by show l.cnt + 1 ≤ _; omega, hbs, hsm, ?_, fun hc2 => ?_⟩⟩
  · exact settle_stored hok hok' h4 hlen ha hq hz hst p4
  · have hd := h.hd (by show l.cnt ≤ 4611686018427387904; have : l.cnt + 1 ≤ 4611686018427387904 := hc2; omega)
    refine hds_new (c := l.cnt + 1) hq (by rw [hN]; exact Nat.lt_of_le_of_lt hab (by decide)) (by omega) hc2 ha hz2 (by rw [p4 _ (by omega), if_pos rfl]) fun j hj hjq ho => ?_
    have hA2 : 2 ≤ areaAt D a := by unfold areaAt; omega
    rw [p4 j (by omega), if_neg hjq, if_neg (by omega)] at ho ⊢
    rw [hN] at ho
    have := hds_max hd j hj ho
    show _ < l.cnt + 1
    have e : (l.cnt, l.ar, l.bs.length).1 = l.cnt := rfl
    omega

theorem sync_in (hok : DevOk D) (h : LgIn D l) (hu : D.down = false) (hc : l.cnt < 4611686018427388000) :
    ((syncP D l).2.2 = 0 ∧ (syncP D l).1.down = false ∧ LgIn (syncP D l).1 (syncP D l).2.1 ∧ (syncP D l).2.1.cnt ≤ l.cnt + 1) ∨ ((syncP D l).2.2 = 90 ∧ (syncP D l).1.down = true) := by
  unfold syncP
  split
  · exact .inl ⟨rfl, hu, h, Nat.le_succ _⟩
  next hm =>
    have hj : l.bs ++ waitL l = frs l.ts 0 l.ts.length := by rw [h.bs]; exact frs_join l.ts h.ok.mn (Nat.le_refl _)
    rcases settle_in hok h hu h.ok.ar (by rw [List.length_append]; exact h.ok.room) h.st hc hj rfl h.small with ⟨p1, p2, _, p4⟩ | ⟨p1, p2⟩
    · left
      rw [if_pos p1]
      exact ⟨rfl, p2, p4, Nat.le_refl _⟩
    · right
      rw [if_neg (by rw [p1]; decide)]
      exact ⟨p1, p2⟩

theorem rst_in (hok : DevOk D) (h : LgIn D l) (hu : D.down = false) (hc : l.cnt < 4611686018427388000) (ts : List ByteArray) :
    ((restartP D l ts).1.down = false ∧ LgIn (restartP D l ts).1 (restartP D l ts).2.1 ∧ (restartP D l ts).2.1.cnt ≤ l.cnt + 1) ∨ ((restartP D l ts).2.2 = 90 ∧ (restartP D l ts).1.down = true) := by
  unfold restartP
  split
  · exact .inl ⟨hu, h, Nat.le_succ _⟩
  next hsm =>
  split
  · exact .inl ⟨hu, h, Nat.le_succ _⟩
  next hz =>
    have hsm' : ∀ t ∈ ts, t.size ≤ 4096 := fun t ht => Nat.le_of_not_lt fun hlt => hsm ⟨t, ht, hlt⟩
    have har := h.ok.ar
    rcases settle_in hok h hu (a := 1 - l.ar) (old := []) (more := allF ts) (ts := ts) (mn := ts.length) (by omega) (by rw [List.nil_append]; omega) (by unfold storedL; simp) hc rfl rfl hsm' with ⟨p1, p2, _, p4⟩ | ⟨p1, p2⟩
    · left
      rw [if_pos p1]
      exact ⟨p2, p4, Nat.le_refl _⟩
    · right
      rw [if_neg (by rw [p1]; decide)]
      exact ⟨p1, p2⟩

end

end Rd
end Go.Proofs.YtjehjbkcdpidbaaGreat

/- What a log is when it is opened: on any device, behind a crash, on a new one; no condition. -/
namespace Go.Proofs.YtjehjbkcdpidbaaGreat
namespace Rd
open Go.RowKit Sc Bk

section
variable {D : Dev} {l : Lg}

/-- the first opening of a device without heads -/
theorem first_in (hok : DevOk D) (hu : D.down = false) (h4 : 4 ≤ D.on.length) (hn : hdsP D 2 = none) :
    ((andD (wrD D 1 (headB 1 0 0)) flD).2 = 0 ∧ (andD (wrD D 1 (headB 1 0 0)) flD).1.down = false ∧ Sc.Clean (andD (wrD D 1 (headB 1 0 0)) flD).1 ∧ LgIn (andD (wrD D 1 (headB 1 0 0)) flD).1 ⟨1, 0, [], [], 0⟩) ∨
    ((andD (wrD D 1 (headB 1 0 0)) flD).2 = 90 ∧ (andD (wrD D 1 (headB 1 0 0)) flD).1.down = true) := by
  have hw := wr_view hok hu (k := 1) (by omega) (headB_size 1 0 0)
  have hc1 : ((1 : Nat) : Int) = 1 := rfl
  rw [hc1] at hw
  have hl1 : (wrD D 1 (headB 1 0 0)).1.on.length = D.on.length := by rw [wrD_on]
  have ho1 := wrD_ok hok 1 (headB 1 0 0)
  unfold andD
  rcases hw with ⟨p1, p2, p3⟩ | ⟨p1, p2⟩
  case inr =>
    right
    rw [if_neg (by rw [p1]; decide)]
    exact ⟨p1, p2⟩
  rw [if_pos p1]
  generalize (wrD D 1 (headB 1 0 0)).1 = D1 at p2 p3 hl1 ho1
  have hl2 := (flD_len D1).trans hl1
  have ho2 := flD_ok ho1
  rcases fl_view ho1 p2 with ⟨q1, q2, q3, q4⟩ | q
  case inr => exact .inr q
  left
  generalize (flD D1).1 = D2 at q2 q3 q4 hl2 ho2 ⊢
  have hN := areaN_on hl2
  have hab := room_small hok
  have hv : ∀ j, j < D.on.length → flushF D2 j = if j = 1 then headB 1 0 0 else flushF D j := fun j hj => by rw [q4 j (by omega), p3 j]
  refine ⟨q1, q2, q3, ⟨⟨by omega, Nat.zero_le _, Nat.zero_le _, ?_, Nat.zero_le _⟩, Nat.le_refl _, by show 1 ≤ _; omega, rfl, (fun t ht => by cases ht), (by unfold storedL; simp), fun _ => ?_⟩⟩
  · show 0 + (waitL ⟨1, 0, [], [], 0⟩).length ≤ _
    have : waitL ⟨1, 0, [], [], 0⟩ = [] := frs_same _ _
    rw [this]
    simp
  · refine hds_new (q := 1) (c := 1) (by omega) (by rw [hN]; exact Nat.lt_of_le_of_lt hab (by decide)) (by omega) (by omega) (Nat.zero_le 1) (Nat.zero_le _) (by rw [hv 1 (by omega), if_pos rfl]; rfl) fun j hj hjq ho => ?_
    rw [hv j (by omega), if_neg hjq, hN] at ho
    exact absurd ho (hds_none hn j hj)

/-- what a log is that is opened -/
theorem open_in (hok : DevOk D) (h : (openP D).2.1 = some l) : LgIn (openP D).1 l ∧ l.cnt ≤ 4611686018427387904 ∧ (openP D).1.down = false ∧ (openP D).2.2 = 0 := by
  unfold openP at h ⊢
  by_cases h4 : D.on.length < 4
  · rw [if_pos h4] at h; cases h
  rw [if_neg h4] at h ⊢
  by_cases hd : D.down = true
  · rw [if_pos hd] at h; cases h
  rw [if_neg hd] at h ⊢
  have hu : D.down = false := by simpa using hd
  cases hh : hdsP D 2 with
  | none =>
    rw [hh] at h
    simp only at h ⊢
    rcases first_in hok hu (by omega) hh with ⟨p1, p2, _, p4⟩ | ⟨p1, p2⟩
    · rw [if_pos p1] at h ⊢
      cases h
      exact ⟨p4, by show 1 ≤ _; omega, p2, rfl⟩
    · rw [if_neg (by rw [p1]; decide)] at h
      cases h
  | some x =>
    obtain ⟨c, a, n⟩ := x
    rw [hh] at h
    simp only at h ⊢
    obtain ⟨q1, q2, q3, q4⟩ := hds_ok hh
    simp only at q1 q2 q3 q4
    by_cases he : (Su.allR ⟨(storedL D a n).toArray⟩).2.2 = 0
    · rw [if_pos he] at h ⊢
      cases h
      have hlen := stored_len hok (by omega) q3 q4
      obtain ⟨r1, r2⟩ := all_ok he
      have hw0 : waitL ⟨c, a, storedL D a n, (Su.allR ⟨(storedL D a n).toArray⟩).1, (Su.allR ⟨(storedL D a n).toArray⟩).1.length⟩ = [] := frs_same _ _
      have hroom : (storedL D a n).length + (waitL ⟨c, a, storedL D a n, (Su.allR ⟨(storedL D a n).toArray⟩).1, (Su.allR ⟨(storedL D a n).toArray⟩).1.length⟩).length ≤ areaN D := by rw [hw0, hlen]; simpa using q4
      refine ⟨⟨⟨by show 4 ≤ D.on.length; omega, q3, Nat.le_refl _, hroom, many_small hok (Nat.le_refl _) r1 rfl hroom⟩, q1, by show c ≤ _; omega, r1, r2, ?_, fun _ => ?_⟩, q2, hu, rfl⟩
      · show storedL D a (storedL D a n).length = storedL D a n
        rw [hlen]
      · show hdsP D 2 = some (c, a, (storedL D a n).length)
        rw [hh, hlen]
    · rw [if_neg he] at h; cases h

theorem open_no (h : (openP D).2.1 = none) : (openP D).2.2 ≠ 0 := by
  unfold openP at h ⊢
  by_cases h4 : D.on.length < 4
  · rw [if_pos h4]
    show (4 : Int) ≠ 0
    decide
  rw [if_neg h4] at h ⊢
  by_cases hd : D.down = true
  · rw [if_pos hd]
    show (90 : Int) ≠ 0
    decide
  rw [if_neg hd] at h ⊢
  cases hh : hdsP D 2 with
  | none =>
    rw [hh] at h
    simp only at h ⊢
    by_cases he : (andD (wrD D 1 (headB 1 0 0)) flD).2 = 0
    · rw [if_pos he] at h; cases h
    · rw [if_neg he]; exact he
  | some x =>
    obtain ⟨c, a, n⟩ := x
    rw [hh] at h
    simp only at h ⊢
    by_cases he : (Su.allR ⟨(storedL D a n).toArray⟩).2.2 = 0
    · rw [if_pos he] at h; cases h
    · rw [if_neg he]
      show (101 : Int) ≠ 0
      decide

/-- a device that tells of a log is opened as that, but for what waited -/
theorem reopen (h : LgIn D l) (hu : D.down = false) (hc : l.cnt ≤ 4611686018427387904) : openP D = (D, some ⟨l.cnt, l.ar, l.bs, l.ts.take l.mn, l.mn⟩, 0) := by
  have h4 := h.ok.dev
  have hb := all_back (n := l.mn) h.small
  rw [← h.bs] at hb
  unfold openP
  rw [if_neg (by omega), if_neg (by rw [hu]; simp), h.hd hc]
  simp only
  rw [h.st, if_pos hb.2, hb.1, List.length_take, Nat.min_eq_left h.ok.mn]

/-- .. behind a crash, too -/
theorem reopen_crash (hok : DevOk D) (h : LgIn D l) (hcl : Sc.Clean D) (hc : l.cnt ≤ 4611686018427387904) (ps : List Int) : openP (crD D ps) = (crD D ps, some ⟨l.cnt, l.ar, l.bs, l.ts.take l.mn, l.mn⟩, 0) :=
  reopen (h.seen (cr_len D ps) fun _ hj => cr_view hok.len hcl ps hj) rfl hc

/-- a device of bytes 0 tells of no head -/
theorem zero_head : ∀ ab, ¬ okH ab zero64.data.toList := fun ab h => by
  have : cOf zero64.data.toList = 0 := by decide
  have h1 := h.1
  omega

theorem new_view {n j : Nat} (h : j < n) : flushF (new0 n) j = zero64 := by
  unfold flushF new0
  simp only [List.getD_eq_getElem?_getD, List.getElem?_replicate, if_pos h, Option.getD_some, if_true]

theorem new_heads {n : Nat} (h : 4 ≤ n) : hdsP (new0 n) 2 = none := by
  have hs : ∀ i, i ≤ 2 → hdsP (new0 n) i = none := by
    intro i
    induction i with
    | zero => intro _; rfl
    | succ i ih =>
      intro hi
      show (if okH _ _ ∧ _ then _ else _) = _
      rw [if_neg, ih (by omega)]
      rintro ⟨g, _⟩
      rw [new_view (by omega)] at g
      exact zero_head _ g
  exact hs 2 (Nat.le_refl _)

end

end Rd
end Go.Proofs.YtjehjbkcdpidbaaGreat

/- A log on a device without a fuse; one side of a law that a call has made; no condition. -/
namespace Go.Proofs.YtjehjbkcdpidbaaGreat
namespace Rd
open Go.RowKit Sc Bk

section
variable {D : Dev} {l : Lg}

theorem wrD_idle {D : Dev} (h : Idle D) (_hok : DevOk D) {k : Nat} (hk : k < D.on.length) {t : ByteArray} (ht : t.size = 64) : (wrD D (k : Int) t).2 = 0 ∧ Idle (wrD D (k : Int) t).1 := by
  rw [wr_idle h hk ht]
  exact ⟨rfl, rfl, rfl⟩

theorem flD_idle {D : Dev} (h : Idle D) : (flD D).2 = 0 ∧ Idle (flD D).1 := by
  rw [fl_idle h]
  exact ⟨rfl, rfl, rfl⟩

theorem wrs_idle {base : Nat} {all : List UInt8} : ∀ {n i : Nat} {D : Dev}, Idle D → DevOk D → base + i + n ≤ D.on.length → (wrs base all i n D).2 = 0 ∧ Idle (wrs base all i n D).1
  | 0, _, _, h, _, _ => ⟨rfl, h⟩
  | n + 1, i, D, h, hok, hl => by
    have hw := wrD_idle h hok (k := base + i) (by omega) (blkB_size all i)
    have e : wrs base all i (n + 1) D = if (wrD D ((base + i : Nat) : Int) (blkB all i)).2 = 0 then wrs base all (i + 1) n (wrD D ((base + i : Nat) : Int) (blkB all i)).1 else wrD D ((base + i : Nat) : Int) (blkB all i) := rfl
    rw [e, if_pos hw.1]
    exact wrs_idle hw.2 (wrD_ok hok _ _) (by rw [wrD_on]; omega)

theorem and_idle {r : Dev × Int} {f : Dev → Dev × Int} (h : r.2 = 0 ∧ Idle r.1) (hf : ∀ D, D = r.1 → Idle D → (f D).2 = 0 ∧ Idle (f D).1) : (andD r f).2 = 0 ∧ Idle (andD r f).1 := by
  unfold andD
  rw [if_pos h.1]
  exact hf _ rfl h.2

theorem settle_idle (hi : Idle D) (hok : DevOk D) (h4 : 4 ≤ D.on.length) (cnt a : Nat) (old more : List UInt8) (ha : a ≤ 1) (hz : (old ++ more).length ≤ areaN D) : (settleP D cnt a old more).2 = 0 ∧ Idle (settleP D cnt a old more).1 := by
  have hml := many_le hz
  have hfit : areaAt D a + areaN D / 64 ≤ D.on.length := by
    unfold areaAt areaN
    rw [Nat.mul_div_cancel _ (by omega)]
    have : a = 0 ∨ a = 1 := by omega
    rcases this with rfl | rfl <;> omega
  have hq : (cnt + 1) % 2 < 2 := Nat.mod_lt _ (by omega)
  unfold settleP
  refine and_idle (wrs_idle hi hok (by omega)) fun D1 e1 i1 => and_idle ?_ fun D2 e2 i2 => and_idle ?_ fun D3 _ i3 => flD_idle i3
  · split
    · exact ⟨rfl, i1⟩
    · exact flD_idle i1
  · have hl1 : D1.on.length = D.on.length := by rw [e1]; exact wrs_len _ _ _ _ _
    have ho1 : DevOk D1 := by rw [e1]; exact wrs_ok _ _ _ _ _ hok
    have hl2 : D2.on.length = D.on.length := by
      rw [e2]
      split
      · exact hl1
      · rw [flD_len]; exact hl1
    have ho2 : DevOk D2 := by
      rw [e2]
      split
      · exact ho1
      · exact flD_ok ho1
    exact wrD_idle i2 ho2 (by omega) (headB_size _ _ _)

/-- a Sync where nothing is in its way -/
theorem sync_idle (hi : Idle D) (hok : DevOk D) (h : LgIn D l) (hc : l.cnt < 4611686018427388000) (hm : l.mn ≠ l.ts.length) :
    ∃ D2, syncP D l = (D2, ⟨l.cnt + 1, l.ar, l.bs ++ waitL l, l.ts, l.ts.length⟩, 0) ∧ Idle D2 ∧ Sc.Clean D2 ∧ DevOk D2 ∧ D2.on.length = D.on.length ∧ LgIn D2 ⟨l.cnt + 1, l.ar, l.bs ++ waitL l, l.ts, l.ts.length⟩ := by
  have hz : (l.bs ++ waitL l).length ≤ areaN D := by rw [List.length_append]; exact h.ok.room
  obtain ⟨p1, p2⟩ := settle_idle hi hok h.ok.dev l.cnt l.ar l.bs (waitL l) h.ok.ar hz
  have hj : l.bs ++ waitL l = frs l.ts 0 l.ts.length := by rw [h.bs]; exact frs_join l.ts h.ok.mn (Nat.le_refl _)
  rcases settle_in hok h hi.2 h.ok.ar hz h.st hc hj rfl h.small with ⟨q1, q2, q3, q4⟩ | ⟨q1, _⟩
  case inr => rw [p1] at q1; cases q1
  refine ⟨_, ?_, p2, q3, settle_ok hok _ _ _ _, settle_len _ _ _ _ _, q4⟩
  unfold syncP
  rw [if_neg hm, if_pos p1]
where
  settle_ok {D : Dev} (hok : DevOk D) (cnt a : Nat) (old more : List UInt8) : DevOk (settleP D cnt a old more).1 := by
    have : ∀ {r : Dev × Int} {f : Dev → Dev × Int}, DevOk r.1 → (∀ E, DevOk E → DevOk (f E).1) → DevOk (andD r f).1 := fun hr hf => by
      unfold andD
      split
      · exact hf _ hr
      · exact hr
    unfold settleP
    refine this (wrs_ok _ _ _ _ _ hok) fun D1 h1 => this ?_ fun D2 h2 => this (wrD_ok h2 _ _) fun D3 h3 => flD_ok h3
    split
    · exact h1
    · exact flD_ok h1

/-- a Restart where nothing is in its way -/
theorem rst_idle (hi : Idle D) (hok : DevOk D) (h : LgIn D l) (hc : l.cnt < 4611686018427388000) (ts : List ByteArray) (hs : ∀ t ∈ ts, t.size ≤ 4096) (hz : (allF ts).length ≤ areaN D) :
    ∃ D2, restartP D l ts = (D2, ⟨l.cnt + 1, 1 - l.ar, allF ts, ts, ts.length⟩, 0) ∧ Idle D2 ∧ Sc.Clean D2 ∧ DevOk D2 ∧ D2.on.length = D.on.length ∧ LgIn D2 ⟨l.cnt + 1, 1 - l.ar, allF ts, ts, ts.length⟩ := by
  have har := h.ok.ar
  have hz' : ([] ++ allF ts).length ≤ areaN D := by rw [List.nil_append]; exact hz
  obtain ⟨p1, p2⟩ := settle_idle hi hok h.ok.dev l.cnt (1 - l.ar) [] (allF ts) (by omega) hz'
  rcases settle_in hok h hi.2 (a := 1 - l.ar) (old := []) (more := allF ts) (ts := ts) (mn := ts.length) (by omega) hz' (by unfold storedL; simp) hc rfl rfl hs with ⟨q1, q2, q3, q4⟩ | ⟨q1, _⟩
  case inr => rw [p1] at q1; cases q1
  refine ⟨_, ?_, p2, q3, sync_idle.settle_ok hok _ _ _ _, settle_len _ _ _ _ _, q4⟩
  unfold restartP
  rw [if_neg (by rintro ⟨t, h1, h2⟩; have := hs t h1; omega), if_neg (by omega), if_pos p1]

theorem app_fits {t : ByteArray} (h1 : t.size ≤ 4096) (h2 : t.size + 6 ≤ roomN D l) : appendP D l t = (⟨l.cnt, l.ar, l.bs, l.ts ++ [t], l.mn⟩, 0) := by
  unfold appendP
  rw [if_neg (by omega), if_neg (by omega)]

/-- a new device is opened -/
theorem fresh_open {n : Nat} (h4 : 4 ≤ n) (hm : n ≤ 2048) : ∃ D1, openP (new0 n) = (D1, some ⟨1, 0, [], [], 0⟩, 0) ∧ Idle D1 ∧ Sc.Clean D1 ∧ DevOk D1 ∧ D1.on.length = n ∧ LgIn D1 ⟨1, 0, [], [], 0⟩ := by
  have hok := new0_ok (show 1 ≤ n by omega) hm
  have hl : (new0 n).on.length = n := by simp [new0]
  have hid := new0_idle n
  have hh := new_heads h4
  have hi : (andD (wrD (new0 n) 1 (headB 1 0 0)) flD).2 = 0 ∧ Idle (andD (wrD (new0 n) 1 (headB 1 0 0)) flD).1 :=
    and_idle (wrD_idle (k := 1) hid hok (by omega) (headB_size _ _ _)) fun D1 _ i1 => flD_idle i1
  rcases first_in hok hid.2 (by omega) hh with ⟨p1, p2, p3, p4⟩ | ⟨p1, _⟩
  case inr => rw [hi.1] at p1; cases p1
  refine ⟨_, ?_, hi.2, p3, ?_, ?_, p4⟩
  · unfold openP
    rw [if_neg (by omega), if_neg (by rw [hid.2]; simp), hh]
    simp only
    rw [if_pos p1]
  · unfold andD
    split
    · exact flD_ok (wrD_ok hok _ _)
    · exact wrD_ok hok _ _
  · refine (and_len (n := n) ?_ fun D h => ?_)
    · rw [wrD_on]; exact hl
    · rw [flD_len]; exact h

end

end Rd
end Go.Proofs.YtjehjbkcdpidbaaGreat

/- All that is asked of the landed package of a log; one side of a law that a call has made; no condition but the ranges. -/
namespace Go.Proofs.YtjehjbkcdpidbaaGreat
namespace Rd
open Go.RowKit Sc Bk

/-- what is asked of the landed package -/
structure LogAll (Rep : RepT) (LRep : LRepT) : Prop where
  log : LogF 12 14 15 26 36 Rep LRep
  texts : ∀ {F L g p D l} (w : World), Rep w F g D → LRep w L p g D.on.length l → (∀ k, L k → ¬ F k) → LgIn D l → D.down = false →
    Calls Tryz.prog 19 #[.pointer (some ⟨p, 0, none⟩)] w fun e w' => ∃ (v : Value) (F' L' : Nat → Prop), e = .returned v ∧ w'.ownsRow w.heap.size 9 1 v l.ts.length (strV l.ts) ∧ (∀ b, v.ownBlock = some b → ¬ F' b ∧ ¬ L' b) ∧
      Rep w' F' g D ∧ LRep w' L' p g D.on.length l ∧ (∀ k, L' k → ¬ F' k) ∧ Fr (fun k => F k ∨ L k) (fun k => F' k ∨ L' k) w w'
  synced : ∀ {F L g p D l} (w : World), Rep w F g D → LRep w L p g D.on.length l → (∀ k, L k → ¬ F k) → LgIn D l → D.down = false →
    Calls Tryz.prog 24 #[.pointer (some ⟨p, 0, none⟩)] w fun e w' => e = .returned (.int .i64 (l.mn : Int)) ∧ ∃ F' L', Rep w' F' g D ∧ LRep w' L' p g D.on.length l ∧ (∀ k, L' k → ¬ F' k) ∧ Fr (fun k => F k ∨ L k) (fun k => F' k ∨ L' k) w w'

theorem devF_of {Rep : RepT} (H : DevBase Rep) : DevF 29 71 72 69 17 Rep :=
  ⟨H.lt, H.ok, H.kept, H.read, H.write, H.flush, H.fuse, H.crash⟩

section
variable {f1 f2 f3 f4 f5 f6 f7 f8 f9 f10 : FuncId} {Rep : RepT} {LRep : LRepT} {w0 W W' : World} {F F' : Nat → Prop} {g p : Nat} {D D' : Dev} {l : Lg} {o o' : Option (Nat × Lg)}

theorem Side.texts (HL : LogAll Rep LRep) (h : Side Rep LRep W F g D (some (p, l))) (hi : LgIn D l) (hu : D.down = false) :
    Calls Tryz.prog 19 #[.pointer (some ⟨p, 0, none⟩)] W fun e w' => ∃ (v : Value) (F' : Nat → Prop), e = .returned v ∧ w'.ownsRow W.heap.size 9 1 v l.ts.length (strV l.ts) ∧ (∀ b, v.ownBlock = some b → ¬ F' b) ∧ Side Rep LRep w' F' g D (some (p, l)) ∧ Fr F F' W w' := by
  obtain ⟨Fd, Fl, rfl, h1, h2, h3⟩ := h
  refine (HL.texts W h1 h2 h3 hi hu).mono ?_
  rintro e w' ⟨v, F', L', rfl, q0, q00, q1, q2, q3, q4⟩
  exact ⟨v, _, rfl, q0, fun b hb hk => hk.elim (q00 b hb).1 (q00 b hb).2, ⟨F', L', rfl, q1, q2, q3⟩, q4⟩

theorem Side.synced (HL : LogAll Rep LRep) (h : Side Rep LRep W F g D (some (p, l))) (hi : LgIn D l) (hu : D.down = false) :
    Calls Tryz.prog 24 #[.pointer (some ⟨p, 0, none⟩)] W fun e w' => e = .returned (.int .i64 (l.mn : Int)) ∧ ∃ F' : Nat → Prop, Side Rep LRep w' F' g D (some (p, l)) ∧ Fr F F' W w' := by
  obtain ⟨Fd, Fl, rfl, h1, h2, h3⟩ := h
  refine (HL.synced W h1 h2 h3 hi hu).mono ?_
  rintro e w' ⟨rfl, F', L', q1, q2, q3, q4⟩
  exact ⟨rfl, _, ⟨F', L', rfl, q1, q2, q3⟩, q4⟩

/-- one side that a call has made, and old memory -/
structure OneS (Rep : RepT) (LRep : LRepT) (w0 W : World) (F : Nat → Prop) (g : Nat) (D : Dev) (o : Option (Nat × Lg)) : Prop where
  s : Side Rep LRep W F g D o
  bF : ∀ k, F k → w0.heap.size ≤ k
  bel : Below w0.heap.size w0 W

theorem OneS.act (h : OneS Rep LRep w0 W F g D o) (h1 : Side Rep LRep W' F' g D' o') (h2 : Fr F F' W W') : OneS Rep LRep w0 W' F' g D' o' :=
  ⟨h1, fun k hk => (h2.foot k hk).elim (h.bF k) (fun hs => Nat.le_trans h.bel.size hs), h.bel.trans (h2.belowB h.bF h.bel.size)⟩

theorem OneS.step (HD : DevF f1 f2 f3 f4 f5 Rep) (HL : LogF f6 f7 f8 f9 f10 Rep LRep) (h : OneS Rep LRep w0 W F g D o) (hb : Below W.heap.size W W') : OneS Rep LRep w0 W' F g D o :=
  ⟨h.s.kept HD HL (fun k hk => hb.block k (h.s.lt HD HL k hk)), h.bF, h.bel.trans (hb.mono h.bel.size)⟩

theorem op_some {o : Option (Nat × Lg)} {l : Lg} (h : o.map (·.2) = some l) : ∃ p, o = some (p, l) := by
  cases o with
  | none => cases h
  | some x => obtain ⟨p, l'⟩ := x; simp only [Option.map_some, Option.some.injEq] at h; exact ⟨p, by rw [h]⟩

theorem op_none {o : Option (Nat × Lg)} (h : o.map (·.2) = none) : o = none := by
  cases o with
  | none => rfl
  | some x => cases h

/-- an old slice's texts stay -/
theorem strs_fr {A : Option Addr} {ts : List ByteArray} (h : StrsAt W A ts) (hf : Fr F F' W W') (hn : ∀ x, A = some x → ¬ F x.block) : StrsAt W' A ts := fun hp => by
  obtain ⟨ad, e, hl, hc⟩ := h hp
  refine ⟨ad, e, Nat.lt_of_lt_of_le hl hf.size, fun i hi => ?_⟩
  have hkp := hf.block ad.block hl (hn ad e)
  rw [← st_block ad i] at hkp
  refine Eq.trans ?_ (hc i hi)
  unfold World.cell?
  rw [hkp]

end

end Rd
end Go.Proofs.YtjehjbkcdpidbaaGreat

/- append of a text's bytes onto a row of the call's own, and where the row lies then; no condition but the range. -/
namespace Go.Proofs.YtjehjbkcdpidbaaGreat
namespace Bk
open Go.RowKit Go.Lib

/-- .. the old block, or a new one -/
theorem run_append_string_at {P : Program} (w : World) (base : Nat) (t u ty e : TypeId) (i : TypeInfo) (ht : P.underlying t = some (.slice e)) (hu : P.underlying u = some .string) (hi : P.info? e = some i) (hz : i.zero = some (.int .u8 0))
    (hsize : i.size = 1) (hby : i.bytes = 1) (v : Value) (n : Nat) (xs : List Value) (hown : w.ownsRow base e 1 v n xs) (s : ByteArray) (h63 : n + s.size ≤ maxLen) (hbytes : n + s.size ≤ 140737488355328) (hbase : base ≤ w.heap.size) :
    ∃ v' w', (Builtin.append_ #[t, u] ty #[v, .string s]).run P w = .ok v' w' ∧ w'.ownsRow base e 1 v' (n + s.size) (xs ++ strCells s) ∧ w.grownBy w' v.ownBlock ∧ (v'.ownBlock = v.ownBlock ∨ v'.ownBlock = some w.heap.size) := by
  obtain ⟨v', w', hr, h2, h3, h4⟩ := run_append_own_string (P := P) w base t u ty e i ht hu hi hz hsize hby v n xs hown s h63 hbytes hbase
  refine ⟨v', w', hr, h2, h3, ?_⟩
  have hxl : xs.length = n := by simpa using hown.1
  rcases hown.2 with ⟨rfl, rfl⟩ | ⟨g, cap, cur, rfl, hbg, hg, hnc, hcm, hcs, htake⟩
  · by_cases hm : s.size = 0
    · rw [h4.2 ⟨rfl, hm⟩]
      exact .inl rfl
    · have hr2 := run_append_nil_string (P := P) w t u ty e i (.int .u8 0) ht hu hi hz s (by omega) (by unfold maxLen at h63; omega) (by rw [hby]; omega)
      rw [hr] at hr2
      simp only [Result.ok.injEq] at hr2
      rw [hr2.1]
      exact .inr rfl
  · by_cases hroom : n + s.size ≤ cap
    · have hsz : cur.size = cap := by simpa using hcs
      have hr2 := run_append_room_string (P := P) w t u ty e i ht hu hi hsize g n cap cur hg s hroom (by omega)
      rw [hr] at hr2
      simp only [Result.ok.injEq] at hr2
      rw [hr2.1]
      exact .inl rfl
    · have hr2 := run_append_grow_string (P := P) w t u ty e i (.int .u8 0) ht hu hi hz ⟨g, 0, none⟩ n cap xs (by rw [hsize]; simpa using hxl) (hown.cells (g := g) rfl) s (by omega) (by unfold maxLen at h63; omega) (by rw [hby]; exact growslice_fits (by omega) (by omega))
      rw [hr] at hr2
      simp only [Result.ok.injEq] at hr2
      rw [hr2.1]
      exact .inr rfl

theorem wpList_append_string_at {P : Program} {w : World} {ops : Array Oper} {rest : List Oper} {o : Oper} {a : Act} {Q : Exit → Act → World → Prop} (hgd : o.guard = none) (sl x : Operand) (t u : TypeId)
    (ho : o.op = .call { callee := .builtin .append, args := #[sl, x], argTypes := #[t, u] })
    (base : Nat) (e : TypeId) (i : TypeInfo) (ht : P.underlying t = some (.slice e)) (hu : P.underlying u = some .string) (hi : P.info? e = some i) (hz : i.zero = some (.int .u8 0))
    (hsize : i.size = 1) (hby : i.bytes = 1)
    (v : Value) (n : Nat) (xs : List Value) (hs : a.eval sl = v) (hown : w.ownsRow base e 1 v n xs) (s : ByteArray) (hx : a.eval x = .string s)
    (h63 : n + s.size ≤ maxLen) (hbytes : n + s.size ≤ 140737488355328) (hbase : base ≤ w.heap.size)
    (h : ∀ v' w', w'.ownsRow base e 1 v' (n + s.size) (xs ++ strCells s) → w.grownBy w' v.ownBlock → (v'.ownBlock = v.ownBlock ∨ v'.ownBlock = some w.heap.size) → wpList P ops Q rest (a.put o.dst v') w') : wpList P ops Q (o :: rest) a w := by
  refine wpList_plain hgd fun K hK => ?_
  obtain ⟨v', w', hr, h2, h3, h4⟩ := run_append_string_at (P := P) w base t u o.type e i ht hu hi hz hsize hby v n xs hown s h63 hbytes hbase
  unfold Oper.wp execOp
  simp only [ho, resolve, invoke, builtin, Sem.run_bind, Sem.run_pure, Result.andThen_ok, List.map_toArray, List.map_cons, List.map_nil, hs, hx, hr]
  exact hK _ _ (h v' w' h2 h3 h4)

end Bk
end Go.Proofs.YtjehjbkcdpidbaaGreat

/- The contracts of the library's strings.Builder at this program: WriteByte, WriteString, String, over one table of numbers; a builder as a list of bytes. -/
namespace Go.Proofs.YtjehjbkcdpidbaaGreat
namespace Bk
open Go.RowKit Go.Shelf

def ren : Go.Shelf.Ren := ⟨fun | 240 => 119 | 276 => 133 | 167 => 118 | 166 => 84 | 169 => 85 | n => n, fun | 0 => 0 | 3 => 3 | 4 => 4 | 5 => 5 | 9 => 9 | 20 => 20 | 37 => 82 | 70 => 125 | 72 => 127 | 75 => 134 | 80 => 68 | 127 => 161 | 164 => 176 | n => n, fun n => n⟩

theorem lays240 : Go.Proofs.Lays.n240 Tryz.prog ren := {
  mixed := by kernel_rfl
  f240 := Tryz.func119.trans (congrArg some (by kernel_rfl))
  f276 := Tryz.func133.trans (congrArg some (by kernel_rfl))
  t0 := Tryz.underlying0
  a0 := Tryz.isAgg0
  z0 := Tryz.sizeOf0
  v0 := Tryz.zeroValue0
  t4 := Tryz.underlying4
  a4 := Tryz.isAgg4
  z4 := Tryz.sizeOf4
  v4 := Tryz.zeroValue4
  t9 := Tryz.underlying9
  a9 := Tryz.isAgg9
  z9 := Tryz.sizeOf9
  v9 := Tryz.zeroValue9
  t20 := Tryz.underlying20
  a20 := Tryz.isAgg20
  z20 := Tryz.sizeOf20
  v20 := Tryz.zeroValue20
  t70 := Tryz.underlying125
  a70 := Tryz.isAgg125
  z70 := Tryz.sizeOf125
  v70 := Tryz.zeroValue125
  t72 := Tryz.underlying127
  a72 := Tryz.isAgg127
  z72 := Tryz.sizeOf127
  v72 := Tryz.zeroValue127
  t164 := Tryz.underlying176
  a164 := Tryz.isAgg176
  z164 := Tryz.sizeOf176
  v164 := Tryz.zeroValue176 }

theorem lays167 : Go.Proofs.Lays.n167 Tryz.prog ren := {
  mixed := by kernel_rfl
  f167 := Tryz.func118.trans (congrArg some (by kernel_rfl))
  f240 := Tryz.func119.trans (congrArg some (by kernel_rfl))
  f276 := Tryz.func133.trans (congrArg some (by kernel_rfl))
  t0 := Tryz.underlying0
  a0 := Tryz.isAgg0
  z0 := Tryz.sizeOf0
  v0 := Tryz.zeroValue0
  t4 := Tryz.underlying4
  a4 := Tryz.isAgg4
  z4 := Tryz.sizeOf4
  v4 := Tryz.zeroValue4
  t5 := Tryz.underlying5
  a5 := Tryz.isAgg5
  z5 := Tryz.sizeOf5
  v5 := Tryz.zeroValue5
  t9 := Tryz.underlying9
  a9 := Tryz.isAgg9
  z9 := Tryz.sizeOf9
  v9 := Tryz.zeroValue9
  t20 := Tryz.underlying20
  a20 := Tryz.isAgg20
  z20 := Tryz.sizeOf20
  v20 := Tryz.zeroValue20
  t37 := Tryz.underlying82
  a37 := Tryz.isAgg82
  z37 := Tryz.sizeOf82
  v37 := Tryz.zeroValue82
  t70 := Tryz.underlying125
  a70 := Tryz.isAgg125
  z70 := Tryz.sizeOf125
  v70 := Tryz.zeroValue125
  t72 := Tryz.underlying127
  a72 := Tryz.isAgg127
  z72 := Tryz.sizeOf127
  v72 := Tryz.zeroValue127
  t75 := Tryz.underlying134
  a75 := Tryz.isAgg134
  z75 := Tryz.sizeOf134
  v75 := Tryz.zeroValue134
  t164 := Tryz.underlying176
  a164 := Tryz.isAgg176
  z164 := Tryz.sizeOf176
  v164 := Tryz.zeroValue176 }

theorem lays166 : Go.Proofs.Lays.n166 Tryz.prog ren := {
  mixed := by kernel_rfl
  f166 := Tryz.func84.trans (congrArg some (by kernel_rfl))
  f240 := Tryz.func119.trans (congrArg some (by kernel_rfl))
  f276 := Tryz.func133.trans (congrArg some (by kernel_rfl))
  t0 := Tryz.underlying0
  a0 := Tryz.isAgg0
  z0 := Tryz.sizeOf0
  v0 := Tryz.zeroValue0
  t3 := Tryz.underlying3
  a3 := Tryz.isAgg3
  z3 := Tryz.sizeOf3
  v3 := Tryz.zeroValue3
  t4 := Tryz.underlying4
  a4 := Tryz.isAgg4
  z4 := Tryz.sizeOf4
  v4 := Tryz.zeroValue4
  t9 := Tryz.underlying9
  a9 := Tryz.isAgg9
  z9 := Tryz.sizeOf9
  v9 := Tryz.zeroValue9
  t20 := Tryz.underlying20
  a20 := Tryz.isAgg20
  z20 := Tryz.sizeOf20
  v20 := Tryz.zeroValue20
  t37 := Tryz.underlying82
  a37 := Tryz.isAgg82
  z37 := Tryz.sizeOf82
  v37 := Tryz.zeroValue82
  t70 := Tryz.underlying125
  a70 := Tryz.isAgg125
  z70 := Tryz.sizeOf125
  v70 := Tryz.zeroValue125
  t72 := Tryz.underlying127
  a72 := Tryz.isAgg127
  z72 := Tryz.sizeOf127
  v72 := Tryz.zeroValue127
  t75 := Tryz.underlying134
  a75 := Tryz.isAgg134
  z75 := Tryz.sizeOf134
  v75 := Tryz.zeroValue134
  t164 := Tryz.underlying176
  a164 := Tryz.isAgg176
  z164 := Tryz.sizeOf176
  v164 := Tryz.zeroValue176 }

theorem lays169 : Go.Proofs.Lays.n169 Tryz.prog ren := {
  mixed := by kernel_rfl
  f169 := Tryz.func85.trans (congrArg some (by kernel_rfl))
  t0 := Tryz.underlying0
  a0 := Tryz.isAgg0
  z0 := Tryz.sizeOf0
  v0 := Tryz.zeroValue0
  t3 := Tryz.underlying3
  a3 := Tryz.isAgg3
  z3 := Tryz.sizeOf3
  v3 := Tryz.zeroValue3
  t9 := Tryz.underlying9
  a9 := Tryz.isAgg9
  z9 := Tryz.sizeOf9
  v9 := Tryz.zeroValue9
  t37 := Tryz.underlying82
  a37 := Tryz.isAgg82
  z37 := Tryz.sizeOf82
  v37 := Tryz.zeroValue82
  t70 := Tryz.underlying125
  a70 := Tryz.isAgg125
  z70 := Tryz.sizeOf125
  v70 := Tryz.zeroValue125
  t72 := Tryz.underlying127
  a72 := Tryz.isAgg127
  z72 := Tryz.sizeOf127
  v72 := Tryz.zeroValue127
  t127 := Tryz.underlying161
  a127 := Tryz.isAgg161
  z127 := Tryz.sizeOf161
  v127 := Tryz.zeroValue161 }

theorem bldExtra : Go.Proofs.Builder.Extra Tryz.prog ren := {
  sizeBuilder := by kernel_rfl
  liesBuilder := by kernel_rfl
  t5 := Tryz.underlying5
  a5 := Tryz.isAgg5
  z5 := Tryz.sizeOf5
  v5 := Tryz.zeroValue5
  infoByte := by kernel_rfl
  cellsByte := by kernel_rfl
  sizeByte := by kernel_rfl
  neB5 := by decide }

/-- the block b is a builder that holds these bytes -/
def Bld (b : Nat) (l : List UInt8) (w : World) : Prop := Lib.IsBuilderF 127 5 b b (Lib.byteCells l) w

theorem Bld.lt {b : Nat} {l : List UInt8} {w : World} (h : Bld b l w) : b < w.heap.size := by
  rcases h with h | h
  · exact h.lt
  · exact h.lt

theorem Bld.new (w : World) : Bld w.heap.size [] (w.alloc (.cells #[.pointer none, .slice none 0 0] 127)) := Lib.IsBuilderF.of (Lib.fresh_isBuilder _ _ w)

theorem bld_byte {b : Nat} {l : List UInt8} {w : World} (c : Nat) (h : Bld b l w) (hc : c < 256) (hl : l.length + 1 ≤ 140737488355328) :
    Calls Tryz.prog 118 #[.pointer (some ⟨b, 0, none⟩), .int .u8 (c : Int)] w fun e w' => e = .returned .nilIface ∧ Bld b (l ++ [UInt8.ofNat c]) w' ∧ Below b w w' := by
  refine (Any.Builder_WriteByte_k lays167 bldExtra b b (Lib.byteCells l) (c : Int) w h (by rw [Lib.byteCells_length]; exact hl) (Nat.le_of_lt h.lt)).mono ?_
  rintro e w' ⟨rfl, h1, h2, _⟩
  refine ⟨rfl, .inr ?_, h2⟩
  have e1 : Lib.byteCells l ++ [.int .u8 (c : Int)] = Lib.byteCells (l ++ [UInt8.ofNat c]) := by
    unfold Lib.byteCells
    rw [List.map_append, List.map_cons, UInt8.toNat_ofNat_of_lt' (by show c < 256; exact hc)]; rfl
  rw [← e1]; exact h1

theorem bld_string {b : Nat} {l : List UInt8} {w : World} (s : ByteArray) (h : Bld b l w) (hl : l.length + s.size ≤ 140737488355328) :
    Calls Tryz.prog 84 #[.pointer (some ⟨b, 0, none⟩), .string s] w fun e w' => e = .returned (.tuple #[.int .i64 (s.size : Int), .nilIface]) ∧ Bld b (l ++ s.data.toList) w' ∧ Below b w w' := by
  refine (Any.Builder_WriteString_k lays166 bldExtra b b (Lib.byteCells l) s w h (by rw [Lib.byteCells_length]; exact hl) (Nat.le_of_lt h.lt)).mono ?_
  rintro e w' ⟨rfl, h1, h2, _⟩
  refine ⟨rfl, .inr ?_, h2⟩
  have e1 : Lib.byteCells l ++ Lib.strCells s = Lib.byteCells (l ++ s.data.toList) := by
    unfold Lib.byteCells Lib.strCells
    rw [List.map_append]
  rw [← e1]; exact h1

theorem bld_text {b : Nat} {l : List UInt8} {w : World} (h : Bld b l w) :
    Calls Tryz.prog 85 #[.pointer (some ⟨b, 0, none⟩)] w fun e w' => e = .returned (.string ⟨l.toArray⟩) ∧ Bld b l w' ∧ Below b w w' := by
  refine (Any.Builder_String_any_k lays169 bldExtra b b l w h (Nat.le_of_lt h.lt)).mono ?_
  rintro e w' ⟨rfl, h1, h2, _⟩
  exact ⟨rfl, h1, h2⟩

end Bk
end Go.Proofs.YtjehjbkcdpidbaaGreat

/- What a builder's length is; contract; no condition. -/
namespace Go.Proofs.YtjehjbkcdpidbaaGreat
namespace Bk
open Go.RowKit

theorem bld_cells {b : Nat} {l : List UInt8} {w : World} (h : Bld b l w) : ∃ (A : Option Addr) (c : Nat), w.cell? ⟨b, 1, none⟩ = some (.slice A l.length c) := by
  have key : ∀ p, Lib.BuilderAtF 127 5 b b p (Lib.byteCells l) w → ∃ (A : Option Addr) (c : Nat), w.cell? ⟨b, 1, none⟩ = some (.slice A l.length c) := fun p h => by
    obtain ⟨_, v, hb, hown, _⟩ := h
    have hc : w.cell? ⟨b, 1, none⟩ = some v := by simp [World.cell?, hb]
    rcases hown.2 with ⟨rfl, hn⟩ | ⟨g, cap, cur, fz, rfl, _⟩
    · refine ⟨none, 0, ?_⟩
      rw [hc]
      rw [Lib.byteCells_length] at hn
      rw [hn]
    · exact ⟨some ⟨g, 0, none⟩, cap, by rw [hc, Lib.byteCells_length]⟩
  rcases h with h | h
  · exact key _ h
  · exact key _ h

set_option maxRecDepth 20000 in
theorem bld_len {b : Nat} {l : List UInt8} {w : World} (h : Bld b l w) : Calls Tryz.prog 116 #[.pointer (some ⟨b, 0, none⟩)] w fun e w' => e = .returned (.int .i64 (l.length : Int)) ∧ w' = w := by
  obtain ⟨A, c, hc⟩ := bld_cells h
  clear h
  go_enter Tryz.func116, Tryz.ntmps116
  go_wp2_with fail
  go_ret
  exact ⟨rfl, rfl⟩

end Bk
end Go.Proofs.YtjehjbkcdpidbaaGreat

/- The landed device's sectors in the memory: rows of arrays of sixty-four bytes, as blocks known whole; no condition but the sizes. -/
namespace Go.Proofs.YtjehjbkcdpidbaaGreat
namespace Sc
open Go.RowKit Bk

/-- a sector's cells, and the value that it is -/
def secC (s : ByteArray) : List Value := Lib.byteCells s.data.toList
def secV (s : ByteArray) : Value := .agg (secC s).toArray

theorem secC_len (s : ByteArray) : (secC s).length = s.size := by
  unfold secC
  rw [Lib.byteCells_length]; rfl

theorem secC_one (s : ByteArray) : ∀ v ∈ secC s, v.oneCell' = true := Lib.byteCells_one _

theorem secC_inj {s t : ByteArray} (h : secC s = secC t) : s = t := by
  unfold secC Lib.byteCells at h
  have hf : ∀ a b : UInt8, (Value.int .u8 (a.toNat : Int)) = Value.int .u8 (b.toNat : Int) → a = b := fun a b e => by
    simp only [Value.int.injEq, true_and] at e
    exact UInt8.toNat_inj.1 (by omega)
  have h2 : s.data.toList = t.data.toList := by
    refine List.ext_getElem? fun i => ?_
    have h3 := congrArg (fun l => l[i]?) h
    simp only [List.getElem?_map] at h3
    cases e1 : s.data.toList[i]? <;> cases e2 : t.data.toList[i]? <;> rw [e1, e2] at h3
    · simp at h3
    · simp at h3
    · simp only [Option.map_some, Option.some.injEq] at h3
      rw [hf _ _ h3]
  cases s; cases t
  congr 1
  exact Array.toList_inj.1 h2

theorem secV_inj {s t : ByteArray} (h : secV s = secV t) : s = t := by
  unfold secV at h
  simp only [Value.agg.injEq] at h
  exact secC_inj (by simpa using congrArg Array.toList h)

/-- the cells of a row of sectors -/
def onC (l : List ByteArray) : List Value := l.flatMap secC

theorem onC_len : ∀ {l : List ByteArray}, (∀ s ∈ l, s.size = 64) → (onC l).length = l.length * 64
  | [], _ => rfl
  | x :: l, h => by
    have := onC_len (l := l) (fun s hs => h s (by simp [hs]))
    unfold onC at *
    rw [List.flatMap_cons, List.length_append, this, secC_len, h x (by simp), List.length_cons]
    omega

theorem onC_parts {l : List ByteArray} {i : Nat} (h : i < l.length) : onC l = onC (l.take i) ++ (secC l[i] ++ onC (l.drop (i + 1))) := by
  have : l = l.take i ++ l[i] :: l.drop (i + 1) := by rw [List.getElem_cons_drop, List.take_append_drop]
  conv => lhs; rw [this]
  unfold onC
  rw [List.flatMap_append, List.flatMap_cons]

theorem onC_set {l : List ByteArray} {i : Nat} (h : i < l.length) (t : ByteArray) : onC (l.set i t) = onC (l.take i) ++ (secC t ++ onC (l.drop (i + 1))) := by
  rw [List.set_eq_take_append_cons_drop, if_pos h]
  unfold onC
  rw [List.flatMap_append, List.flatMap_cons]

section
variable {l : List ByteArray} {i : Nat} (h64 : ∀ s ∈ l, s.size = 64) (h : i < l.length)
include h64 h

theorem onC_ahead : (onC (l.take i)).length = i * 64 := by
  rw [onC_len (fun s hs => h64 s (List.mem_of_mem_take hs)), List.length_take, Nat.min_eq_left (by omega)]

theorem onC_cell {j : Nat} {v : Value} (hv : (secC l[i])[j]? = some v) : (onC l)[i * 64 + j]? = some v := by
  have hj : j < (secC l[i]).length := (List.getElem?_eq_some_iff.1 hv).1
  rw [onC_parts h, List.getElem?_append_right (by rw [onC_ahead h64 h]; omega), onC_ahead h64 h, List.getElem?_append_left (by omega), Nat.add_sub_cancel_left]
  exact hv

/-- some bytes of a sector written over -/
theorem onC_over {cs : List Value} {n : Nat} (hc : cs.length = n) (hn : n ≤ 64) : (onC l).take (i * 64) ++ cs ++ (onC l).drop (i * 64 + n) = onC (l.take i) ++ (cs ++ (secC l[i]).drop n ++ onC (l.drop (i + 1))) := by
  have hs : (secC l[i]).length = 64 := by rw [secC_len]; exact h64 _ (List.getElem_mem h)
  have ha := onC_ahead h64 h
  rw [onC_parts h, List.take_append_of_le_length (by omega), List.take_of_length_le (by omega), List.drop_append, ha, List.drop_of_length_le (by omega), List.nil_append, Nat.add_sub_cancel_left, List.drop_append_of_le_length (by omega)]
  simp only [List.append_assoc]

end

theorem torn_cells {o n : ByteArray} (_ho : o.size = 64) (_hn : n.size = 64) (p : Int) : secC (torn o n p) = (secC n).take (cutN p) ++ (secC o).drop (cutN p) := by
  unfold secC torn Lib.byteCells
  simp [List.map_take, List.map_drop]

theorem zero_cells : secC zero64 = List.replicate 64 (Value.int .u8 0) := by
  unfold secC zero64
  rw [List.toList_toArray]
  exact zeros_cells

theorem zeros_row (n : Nat) : onC (List.replicate n zero64) = List.replicate (n * 64) (Value.int .u8 0) := by
  unfold onC
  induction n with
  | zero => simp
  | succ n ih => rw [List.replicate_succ, List.flatMap_cons, ih, zero_cells, List.replicate_append_replicate, Nat.add_mul, Nat.one_mul, Nat.add_comm]

theorem Tryz.infoSec : (Tryz.prog.info? 99).map (fun i => (i.zero, i.size, i.bytes)) = some (some (.agg (List.replicate 64 (Value.int .u8 0)).toArray), 64, 64) := by kernel_rfl

theorem size_sec : (Tryz.prog.info? 99).map (·.size) = some 64 := by
  obtain ⟨i0, hi, hz0, hz1, hz2⟩ := info_parts Tryz.infoSec
  rw [hi, Option.map_some, hz1]

set_option maxRecDepth 20000 in
theorem zero_sec (w : World) : (zeroValue 99).run Tryz.prog w = .ok (secV zero64) w := by
  unfold secV
  rw [zero_cells]
  kernel_rfl

section
variable {w : World} {a : Nat} {l : List ByteArray} {i : Nat}

theorem sec_range (h : Cel w a 99 (onC l)) (h64 : ∀ s ∈ l, s.size = 64) (hi : i < l.length) : w.rangeAt a (i * 64) (secC l[i]) := fun _ _ hv => h.cell (onC_cell h64 hi hv)

/-- a sector is read -/
theorem sec_load (h : Cel w a 99 (onC l)) (h64 : ∀ s ∈ l, s.size = 64) (hi : i < l.length) : (Instr.loadAt 99 (.pointer (some ⟨a, i * 64, none⟩))).run Tryz.prog w = .ok (secV l[i]) w :=
  run_loadAt_mid w a (i * 64) 99 (secC l[i]) _ (sec_range h h64 hi) Tryz.underlying99 rfl (by rw [size_sec, secC_len, h64 _ (List.getElem_mem hi)])

/-- a variable of the call's own is read -/
theorem sec_own {s : ByteArray} (h : Cel w a 99 (secC s)) (hs : s.size = 64) : (Instr.loadAt 99 (.pointer (some ⟨a, 0, none⟩))).run Tryz.prog w = .ok (secV s) w :=
  run_loadAt_mid w a 0 99 (secC s) _ (fun _ _ hv => by rw [Nat.zero_add]; exact h.cell hv) Tryz.underlying99 rfl (by rw [size_sec, secC_len, hs])

theorem cel_row {w : World} {g : Nat} {t : TypeId} {xs : List Value} (h : Cel w g t xs) (ys : List Value) : Cel (w.setRow g ys.toArray) g t ys := setRow_heap w g _ _ t (0, 0) h

theorem row_far {w : World} {g k : Nat} (c : Array Value) (hn : k ≠ g) : (w.setRow g c).heap[k]? = w.heap[k]? := setRow_other _ _ _ _ hn

/-- a sector is written -/
theorem sec_store (h : Cel w a 99 (onC l)) (h64 : ∀ s ∈ l, s.size = 64) (hi : i < l.length) {t : ByteArray} (ht : t.size = 64) :
    (Instr.storeAt 99 (.pointer (some ⟨a, i * 64, none⟩)) (secV t)).run Tryz.prog w = .ok () (w.setRow a (onC (l.set i t)).toArray) := by
  have hl := onC_len h64
  have htl : (secC t).length = 64 := (secC_len t).trans ht
  have hst := run_storeCells_at Tryz.prog a (i * 64) 99 (secC t) 0 _ w h (by rw [List.size_toArray, hl, htl]; omega) (secC_one t)
  have e : (onC l).toArray.toList.take (i * 64 + 0) ++ secC t ++ (onC l).toArray.toList.drop (i * 64 + 0 + (secC t).length) = onC (l.set i t) := by
    rw [List.toList_toArray, Nat.add_zero, htl, onC_over h64 hi htl (Nat.le_refl _), onC_set hi, List.drop_of_length_le (by rw [secC_len, h64 _ (List.getElem_mem hi)]; exact Nat.le_refl _), List.append_nil]
  rw [e] at hst
  obtain ⟨i0, hi0, hz0, hz1, hz2⟩ := info_parts Tryz.infoSec
  simp only [Instr.storeAt, Instr.sureAddr, Sem.run_bind, Sem.run_pure, Result.andThen_ok]
  simp [storeVar, sizeOf, typeInfo, hi0, hz1, secV, Value.cells, htl, hst]

/-- a variable of the call's own is written -/
theorem sec_put {s t : ByteArray} (h : Cel w a 99 (secC s)) (hs : s.size = 64) (ht : t.size = 64) :
    (Instr.storeAt 99 (.pointer (some ⟨a, 0, none⟩)) (secV t)).run Tryz.prog w = .ok () (w.setRow a (secC t).toArray) := by
  have h1 : Cel w a 99 (onC [s]) := by simpa [onC] using h
  have := sec_store (i := 0) h1 (by simpa using hs) (by simp) ht
  simpa [onC] using this

end

end Sc
end Go.Proofs.YtjehjbkcdpidbaaGreat
