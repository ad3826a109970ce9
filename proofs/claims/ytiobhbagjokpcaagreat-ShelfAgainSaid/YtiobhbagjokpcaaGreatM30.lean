/- Parts of the proof, joined: ShL9, ShL10, ShL11; their conditions stand with each. -/
import Derived.Test.YtiobhbagjokpcaaGreatM29

/- The landed shelf: Open; contract; no condition but the range. -/
namespace Go.Proofs.YtiobhbagjokpcaaGreat
namespace Sh
open Go.RowKit Bk Ch Lt Rc Tr

attribute [local go_sem ↓] Go.wp_at_zero Go.wp_at_succ
attribute [local go_sem] floatUpon pick

/-- the numbers that a map's datum has -/
theorem int_keys {w : World} {b n : Nat} {D : DataW Value} {m : List (Int × Value)} (h : w.ownsMap Tryz.prog 3 rdV b n D) (hs : MSays intQ D m) : (m.map (·.1)).Perm (intKeys D) := by
  obtain ⟨es, hD, hpw, _⟩ := h.entries intQ.keyed
  obtain ⟨es', hD', hko⟩ := h.keysOf
  obtain rfl : es = es' := by rw [hD] at hD'; simpa using hD'
  subst hD
  exact perm_intKeys hpw (fun p hp => by obtain ⟨v, hv⟩ := hko p hp; obtain ⟨x, _, hx, _⟩ := Maps.keyOf_i64 Tryz.underlying3 hv; exact ⟨x, hx⟩) hs.nodup (fun x => (hs.has x).symm)

/-- the library's numbers of a map, rising -/
theorem sorted_ints {w : World} {b : Nat} {m : List (Int × Value)} (h : MapIs intQ w b m) {l : List Int} (hl : l.Pairwise (fun x y => x < y)) (hp : (m.map (·.1)).Perm l) (hn : m.length ≤ 2048) :
    Calls Tryz.prog 53 #[.func (.func 86) #[] #[.pointer (some ⟨w.heap.size, 0, none⟩)]] (w.alloc (.cells #[.map (some b)] 60)) fun e w' =>
      ∃ v : Value, e = .returned v ∧ w'.ownsRow w.heap.size 3 1 v l.length (intV l) ∧ Below w.heap.size w w' := by
  obtain ⟨D, hown, hsays⟩ := h
  have hsz := says_size hown hsays
  have hml : m.length = l.length := by have := hp.length_eq; rwa [List.length_map] at this
  refine (sorted_call b m.length D rdV w hown (by unfold maxLen; omega) (by omega)).mono ?_
  rintro e w' ⟨v, ss, rfl, hpp, hrow, _, hb⟩
  have hperm : ss.Perm l := hpp.trans ((int_keys hown hsays).symm.trans hp)
  have hsort : ss.mergeSort (fun x y => decide (x ≤ y)) = l := by
    have h1 := mergeSort_of_perm_i hperm
    have h2 : l.mergeSort leI = l := List.mergeSort_of_pairwise (hl.imp fun {a b} hab => by simp only [leI, decide_eq_true_eq]; omega)
    exact h1.trans h2
  rw [hsort, hperm.length_eq] at hrow
  exact ⟨v, rfl, own_base hrow (by simp), ((Below.refl _ w).alloc (Nat.le_refl _) _).trans (hb.mono (by simp))⟩

section
variable {W : World} {F : Nat → Prop} {g bc bp : Nat} {v : Value} {K : List KI} {P : List RI} {s : Shf}

set_option maxRecDepth 20000 in
set_option maxHeartbeats 4000000 in
theorem lopen_any (h : LAt W F g bc bp v K P s) (hs : ShOk s) :
    Calls Tryz.prog 20 #[.pointer (some ⟨g, 0, none⟩)] W fun e w' => ∃ u, e = .returned u ∧ w'.ownsRow W.heap.size 3 1 u s.p.length (intV (s.p.map (·.txn))) ∧ Below W.heap.size W w' := by
  have s1 := h.cel.cell (i := 1) rfl
  have hpl : (P.map pp).length ≤ 2048 := by rw [List.length_map, h.plen]; have := hs.pl; omega
  have hrise : (s.p.map (·.txn)).Pairwise (fun x y => x < y) := List.pairwise_map.2 hs.pr
  have hperm : ((P.map pp).map (·.1)).Perm (s.p.map (·.txn)) := by rw [← h.ep, List.map_map, List.map_map]; exact List.Perm.refl _
  have HS := Lib.hid (sorted_ints h.mp hrise hperm hpl)
  have HK := Lib.hid (keys_call (some bp) W)
  have HL := Lib.hid (show (s.p.map (·.txn)).length = s.p.length from List.length_map ..)
  clear h hs hpl hrise hperm
  go_enter Tryz.func20, Tryz.ntmps20
  go_wp2_with fail
  refine HK.out.mono ?_
  rintro e1 w1 ⟨rfl, rfl⟩
  go_wp2_with fail
  refine HS.out.mono ?_
  rintro e2 w2 ⟨u, rfl, hrow, hb⟩
  rw [HL.out] at hrow
  have HR := Lib.hid hrow
  clear hrow
  go_wp2_with fail
  go_ret
  exact ⟨u, rfl, HR.out, hb⟩

end

end Sh
end Go.Proofs.YtiobhbagjokpcaaGreat

/- The landed shelf: does another one hold what a record reads, hold or watch what it writes; contracts; no condition. -/
namespace Go.Proofs.YtiobhbagjokpcaaGreat
namespace Sh
open Go.RowKit Bk Ch Lt Rc Tr

attribute [local go_sem ↓] Go.wp_at_zero Go.wp_at_succ
attribute [local go_sem] floatUpon pick

section
variable {W : World} {F : Nat → Prop} {g bc bp : Nat} {v : Value} {K : List KI} {P : List RI} {s : Shf}

set_option maxRecDepth 20000 in
set_option maxHeartbeats 4000000 in
theorem lkeys1_any (h : LAt W F g bc bp v K P s) (hs : ShOk s) (b : Nat) (_hb : b < W.heap.size) (h1 : W.cell? ⟨b, 0, none⟩ = some (.pointer (some ⟨g, 0, none⟩))) (k0 : ByteArray) :
    Calls Tryz.prog 95 #[.string k0, .pointer (some ⟨b, 0, none⟩)] W fun e w' => e = .returned (.bool (heldB s k0 false)) ∧ Below W.heap.size W w' := by
  have HHe := Lib.hid (fun V (hv : Below W.heap.size W V) => lheld_any (h.below hv) hs k0 false)
  have HB := Lib.hid (Below.refl W.heap.size W)
  clear h hs _hb
  go_enter Tryz.func95, Tryz.ntmps95
  go_wp2_with fail
  refine (HHe.out _ HB.out).mono ?_
  rintro e1 w1 ⟨rfl, hb1⟩
  have HB1 := Lib.hid (HB.out.trans (hb1.mono HB.out.size))
  clear hb1
  go_wp2_with fail
  go_ret
  exact ⟨rfl, HB1.out⟩

set_option maxRecDepth 20000 in
set_option maxHeartbeats 4000000 in
theorem lkeys_any (h : LAt W F g bc bp v K P s) (hs : ShOk s) (b : Nat) (hb : b < W.heap.size) (h1 : W.cell? ⟨b, 0, none⟩ = some (.pointer (some ⟨g, 0, none⟩))) (A : Option Addr) (c : Nat) (l : List ByteArray) (hA : StrsAt W A l) (hl : l.length ≤ 1024) :
    Calls Tryz.prog 94 #[.slice A l.length c, .func (.func 95) #[] #[.pointer (some ⟨b, 0, none⟩)]] W fun e w' => e = .returned (.bool (l.any fun y => heldB s y false)) ∧ Below W.heap.size W w' := by
  have HC := Lib.hid (fun (k0 : ByteArray) V (hv : Below W.heap.size W V) => lkeys1_any (h.below hv) hs b (Nat.lt_of_lt_of_le hb hv.size) ((cell_kept hv _ hb).trans h1) k0)
  have HA := Lib.hid (fun V (hv : Below W.heap.size W V) => hA.below hv)
  have hlen : (l.length : Int) ≤ 1024 := by omega
  have HI : Hid (Calls Tryz.prog 117 #[.slice A l.length c, .func (.func 95) #[] #[.pointer (some ⟨b, 0, none⟩)]] W fun e w' => (∃ n : Int, e = .returned (.int .i64 n) ∧ ((n = -1 ∧ (l.any fun y => heldB s y false) = false) ∨ (0 ≤ n ∧ (l.any fun y => heldB s y false) = true))) ∧ Below W.heap.size W w') := Lib.hid (by
    clear h hs hb h1 hA hl
    go_enter Tryz.func117, Tryz.ntmps117
    go_wp2_with fail
    go_loopw [8] (fun iv wr => ∃ j : Nat, j ≤ l.length ∧ iv = .int .i64 (j : Int) ∧ Hid (∀ i (h : i < l.length), i < j → heldB s l[i] false = false) ∧ Hid (Below W.heap.size W wr)) (fun iv _ => l.length - (RowKit.intOf iv).toNat)
    case atStart => exact ⟨0, Nat.zero_le _, rfl, Lib.hid (fun i _ h => absurd h (by omega)), Lib.hid (Below.refl _ _)⟩
    case round =>
      obtain ⟨j, hj, rfl, hall, hb⟩ := hrel
      by_cases hlt : j < l.length
      · have pj : (j : Int) < (l.length : Int) := by omega
        obtain ⟨ad, rfl, _, hcl⟩ := HA.out _ hb.out (by omega)
        have x0 := hcl j hlt
        have HCj := Lib.hid (HC.out l[j])
        cases he : heldB s l[j] false with
        | true =>
          have HE := Lib.hid (show (l.any fun y => heldB s y false) = true from List.any_eq_true.2 ⟨_, List.getElem_mem hlt, he⟩)
          rw [he] at HCj
          generalize l[j] = k0 at x0 HCj

          have HB := hb
          clear hall he hcl HC hb
          go_wp2_with fail
          refine (HCj.out _ HB.out).mono ?_
          rintro e2 w2 ⟨rfl, hb2⟩
          have HB2 := Lib.hid (HB.out.trans (hb2.mono HB.out.size))
          clear hb2 HB HCj
          go_wp2_with fail
          go_ret
          exact ⟨⟨(j : Int), rfl, .inr ⟨by omega, HE.out⟩⟩, HB2.out⟩
        | false =>
          have HN := Lib.hid (show ∀ i (h : i < l.length), i < j + 1 → heldB s l[i] false = false from fun i h hi => by
            by_cases e1 : i = j
            · subst e1; exact he
            · exact hall.out i h (by omega))
          rw [he] at HCj
          generalize l[j] = k0 at x0 HCj

          have HB := hb
          clear hall he hcl HC hb
          go_wp2_with fail
          refine (HCj.out _ HB.out).mono ?_
          rintro e2 w2 ⟨rfl, hb2⟩
          have HB2 := Lib.hid (HB.out.trans (hb2.mono HB.out.size))
          clear hb2 HB HCj
          go_wp2_with fail
          go_roundw
          case rel => exact ⟨j + 1, by omega, by go_num, HN, HB2⟩
          case measure => simp [RowKit.intOf]; omega
      · obtain rfl : j = l.length := by omega
        have HE := Lib.hid (show (l.any fun y => heldB s y false) = false from List.any_eq_false.2 fun x hx => by
          obtain ⟨i, hi, rfl⟩ := List.getElem_of_mem hx
          rw [hall.out i hi hi]
          simp)
        have HB := hb
        clear hall hb HC
        go_wp2_with fail
        go_ret
        exact ⟨⟨-1, rfl, .inl ⟨rfl, HE.out⟩⟩, HB.out⟩)
  generalize (l.any fun y => heldB s y false) = bb at HI ⊢
  clear h hs hb h1 hA hl HC HA
  go_enter Tryz.func94, Tryz.ntmps94
  go_wp2_with fail
  refine HI.out.mono ?_
  rintro e1 w1 ⟨⟨n, rfl, hn⟩, hb⟩
  rcases hn with ⟨rfl, rfl⟩ | ⟨hn, rfl⟩
  · go_wp2_with fail
    go_ret
    exact ⟨rfl, hb⟩
  · go_wp2_with fail
    go_ret
    exact ⟨rfl, hb⟩

set_option maxRecDepth 20000 in
set_option maxHeartbeats 4000000 in
theorem lwrs1_any (h : LAt W F g bc bp v K P s) (hs : ShOk s) (b : Nat) (hb : b < W.heap.size) (h1 : W.cell? ⟨b, 0, none⟩ = some (.pointer (some ⟨g, 0, none⟩))) (k0 t0 : ByteArray) (d0 : Bool) :
    Calls Tryz.prog 97 #[.agg #[.string k0, .string t0, .bool d0], .pointer (some ⟨b, 0, none⟩)] W fun e w' => e = .returned (.bool (heldB s k0 true)) ∧ Below W.heap.size W w' := by
  have HHe := Lib.hid (fun V (hv : Below W.heap.size W V) => lheld_any (h.below hv) hs k0 true)
  have hb5 : Below W.heap.size W (W.alloc (.cells #[.string k0, .string t0, .bool d0] 45)) := (Below.refl _ W).alloc (Nat.le_refl _) _
  have h2 := (cell_kept hb5 _ hb).trans h1
  have HB := Lib.hid hb5
  clear hb5 h1
  clear h hs hb
  go_enter Tryz.func97, Tryz.ntmps97
  go_wp2_with fail
  refine (HHe.out _ HB.out).mono ?_
  rintro e1 w1 ⟨rfl, hb1⟩
  have HB1 := Lib.hid (HB.out.trans (hb1.mono HB.out.size))
  clear hb1
  go_wp2_with fail
  go_ret
  exact ⟨rfl, HB1.out⟩

set_option maxRecDepth 20000 in
set_option maxHeartbeats 4000000 in
theorem lwrs_any (h : LAt W F g bc bp v K P s) (hs : ShOk s) (b : Nat) (hb : b < W.heap.size) (h1 : W.cell? ⟨b, 0, none⟩ = some (.pointer (some ⟨g, 0, none⟩))) (A : Option Addr) (c : Nat) (l : List Wr) (hA : WrsAt W A l) (hl : l.length ≤ 1024) :
    Calls Tryz.prog 96 #[.slice A l.length c, .func (.func 97) #[] #[.pointer (some ⟨b, 0, none⟩)]] W fun e w' => e = .returned (.bool (l.any fun y => heldB s y.key true)) ∧ Below W.heap.size W w' := by
  have HC := Lib.hid (fun (k0 t0 : ByteArray) (d0 : Bool) V (hv : Below W.heap.size W V) => lwrs1_any (h.below hv) hs b (Nat.lt_of_lt_of_le hb hv.size) ((cell_kept hv _ hb).trans h1) k0 t0 d0)
  have HA := Lib.hid (fun V (hv : Below W.heap.size W V) => hA.below hv)
  have hlen : (l.length : Int) ≤ 1024 := by omega
  have HI : Hid (Calls Tryz.prog 118 #[.slice A l.length c, .func (.func 97) #[] #[.pointer (some ⟨b, 0, none⟩)]] W fun e w' => (∃ n : Int, e = .returned (.int .i64 n) ∧ ((n = -1 ∧ (l.any fun y => heldB s y.key true) = false) ∨ (0 ≤ n ∧ (l.any fun y => heldB s y.key true) = true))) ∧ Below W.heap.size W w') := Lib.hid (by
    clear h hs hb h1 hA hl
    go_enter Tryz.func118, Tryz.ntmps118
    go_wp2_with fail
    go_loopw [8] (fun iv wr => ∃ j : Nat, j ≤ l.length ∧ iv = .int .i64 (j : Int) ∧ Hid (∀ i (h : i < l.length), i < j → heldB s l[i].key true = false) ∧ Hid (Below W.heap.size W wr)) (fun iv _ => l.length - (RowKit.intOf iv).toNat)
    case atStart => exact ⟨0, Nat.zero_le _, rfl, Lib.hid (fun i _ h => absurd h (by omega)), Lib.hid (Below.refl _ _)⟩
    case round =>
      obtain ⟨j, hj, rfl, hall, hb⟩ := hrel
      by_cases hlt : j < l.length
      · have pj : (j : Int) < (l.length : Int) := by omega
        obtain ⟨ad, rfl, x0, x1, x2⟩ := wrs_at (HA.out _ hb.out) hlt
        have hcl := True.intro
        have HCj := Lib.hid (HC.out l[j].key l[j].shard l[j].dead)
        cases he : heldB s l[j].key true with
        | true =>
          have HE := Lib.hid (show (l.any fun y => heldB s y.key true) = true from List.any_eq_true.2 ⟨_, List.getElem_mem hlt, he⟩)
          rw [he] at HCj
          generalize l[j] = X at x0 x1 x2 HCj
          obtain ⟨k0, t0, d0⟩ := X
          simp only at x0 x1 x2 HCj
          have HB := hb
          clear hall he hcl HC hb
          go_wp2_with fail
          refine (HCj.out _ HB.out).mono ?_
          rintro e2 w2 ⟨rfl, hb2⟩
          have HB2 := Lib.hid (HB.out.trans (hb2.mono HB.out.size))
          clear hb2 HB HCj
          go_wp2_with fail
          go_ret
          exact ⟨⟨(j : Int), rfl, .inr ⟨by omega, HE.out⟩⟩, HB2.out⟩
        | false =>
          have HN := Lib.hid (show ∀ i (h : i < l.length), i < j + 1 → heldB s l[i].key true = false from fun i h hi => by
            by_cases e1 : i = j
            · subst e1; exact he
            · exact hall.out i h (by omega))
          rw [he] at HCj
          generalize l[j] = X at x0 x1 x2 HCj
          obtain ⟨k0, t0, d0⟩ := X
          simp only at x0 x1 x2 HCj
          have HB := hb
          clear hall he hcl HC hb
          go_wp2_with fail
          refine (HCj.out _ HB.out).mono ?_
          rintro e2 w2 ⟨rfl, hb2⟩
          have HB2 := Lib.hid (HB.out.trans (hb2.mono HB.out.size))
          clear hb2 HB HCj
          go_wp2_with fail
          go_roundw
          case rel => exact ⟨j + 1, by omega, by go_num, HN, HB2⟩
          case measure => simp [RowKit.intOf]; omega
      · obtain rfl : j = l.length := by omega
        have HE := Lib.hid (show (l.any fun y => heldB s y.key true) = false from List.any_eq_false.2 fun x hx => by
          obtain ⟨i, hi, rfl⟩ := List.getElem_of_mem hx
          rw [hall.out i hi hi]
          simp)
        have HB := hb
        clear hall hb HC
        go_wp2_with fail
        go_ret
        exact ⟨⟨-1, rfl, .inl ⟨rfl, HE.out⟩⟩, HB.out⟩)
  generalize (l.any fun y => heldB s y.key true) = bb at HI ⊢
  clear h hs hb h1 hA hl HC HA
  go_enter Tryz.func96, Tryz.ntmps96
  go_wp2_with fail
  refine HI.out.mono ?_
  rintro e1 w1 ⟨⟨n, rfl, hn⟩, hb⟩
  rcases hn with ⟨rfl, rfl⟩ | ⟨hn, rfl⟩
  · go_wp2_with fail
    go_ret
    exact ⟨rfl, hb⟩
  · go_wp2_with fail
    go_ret
    exact ⟨rfl, hb⟩

end

end Sh
end Go.Proofs.YtiobhbagjokpcaaGreat

/- The landed shelf: what is left of it where one of its blocks is turned; no condition. -/
namespace Go.Proofs.YtiobhbagjokpcaaGreat
namespace Sh
open Go.RowKit Bk Ch Lt Rc Tr

/-- F, and all blocks that are new -/
def Gr (F : Nat → Prop) (W w' : World) : Nat → Prop := fun k => F k ∨ (W.heap.size ≤ k ∧ k < w'.heap.size)

/-- the streams are as they were -/
structure St (w w' : World) : Prop where
  os : w'.os = w.os
  tape : w'.tape = w.tape
  output : w'.output = w.output

theorem St.refl (w : World) : St w w := ⟨rfl, rfl, rfl⟩
theorem St.trans {a b c : World} (h : St a b) (k : St b c) : St a c := ⟨k.os.trans h.os, k.tape.trans h.tape, k.output.trans h.output⟩
theorem st_below {B : Nat} {w w' : World} (h : Below B w w') : St w w' := ⟨h.os, h.tape, h.output⟩
theorem st_grown {r : Option Nat} {w w' : World} (h : w.grownBy w' r) : St w w' := ⟨h.os, h.tape, h.output⟩
theorem st_turned {w w' : World} {b : Nat} (h : w.mapTurned w' b) : St w w' := by
  obtain ⟨es, clock, es', clock', _, rfl⟩ := h
  exact ⟨rfl, rfl, rfl⟩
theorem st_set (w : World) (a : Addr) (v : Value) : St w (w.setCell a v) := ⟨rfl, rfl, rfl⟩
theorem st_row (w : World) (b : Nat) (r : Array Value) : St w (w.setRow b r) := ⟨rfl, rfl, rfl⟩

/-- beside the blocks F no old block is turned, and no stream -/
structure Far (F : Nat → Prop) (w w' : World) : Prop extends Away F w w' where
  st : St w w'

theorem Far.refl (F : Nat → Prop) (w : World) : Far F w w := ⟨Away.refl F w, St.refl w⟩
theorem Far.of {F : Nat → Prop} {w w' : World} (h : Below w.heap.size w w') : Far F w w' := ⟨Away.of h, st_below h⟩
theorem Far.trans {F : Nat → Prop} {a b c : World} (h : Far F a b) (k : Far F b c) : Far F a c := ⟨h.toAway.trans k.toAway, h.st.trans k.st⟩

/-- rows of new memory -/
structure NewR (X : Nat) (x : RI) : Prop where
  ks : 0 < x.l.keys.length → ∀ ad, x.A = some ad → X ≤ ad.block
  ws : 0 < x.l.ws.length → ∀ ad, x.B = some ad → X ≤ ad.block

section
variable {W V w' : World} {F F' : Nat → Prop} {g bc bp : Nat} {v : Value} {K : List KI} {P : List RI} {s : Shf}

theorem LAt.more (h : LAt W F g bc bp v K P s) (hF : ∀ k, F k → F' k) (hl : ∀ k, F' k → k < W.heap.size) : LAt W F' g bc bp v K P s :=
  ⟨h.cel, h.mc, h.mp, h.re, h.en, h.kv, h.pv, h.ek, h.ep, h.bd, fun k hk => hF k (h.fm k hk), fun x hx hp ad e => hF _ (h.fk x hx hp ad e), fun x hx => ⟨fun hp ad e => hF _ ((h.fp x hx).1 hp ad e), fun hp ad e => hF _ ((h.fp x hx).2 hp ad e)⟩, hl⟩

theorem LAt.gr (h : LAt W F g bc bp v K P s) (hs : W.heap.size ≤ w'.heap.size) (h2 : LAt w' F g bc bp v K P s) : LAt w' (Gr F W w') g bc bp v K P s :=
  h2.more (fun _ hk => .inl hk) (fun k hk => hk.elim (fun hf => Nat.lt_of_lt_of_le (h.fl k hf) hs) (fun h => h.2))

theorem LRep.gr (h : LRep W F g s) (hb : Below W.heap.size W w') : LRep w' (Gr F W w') g s := by
  obtain ⟨bc, bp, v, K, P, h⟩ := h
  exact ⟨bc, bp, v, K, P, h.gr hb.size (h.below hb)⟩

theorem LAt.mu_lt (h : LAt W F g bc bp v K P s) : ∀ k, Mu g bc bp v k → k < W.heap.size := fun k hk => h.fl k (h.fm k hk)

theorem pval_new {x : RI} {M : Nat → Prop} {X : Nat} (hv : RecVal V x.A x.B x.c x.d x.l) (hn : NewR X x) (hM : ∀ k, M k → k < X) : PVal V M x :=
  ⟨hv, fun hp ad e hm => by have := hn.ks hp ad e; have := hM _ hm; omega, fun hp ad e hm => by have := hn.ws hp ad e; have := hM _ hm; omega⟩

theorem away_mu {b : Nat} {M : Nat → Prop} (hs : V.heap.size ≤ w'.heap.size) (hk : ∀ k, k ≠ b → w'.heap[k]? = V.heap[k]?) (hM : M b) : Away M V w' := ⟨hs, fun k _ hn => hk k (fun e => hn (by rw [e]; exact hM))⟩

/-- new rows are among the blocks that are new -/
theorem newR_in {x : RI} {X : Nat} (hv : RecVal V x.A x.B x.c x.d x.l) (hn : NewR X x) (hX : W.heap.size ≤ X) (hs : V.heap.size ≤ w'.heap.size) : (0 < x.l.keys.length → ∀ ad, x.A = some ad → Gr F W w' ad.block) ∧ (0 < x.l.ws.length → ∀ ad, x.B = some ad → Gr F W w' ad.block) :=
  ⟨fun hp ad e => .inr ⟨Nat.le_trans hX (hn.ks hp ad e), by
      obtain ⟨a', e', h1, _⟩ := hv.ks hp
      obtain rfl := Option.some.inj (e.symm.trans e')
      omega⟩, fun hp ad e => .inr ⟨Nat.le_trans hX (hn.ws hp ad e), by
      obtain ⟨a', e', h1, _⟩ := hv.ws hp
      obtain rfl := Option.some.inj (e.symm.trans e')
      omega⟩⟩

theorem gr_lt (hF : ∀ k, F k → k < W.heap.size) (hs : W.heap.size ≤ w'.heap.size) : ∀ k, Gr F W w' k → k < w'.heap.size := fun k hk => hk.elim (fun h => Nat.lt_of_lt_of_le (hF k h) hs) (fun h => h.2)

/-- those that are prepared are others -/
theorem LAt.setP (h : LAt V F g bc bp v K P s) (hk : ∀ k, k ≠ bp → w'.heap[k]? = V.heap[k]?) (hs : V.heap.size ≤ w'.heap.size) {P' : List RI} {p' : List Rec} (hm : MapIs intQ w' bp (P'.map pp)) (hp : ∀ x ∈ P', PVal V (Mu g bc bp v) x) (hl : P'.map (·.l) = p')
    (hF : ∀ k, F k → F' k) (hfp : ∀ x ∈ P', (0 < x.l.keys.length → ∀ ad, x.A = some ad → F' ad.block) ∧ (0 < x.l.ws.length → ∀ ad, x.B = some ad → F' ad.block)) (hFl : ∀ k, F' k → k < w'.heap.size) : LAt w' F' g bc bp v K P' ⟨s.k, p', s.e, s.over⟩ :=
  have aw : Away (Mu g bc bp v) V w' := away_mu hs hk (.inr (.inr (.inl rfl)))
  have hgp : g ≠ bp := fun e => by
    obtain ⟨es, cl, h1⟩ := h.mp.isMap
    have h2 := h.cel
    unfold Cel at h2
    rw [e, h1] at h2; cases h2
  ⟨(hk g hgp).trans h.cel, h.mc.kept (hk bc h.bd), hm, row_in h.re (fun k hv => hk k (fun e => by
      subst e
      rcases h.re.2 with ⟨e1, _⟩ | ⟨i, cap, cur, e1, _, hg, _⟩
      · rw [e1] at hv; cases hv
      · rw [e1] at hv
        obtain rfl : i = k := by simpa [Value.ownBlock] using hv
        obtain ⟨es, cl, h1⟩ := h.mp.isMap
        rw [h1] at hg; cases hg)), h.en, fun x hx => (h.kv x hx).away aw, fun x hx => (hp x hx).away aw, h.ek, hl, h.bd, fun k hk => hF k (h.fm k hk), fun x hx hp ad e => hF _ (h.fk x hx hp ad e), hfp, hFl⟩

/-- the chains are others -/
theorem LAt.setK (h : LAt V F g bc bp v K P s) (hk : ∀ k, k ≠ bc → w'.heap[k]? = V.heap[k]?) (hs : V.heap.size ≤ w'.heap.size) {K' : List KI} {k' : List Kc} (hm : MapIs strQ w' bc (K'.map kp)) (hp : ∀ x ∈ K', KVal V (Mu g bc bp v) x) (hl : K'.map (·.k) = k')
    (hF : ∀ k, F k → F' k) (hfk : ∀ x ∈ K', 0 < x.k.l.length → ∀ ad, x.A = some ad → F' ad.block) (hFl : ∀ k, F' k → k < w'.heap.size) : LAt w' F' g bc bp v K' P ⟨k', s.p, s.e, s.over⟩ :=
  have aw : Away (Mu g bc bp v) V w' := away_mu hs hk (.inr (.inl rfl))
  have hgp : g ≠ bc := fun e => by
    obtain ⟨es, cl, h1⟩ := h.mc.isMap
    have h2 := h.cel
    unfold Cel at h2
    rw [e, h1] at h2; cases h2
  ⟨(hk g hgp).trans h.cel, hm, h.mp.kept (hk bp (fun e => h.bd e.symm)), row_in h.re (fun k hv => hk k (fun e => by
      subst e
      rcases h.re.2 with ⟨e1, _⟩ | ⟨i, cap, cur, e1, _, hg, _⟩
      · rw [e1] at hv; cases hv
      · rw [e1] at hv
        obtain rfl : i = k := by simpa [Value.ownBlock] using hv
        obtain ⟨es, cl, h1⟩ := h.mc.isMap
        rw [h1] at hg; cases hg)), h.en, fun x hx => (hp x hx).away aw, fun x hx => (h.pv x hx).away aw, hl, h.ep, h.bd, fun k hk => hF k (h.fm k hk), hfk, fun x hx => ⟨fun hp ad e => hF _ ((h.fp x hx).1 hp ad e), fun hp ad e => hF _ ((h.fp x hx).2 hp ad e)⟩, hFl⟩

end

/-! ### those that are prepared, in their order -/

def insRI (P : List RI) (y : RI) : List RI := P.takeWhile (fun q => decide (q.l.txn < y.l.txn)) ++ y :: P.dropWhile (fun q => decide (q.l.txn < y.l.txn))

theorem insRI_map (P : List RI) (y : RI) : (insRI P y).map (·.l) = insP (P.map (·.l)) y.l := by
  unfold insRI insP
  rw [List.map_append, List.map_cons, List.takeWhile_map, List.dropWhile_map]
  rfl

theorem insRI_perm (P : List RI) (y : RI) : (insRI P y).Perm (y :: P) := by
  unfold insRI
  refine List.perm_middle.trans ?_
  rw [List.takeWhile_append_dropWhile]

end Sh
end Go.Proofs.YtiobhbagjokpcaaGreat
