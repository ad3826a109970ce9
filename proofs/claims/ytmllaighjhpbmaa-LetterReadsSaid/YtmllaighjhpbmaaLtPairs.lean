/- What the document's own Pairs answers: writes of flags and texts; contract; no condition but the range. -/
import Derived.Test.YtmllaighjhpbmaaLtEnc
namespace Go.Proofs.Ytmllaighjhpbmaa
namespace Lt
open Go.RowKit Bk

attribute [local go_sem ↓] Go.wp_at_zero Go.wp_at_succ
attribute [local go_sem] floatUpon pick

theorem Try.infoWrite : (Try.prog.info? 77).map (fun i => (i.zero, i.size, i.bytes)) = some (some (.agg #[.string ⟨#[]⟩, .string ⟨#[]⟩, .bool false]), 3, 40) := by kernel_rfl

/-- a row's cells -/
def wrV (l : List Wr) : List Value := l.flatMap fun x => [.string x.key, .string x.shard, .bool x.dead]

theorem wrV_len (l : List Wr) : (wrV l).length = l.length * 3 := by
  induction l with
  | nil => rfl
  | cons x r ih =>
    show ([_, _, _] ++ wrV r).length = _
    rw [List.length_append, ih, List.length_cons]
    simp; omega

theorem wrV_snoc (l : List Wr) (x : Wr) : wrV (l ++ [x]) = wrV l ++ [.string x.key, .string x.shard, .bool x.dead] := by
  unfold wrV
  rw [List.flatMap_append]; rfl

theorem wrV_at : ∀ (l : List Wr) (i : Nat) (h : i < l.length), (wrV l)[i * 3]? = some (.string l[i].key) ∧ (wrV l)[i * 3 + 1]? = some (.string l[i].shard) ∧ (wrV l)[i * 3 + 2]? = some (.bool l[i].dead)
  | [], _, h => absurd h (by simp)
  | x :: r, 0, _ => ⟨rfl, rfl, rfl⟩
  | x :: r, i + 1, h => by
    have ih := wrV_at r i (by simpa using h)
    have e : wrV (x :: r) = .string x.key :: .string x.shard :: .bool x.dead :: wrV r := rfl
    rw [e, show (i + 1) * 3 = i * 3 + 3 by omega]
    exact ih

theorem wrs_own {w : World} {H n : Nat} {v : Value} {e : TypeId} {l : List Wr} (h : w.ownsRow H e 3 v n (wrV l)) (hl : n = l.length) : ∃ (A : Option Addr) (c : Nat), v = .slice A n c ∧ WrsAt w A l ∧ n ≤ c ∧ c ≤ maxLen ∧ (A = none → c = 0) := by
  rcases h.2 with ⟨rfl, rfl⟩ | ⟨g, cap, cur, rfl, _, hg, h1, h2, hsz, htk⟩
  · exact ⟨none, 0, rfl, fun hp => by omega, Nat.le_refl _, Nat.zero_le _, fun _ => rfl⟩
  · refine ⟨_, cap, rfl, fun _ => ⟨_, rfl, (Array.getElem?_eq_some_iff.1 hg).1, fun i hi => ?_⟩, h1, h2, fun e => by cases e⟩
    obtain ⟨x0, x1, x2⟩ := wrV_at l i hi
    have hlen : (wrV l).length = n * 3 := by rw [wrV_len, hl]
    have hc : ∀ j u, (wrV l)[j]? = some u → w.cell? ((⟨g, 0, none⟩ : Addr).add j) = some u := fun j u hu => by
      rw [addr_head]
      refine blk_cell hg ?_
      have hj := (List.getElem?_eq_some_iff.1 hu).1
      rw [← htk, List.getElem?_take_of_lt (by omega)] at hu
      rw [← Array.getElem?_toList]; exact hu
    exact ⟨hc _ _ x0, hc _ _ x1, hc _ _ x2⟩

/-- the writes of flags and texts -/
def pairL : List Int → List ByteArray → List Wr
  | f :: fs, k :: s :: ts => ⟨k, s, f == 1⟩ :: pairL fs ts
  | _, _ => []

theorem pairL_len : ∀ (fs : List Int) (ts : List ByteArray), ts.length = 2 * fs.length → (pairL fs ts).length = fs.length
  | [], _, _ => by simp [pairL]
  | f :: fs, [], h => by simp at h
  | f :: fs, [k], h => by simp at h; omega
  | f :: fs, k :: s :: ts, h => by
    rw [pairL, List.length_cons, List.length_cons, pairL_len fs ts (by simp at h; omega)]

theorem pairL_at : ∀ (fs : List Int) (ts : List ByteArray) (_h : ts.length = 2 * fs.length) (i : Nat) (hi : i < fs.length) (hp : i < (pairL fs ts).length) (h1 : 2 * i < ts.length) (h2 : 2 * i + 1 < ts.length), (pairL fs ts)[i] = ⟨ts[2 * i], ts[2 * i + 1], fs[i] == 1⟩
  | [], _, _, _, hi, _, _, _ => absurd hi (by simp)
  | f :: fs, [], h, _, _, _, _, _ => by simp at h
  | f :: fs, [k], h, _, _, _, _, _ => by simp at h; omega
  | f :: fs, k :: s :: ts, h, 0, _, _, _, _ => rfl
  | f :: fs, k :: s :: ts, h, i + 1, hi, hp, h1, h2 => by
    have ih := pairL_at fs ts (by simp at h; omega) i (by simpa using hi) (by simpa [pairL] using hp) (by simp at h1; omega) (by simp at h2; omega)
    simp only [pairL, List.getElem_cons_succ, ih]
    congr 1 <;> simp [show 2 * (i + 1) = 2 * i + 1 + 1 by omega]

theorem new_row {w : World} {g : Nat} {t : TypeId} {xs : List Value} (h : w.heap[g]? = some (.cells xs.toArray t (0, 0))) : ∀ j v, xs[j]? = some v → w.cell? ((⟨g, 0, none⟩ : Addr).add j) = some v := fun j v hv => by
  rw [addr_head]
  exact blk_cell h (by rw [List.getElem?_toArray]; exact hv)

/-- what Pairs answers -/
def PairsAns (fs : List Int) (ts : List ByteArray) (w : World) : Ending → World → Prop := fun e w' =>
  (ts.length = 2 * fs.length ∧ ∃ v, e = .returned (.tuple #[v, .bool true]) ∧ w'.ownsRow w.heap.size 77 3 v fs.length (wrV (pairL fs ts)) ∧ Below w.heap.size w w') ∨
  (ts.length ≠ 2 * fs.length ∧ e = .returned (.tuple #[.slice none 0 0, .bool false]) ∧ w' = w)

set_option maxRecDepth 20000 in
set_option maxHeartbeats 4000000 in
theorem pairs_any (A B : Option Addr) (c d : Nat) (fs : List Int) (ts : List ByteArray) (w : World) (ha : IntsAt w A fs) (hb : StrsAt w B ts) (h1 : fs.length ≤ 100000) (h2 : ts.length ≤ 100000) :
    Calls Try.prog 39 #[.slice A fs.length c, .slice B ts.length d] w (PairsAns fs ts w) := by
  obtain ⟨i0, hi, hz0, hz1, hz2⟩ := info_parts Try.infoWrite
  by_cases hl : ts.length = 2 * fs.length
  · have pl : (2 * (fs.length : Int)) = (ts.length : Int) := by omega
    have plb : ((ts.length : Int) != (ts.length : Int)) = false := by simp
    have hpl := pairL_len fs ts hl
    have pfl : (fs.length : Int) ≤ 100000 := by omega
    have HMk : Hid (∀ v w', w'.ownsRow w.heap.size 77 3 v fs.length (wrV (pairL fs ts)) → Below w.heap.size w w' → PairsAns fs ts w (.returned (.tuple #[v, .bool true])) w') := Lib.hid (fun v w' a b => .inl ⟨hl, v, rfl, a, b⟩)
    have HL := Lib.hid hl
    have HPl := Lib.hid hpl
    have HA := Lib.hid ha
    have HB := Lib.hid hb
    clear hl hpl ha hb h2
    go_enter Try.func39, Try.ntmps39
    go_wp2_with fail
    go_loopw [6, 7] (fun x i wr => ∃ (j : Nat) (u : Value), u = x ∧ j ≤ fs.length ∧ i = .int .i64 (j : Int) ∧ Hid (wr.ownsRow w.heap.size 77 3 u j (wrV ((pairL fs ts).take j))) ∧ Hid (Below w.heap.size w wr)) (fun _ i _ => fs.length - (intOf i).toNat)
    case atStart => exact ⟨0, _, rfl, by omega, rfl, World.ownsRow_nil _ _ _ _, Below.refl _ _⟩
    case round =>
      obtain ⟨j, u, rfl, hj, rfl, hown, hbel⟩ := hrel
      by_cases hlt : j < fs.length
      · have pj : (j : Int) < (fs.length : Int) := by omega
        have l1 : 2 * j < ts.length := by have := HL.out; omega
        have l2 : 2 * j + 1 < ts.length := by have := HL.out; omega
        obtain ⟨ad, rfl, _, _⟩ := HA.out (by omega)
        obtain ⟨bd, rfl, _, _⟩ := HB.out (by omega)
        have hp := pairL_at fs ts HL.out j hlt (by rw [HPl.out]; exact hlt) l1 l2
        obtain ⟨k, hk⟩ : ∃ k, k = ts[2 * j] := ⟨_, rfl⟩
        obtain ⟨s, hs⟩ : ∃ s, s = ts[2 * j + 1] := ⟨_, rfl⟩
        obtain ⟨f, hf⟩ : ∃ f, f = fs[j] := ⟨_, rfl⟩
        obtain ⟨dd, hd⟩ : ∃ dd, dd = (f == 1) := ⟨_, rfl⟩
        rw [← hk, ← hs, ← hf, ← hd] at hp
        have htk : wrV ((pairL fs ts).take (j + 1)) = wrV ((pairL fs ts).take j) ++ [.string k, .string s, .bool dd] := by
          rw [List.take_add_one, List.getElem?_eq_getElem (by rw [HPl.out]; exact hlt), hp]
          exact wrV_snoc _ _
        have hC : ∀ W, Below w.heap.size w W → W.cell? (bd.add (2 * j)) = some (.string k) ∧ W.cell? (bd.add (2 * j + 1)) = some (.string s) ∧ W.cell? (ad.add j) = some (.int .i64 f) := fun W hW => by
          obtain ⟨ad', e1, _, hca⟩ := (HA.out.below hW) (by omega)
          obtain ⟨bd', e2, _, hcb⟩ := (HB.out.below hW) (by omega)
          obtain rfl := Option.some.inj e1
          obtain rfl := Option.some.inj e2
          rw [hk, hs, hf]
          exact ⟨hcb _ l1, hcb _ l2, hca _ hlt⟩
        have HC := Lib.hid hC
        have HTk := Lib.hid htk
        have hdd : (f == 1) = dd := hd.symm
        have p1 : (2 * (j : Int)) < (ts.length : Int) := by omega
        have p2 : (2 * (j : Int)) + 1 < (ts.length : Int) := by omega
        have w2 : IntKind.i64.wrap (2 * (j : Int)) = 2 * (j : Int) := i64_wrap (by omega) (by omega)
        have w3 : IntKind.i64.wrap (2 * (j : Int) + 1) = 2 * (j : Int) + 1 := i64_wrap (by omega) (by omega)
        obtain ⟨q0, hq0⟩ : ∃ q, q = 2 * j := ⟨_, rfl⟩
        obtain ⟨q1, hq1⟩ : ∃ q, q = 2 * j + 1 := ⟨_, rfl⟩
        have t2 : (2 * (j : Int)).toNat = q0 := by omega
        have t3 : (2 * (j : Int) + 1).toNat = q1 := by omega
        rw [← hq1, ← hq0] at HC
        clear hC hp htk hk hs hf hd hq0 hq1
        go_upto_region 7 with fail
        refine wp_region_said 19 [20, 21, 22, 23, 24, 25, 26, 27, 28, 29, 30, 31, 32, 33, 34, 35, 36, 37, 38]
          [.is u, .is (.slice (some bd) ts.length d), .is (.int .i64 (j : Int)), .is (.int .i64 (2 * (j : Int))), .is (.pointer (some (bd.add q0))), .is (.string k), .is (.slice (some bd) ts.length d), .is (.int .i64 (j : Int)), .is (.int .i64 (2 * (j : Int))), .is (.int .i64 (2 * (j : Int) + 1)), .is (.pointer (some (bd.add q1))), .is (.string s), .is (.slice (some ad) fs.length c), .is (.int .i64 (j : Int)), .is (.pointer (some (ad.add j))), .is (.int .i64 f), .is (.bool dd), .is (.agg #[.string k, .string s, .bool dd]), .arr 77 #[.string k, .string s, .bool dd] 1 1]
          (fun W => W.ownsRow w.heap.size 77 3 u j (wrV ((pairL fs ts).take j)) ∧ Below w.heap.size w W) (by kernel_rfl) (by kernel_rfl) (by kernel_rfl) (by kernel_rfl) (by kernel_rfl) (fun W W' h hb => ⟨st_keep h.1 hb, h.2.trans (hb.mono h.2.size)⟩) ⟨hown.out, hbel.out⟩ ?steps ?last
        case steps =>
          simp only [List.take_succ_cons, List.take_zero]
          refine ⟨?_, ?_, ?_, ?_, ?_, ?_, ?_, ?_, ?_, ?_, ?_, ?_, ?_, ?_, ?_, ?_, ?_, ?_, ?_, trivial⟩
          all_goals
            intro vs W ρ hρ hc hf hg hI hH hd R' hR
            obtain ⟨z0, z1, z2⟩ := HC.out W hI.2
            have HR := Lib.hid hR
            simp [depsOf, Region.binds, sayAt, Say.holds] at hd
            clear hR hI
            go_simp
            first
              | exact HR.out _ _ (by simp [sayAt, Say.holds]) (Below.refl _ _) (by simp [sayAt, Say.isBlk])
              | exact HR.out _ _ ⟨_, hH, by simp, rfl, heap_alloc_new _ _⟩ ((Below.refl _ _).alloc (Nat.le_refl _) _) (fun h => by cases h)
              | trace_state
        case last =>
          intro vs W hI hb hg hd
          have g0 := hg 0 (by omega)
          obtain ⟨o, ho1, ho2, g18, ho⟩ := hg 18 (by omega)
          simp only [sayAt, Say.holds, List.getD_cons_zero] at g0
          simp only [List.take_succ_cons, List.take_zero, List.drop_succ_cons, List.drop_zero, putAll, Act.put, List.setIfInBounds_toArray, List.set_cons_succ, List.set_cons_zero, Nat.zero_add, Nat.reduceAdd]
          rw [g0, g18]
          have HI := Lib.hid hI
          clear g0 g18 hg hd hI hown hbel
          refine wpList_append_own_at _ rfl _ _ 23 rfl w.heap.size 77 i0 (.agg #[.string ⟨#[]⟩, .string ⟨#[]⟩, .bool false]) 3 40 Try.underlying23 hi hz0 hz1 hz2 rfl (by decide) _ _ _ rfl HI.out.1 ⟨o, 0, none⟩ 1 1 [.string k, .string s, .bool dd] rfl rfl ?d1 ?d2 ?d3 ?d4 HI.out.2.size ?_
          case d1 => exact new_row ho
          case d2 => intro q hq; simp at hq; rcases hq with rfl | rfl | rfl <;> rfl
          case d3 => unfold maxLen; omega
          case d4 => omega
          intro v' w5 hown' hgrow _ hat
          have HB5 := Lib.hid (HI.out.2.grown hgrow HI.out.2.size (fun k hk => (HI.out.1.lt k hk).1))
          rw [← HTk.out] at hown'
          have HO5 := Lib.hid hown'
          clear hown' hgrow hat HI ho ho1 ho2 hb
          go_wp2_with fail
          go_roundw
          case rel => exact ⟨j + 1, _, rfl, by omega, by go_num, HO5.out, HB5.out⟩
          case measure => simp [intOf]; omega
      · obtain rfl : j = fs.length := by omega
        have ho := hown.out
        rw [List.take_of_length_le (by rw [HPl.out]; exact Nat.le_refl _)] at ho
        have HO := Lib.hid ho
        clear ho hown
        go_wp2_with fail
        go_ret2
        exact HMk.out _ _ HO.out hbel.out
  · have plb : ((ts.length : Int) != 2 * (fs.length : Int)) = true := by simp; omega
    have HMk : Hid (PairsAns fs ts w (.returned (.tuple #[.slice none 0 0, .bool false])) w) := Lib.hid (.inr ⟨hl, rfl, rfl⟩)
    have pfl : (fs.length : Int) ≤ 100000 := by omega
    clear hl ha hb
    go_enter Try.func39, Try.ntmps39
    go_wp2_with fail
    go_ret2
    exact HMk.out

end Lt
end Go.Proofs.Ytmllaighjhpbmaa
