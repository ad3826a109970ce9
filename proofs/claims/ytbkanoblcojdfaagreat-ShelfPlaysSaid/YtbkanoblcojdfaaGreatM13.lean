/- Parts of the proof, joined: ShRef1, ShRef2, ShRef3, ShRef4, ShRef5; their conditions stand with each. -/
import Derived.Test.YtbkanoblcojdfaaGreatM6
import Derived.Test.YtbkanoblcojdfaaGreatM7

namespace Go.Proofs.YtbkanoblcojdfaaGreat
namespace Sh
open Go.RowKit Bk Ch Lt Rc Tr
attribute [local go_sem ↓] Go.wp_at_zero Go.wp_at_succ
attribute [local go_sem] floatUpon pick
def aheadN (k : List Kc) (key : ByteArray) : Nat := (k.takeWhile (fun x => ltK x.name key)).length
theorem ahead_le (k : List Kc) (key : ByteArray) : aheadN k key ≤ k.length := (List.takeWhile_prefix _).length_le
theorem ahead_at {k : List Kc} {key : ByteArray} : ∀ {n : Nat}, n ≤ k.length → (∀ i (h : i < k.length), i < n → ltK k[i].name key = true) → (∀ h : n < k.length, ltK k[n].name key = false) → aheadN k key = n := by
  induction k with
  | nil => intro n hn _ _; simp at hn; simp [aheadN, hn]
  | cons x r ih =>
    intro n hn h1 h2
    cases n with
    | zero =>
      have := h2 (by simp)
      unfold aheadN
      rw [List.takeWhile_cons_of_neg (by simpa using this)]
      rfl
    | succ j =>
      have hx := h1 0 (by simp) (by omega)
      have := ih (n := j) (by simpa using hn) (fun i h hi => h1 (i + 1) (by simpa using h) (by omega)) (fun h => h2 (by simpa using h))
      unfold aheadN at this ⊢
      rw [List.takeWhile_cons_of_pos (by simpa using hx), List.length_cons, this]
theorem ahead_split : ∀ (k : List Kc) (key : ByteArray), (∀ i (h : i < k.length), i < aheadN k key → ltK k[i].name key = true) ∧ (∀ h : aheadN k key < k.length, ltK k[aheadN k key].name key = false)
  | [], key => ⟨fun i h => absurd h (by simp), fun h => absurd h (by simp)⟩
  | x :: r, key => by
    obtain ⟨i1, i2⟩ := ahead_split r key
    by_cases hx : ltK x.name key = true
    · have e : aheadN (x :: r) key = aheadN r key + 1 := by unfold aheadN; rw [List.takeWhile_cons_of_pos (by simpa using hx), List.length_cons]
      refine ⟨fun i h hi => ?_, fun h => ?_⟩
      · cases i with
        | zero => exact hx
        | succ i => exact i1 i (by simpa using h) (by omega)
      · simp only [e, List.getElem_cons_succ]
        exact i2 (by rw [e] at h; simpa using h)
    · have e : aheadN (x :: r) key = 0 := by unfold aheadN; rw [List.takeWhile_cons_of_neg (by simpa using hx)]; rfl
      refine ⟨fun i h hi => absurd hi (by omega), fun h => ?_⟩
      simp only [e, List.getElem_cons_zero]
      simpa using hx
theorem has_at {k : List Kc} {key : ByteArray} (hs : Sorted k) {n : Nat} (h1 : ∀ i (h : i < k.length), i < n → ltK k[i].name key = true) (h2 : ∀ h : n < k.length, ltK k[n].name key = false) : findK k key = if h : n < k.length then (if k[n].name = key then some k[n] else none) else none := by
  induction k generalizing n with
  | nil => simp [findK]
  | cons x r ih =>
    obtain ⟨hs1, hs2⟩ := List.pairwise_cons.1 hs
    cases n with
    | zero =>
      have hx := h2 (by simp)
      rw [dif_pos (by simp)]
      simp only [List.getElem_cons_zero] at hx ⊢
      by_cases he : x.name = key
      · rw [if_pos he]
        unfold findK
        rw [List.find?_cons_of_pos (by simp [he])]
      · rw [if_neg he]
        have hk : ltK key x.name = true := by
          rcases lt_total key x.name with h | h | h
          · exact h
          · exact absurd h.symm he
          · rw [hx] at h; cases h
        exact find_above fun y hy => by
          rcases List.mem_cons.1 hy with rfl | hy
          · exact hk
          · exact lt_trans hk (hs1 y hy)
    | succ j =>
      have hx := h1 0 (by simp) (by omega)
      have := ih hs2 (n := j) (fun i h hi => h1 (i + 1) (by simpa using h) (by omega)) (fun h => h2 (by simpa using h))
      unfold findK at this ⊢
      rw [List.find?_cons_of_neg (by simp; exact lt_ne hx), this]
      simp
section
variable {W : World} {F : Nat → Prop} {g : Nat} {A B C : Option Addr} {a b c : Nat} {K : List KI} {P : List RI} {s : Shf}
theorem kget (h : RAt W F g A B C a b c K P s) {i : Nat} (hi : i < s.k.length) : s.k[i] = (K[i]'(by rw [h.klen]; exact hi)).k := by
  simp only [← h.ek, List.getElem_map]
set_option maxRecDepth 20000 in
set_option maxHeartbeats 4000000 in
theorem rat_any (h : RAt W F g A B C a b c K P s) (hk : Sorted s.k) (hl : s.k.length ≤ 1024) (key : ByteArray) :
    Calls Tryz.prog 104 #[.pointer (some ⟨g, 0, none⟩), .string key] W fun e w' => e = .returned (.tuple #[.int .i64 (aheadN s.k key : Int), .bool (hasK s.k key)]) ∧ Below W.heap.size W w' := by
  have HH := Lib.hid h
  have hKl : K.length = s.k.length := h.klen
  have hKi : (K.length : Int) ≤ 1024 := by omega
  have HKl := Lib.hid hKl
  have HS := Lib.hid hk
  clear h hk hl hKl
  go_enter Tryz.func104, Tryz.ntmps104
  go_wp2_with fail
  go_loopw [6] (fun iv wr => ∃ j : Nat, j ≤ K.length ∧ iv = .int .i64 (j : Int) ∧ Hid (∀ i (h : i < s.k.length), i < j → ltK s.k[i].name key = true) ∧ Hid (Below W.heap.size W wr)) (fun iv _ => K.length - (intOf iv).toNat)
  case atStart => exact ⟨0, Nat.zero_le _, rfl, Lib.hid (fun i _ h => absurd h (by omega)), Lib.hid (Below.refl _ _)⟩
  case round =>
    obtain ⟨j, hj, rfl, hall, hb⟩ := hrel
    have hR := HH.out.below hb.out
    have s0 := hR.cel.cell (i := 0) rfl
    by_cases hlt : j < K.length
    · have pj : (j : Int) < (K.length : Int) := by omega
      obtain ⟨ad, rfl, x0, x1⟩ := hR.key hlt
      have hkg := kget hR (i := j) (by rw [← HKl.out]; exact hlt)
      have HKg := Lib.hid hkg
      cases hlk : ltK K[j].k.name key with
      | true =>
        have hlk' : Op.bytesLess K[j].k.name.toList key.toList = true := hlk
        have HN := Lib.hid (show ∀ i (h : i < s.k.length), i < j + 1 → ltK s.k[i].name key = true from fun i h hi => by
          by_cases e : i = j
          · subst e; rw [HKg.out]; exact hlk
          · exact hall.out i h (by omega))
        generalize K[j].k.name = nm at x0 hlk'
        clear hR hkg x1 hall hlk HKg
        go_wp2_with fail
        go_roundw
        case rel => exact ⟨j + 1, by omega, by go_num, HN, hb⟩
        case measure => simp [intOf]; omega
      | false =>
        have hlk' : Op.bytesLess K[j].k.name.toList key.toList = false := hlk
        have hjs : j < s.k.length := by rw [← HKl.out]; exact hlt
        have hah : aheadN s.k key = j := ahead_at (by omega) hall.out (fun h => by rw [HKg.out]; exact hlk)
        have hfi := has_at HS.out hall.out (fun h => by rw [HKg.out]; exact hlk)
        rw [dif_pos hjs, HKg.out] at hfi
        by_cases he : K[j].k.name = key
        · rw [if_pos he] at hfi
          have E := Lib.hid (show hasK s.k key = true by unfold hasK; rw [hfi]; rfl)
          have E2 := Lib.hid hah
          have t1 := text_eq key
          rw [he] at x0 hlk'
          clear hR hkg x1 hall hlk hah hfi he HKg hjs
          go_upto_region 4 with fail
          go_quiet (fail)
          rename_i nq
          have HB := Lib.hid (hb.out.trans ((below_drew wr.heap.size wr nq).mono hb.out.size))
          generalize wr.drewN nq = W3 at HB ⊢
          go_wp2_with fail
          go_ret2
          exact ⟨by rw [E.out, E2.out]; rfl, HB.out⟩
        · rw [if_neg he] at hfi
          have E := Lib.hid (show hasK s.k key = false by unfold hasK; rw [hfi]; rfl)
          have E2 := Lib.hid hah
          have t1 := text_ne he
          generalize K[j].k.name = nm at x0 hlk' t1 he
          clear hR hkg x1 hall hlk hah hfi HKg hjs
          go_upto_region 4 with fail
          go_quiet (fail)
          rename_i nq
          have HB := Lib.hid (hb.out.trans ((below_drew wr.heap.size wr nq).mono hb.out.size))
          generalize wr.drewN nq = W3 at HB ⊢
          go_wp2_with fail
          go_ret2
          exact ⟨by rw [E.out, E2.out]; rfl, HB.out⟩
    · obtain rfl : j = K.length := by omega
      have hah : aheadN s.k key = K.length := by rw [HKl.out]; exact ahead_at (Nat.le_refl _) (fun i h hi => hall.out i h (by rw [HKl.out]; exact hi)) (fun h => absurd h (by omega))
      have hfi := has_at (n := K.length) HS.out hall.out (fun h => absurd h (by rw [HKl.out]; omega))
      rw [dif_neg (by rw [HKl.out]; omega)] at hfi
      have E := Lib.hid (show hasK s.k key = false by unfold hasK; rw [hfi]; rfl)
      have E2 := Lib.hid hah
      clear hR hall hah hfi
      go_upto_region 4 with fail
      go_quiet (fail)
      rename_i nq
      have HB := Lib.hid (hb.out.trans ((below_drew wr.heap.size wr nq).mono hb.out.size))
      generalize wr.drewN nq = W3 at HB ⊢
      go_wp2_with fail
      go_ret2
      exact ⟨by rw [E.out, E2.out]; rfl, HB.out⟩
def ChainAns (W : World) (F : Nat → Prop) (l : List Vr) (v : Value) : Prop := ∃ (A : Option Addr) (c : Nat), v = .slice A l.length c ∧ KVal W F ⟨⟨⟨#[]⟩, l⟩, A, c⟩
set_option maxRecDepth 20000 in
set_option maxHeartbeats 4000000 in
theorem rchain_any (h : RAt W F g A B C a b c K P s) (hk : Sorted s.k) (hl : s.k.length ≤ 1024) (key : ByteArray) :
    Calls Tryz.prog 105 #[.pointer (some ⟨g, 0, none⟩), .string key] W fun e w' => ∃ v, e = .returned v ∧ ChainAns w' (G F g) (chainK s.k key) v ∧ Below W.heap.size W w' := by
  have HA := Lib.hid (rat_any h hk hl key)
  have HH := Lib.hid h
  have hKl : K.length = s.k.length := h.klen
  have HKl := Lib.hid hKl
  have hKi : (K.length : Int) ≤ 1024 := by omega
  have hfind : hasK s.k key = true → ∃ hj : aheadN s.k key < K.length, (K[aheadN s.k key]'hj).k.l = chainK s.k key := fun hh => by
    obtain ⟨hn1, hn2⟩ := ahead_split s.k key
    have hn := ahead_le s.k key
    generalize aheadN s.k key = n at hn hn1 hn2 ⊢
    have hf := has_at hk hn1 hn2
    unfold hasK at hh
    rw [hf] at hh
    by_cases hlt : n < s.k.length
    · rw [dif_pos hlt] at hf hh
      by_cases hnm : s.k[n].name = key
      · rw [if_pos hnm] at hf
        refine ⟨by omega, ?_⟩
        unfold chainK
        rw [hf]
        simp only
        rw [kget h hlt]
      · rw [if_neg hnm] at hh; simp at hh
    · rw [dif_neg hlt] at hh; simp at hh
  have HFi := Lib.hid hfind
  have hahl : aheadN s.k key ≤ 1024 := Nat.le_trans (ahead_le _ _) hl
  have hno : hasK s.k key = false → chainK s.k key = [] := fun hh => by
    unfold hasK at hh
    unfold chainK
    cases hf : findK s.k key with
    | none => rfl
    | some x => rw [hf] at hh; simp at hh
  have HNo := Lib.hid hno
  generalize chainK s.k key = L at HFi HNo ⊢
  generalize hasK s.k key = bb at HA HFi HNo
  generalize aheadN s.k key = n at HA HFi hahl
  clear h hk hl hfind hno hKl
  go_enter Tryz.func105, Tryz.ntmps105
  go_wp2_with fail
  refine HA.out.mono ?_
  rintro e1 w1 ⟨rfl, hb⟩
  have HB := Lib.hid hb
  clear hb HA
  cases bb with
  | false =>
    have hL := HNo.out rfl
    go_wp2_with fail
    go_ret
    exact ⟨_, rfl, ⟨none, 0, by rw [hL]; rfl, by rw [hL]; exact RowF.nil _ _ _, fun _ => ⟨by rw [hL]; rfl, rfl⟩, by rw [hL]; exact Nat.le_refl _, Nat.zero_le _⟩, HB.out⟩
  | true =>
    obtain ⟨hj, hjl⟩ := HFi.out rfl
    have hR := HH.out.below HB.out
    have s0 := hR.cel.cell (i := 0) rfl
    obtain ⟨ad, rfl, x0, x1⟩ := hR.key hj
    have pj : (n : Int) < (K.length : Int) := by omega
    have hkv := hR.kv _ (List.getElem_mem hj)
    have HKv := Lib.hid hkv
    have HJl := Lib.hid hjl
    generalize K[n] = X at x1 HKv HJl
    obtain ⟨⟨nm, l⟩, A', c'⟩ := X
    simp only at x1 HJl
    have HP := Lib.hid (show ChainAns w1 (G F g) L (.slice A' l.length c') from by
      have h1 := HKv.out
      rw [← HJl.out]
      exact ⟨A', c', rfl, h1.row, h1.nil, h1.le, h1.cap⟩)
    clear hR x0 hkv hjl
    go_wp2_with fail
    go_ret
    exact ⟨_, rfl, HP.out, HB.out⟩
end
end Sh
end Go.Proofs.YtbkanoblcojdfaaGreat

namespace Go.Proofs.YtbkanoblcojdfaaGreat
namespace Sh
open Go.RowKit Bk Ch Lt Rc Tr
attribute [local go_sem ↓] Go.wp_at_zero Go.wp_at_succ
attribute [local go_sem] floatUpon pick
def PrepAt (p : List Rec) (txn n : Int) : Prop :=
  (n = -1 ∧ ∀ r ∈ p, r.txn ≠ txn) ∨ ∃ (j : Nat) (hj : j < p.length), n = (j : Int) ∧ (∀ i (h : i < p.length), i < j → p[i].txn ≠ txn) ∧ p[j].txn = txn
theorem prep_first {p : List Rec} {txn : Int} {j : Nat} (hj : j < p.length) (h : ∀ i (h : i < p.length), i < j → p[i].txn ≠ txn) (hx : p[j].txn = txn) : prepOf p txn = some p[j] ∧ outP p txn = p.take j ++ p.drop (j + 1) := by
  induction p generalizing j with
  | nil => simp at hj
  | cons x r ih =>
    unfold prepOf outP at *
    cases j with
    | zero =>
      simp only [List.getElem_cons_zero] at hx ⊢
      rw [List.find?_cons_of_pos (by simpa using hx), List.eraseP_cons_of_pos (by simpa using hx)]
      exact ⟨rfl, rfl⟩
    | succ j =>
      have h0 := h 0 (by simp) (by omega)
      simp only [List.getElem_cons_zero] at h0
      simp only [List.getElem_cons_succ] at hx ⊢
      obtain ⟨i1, i2⟩ := ih (j := j) (by simpa using hj) (fun i hi hij => by have := h (i + 1) (by simpa using hi) (by omega); simpa using this) hx
      rw [List.find?_cons_of_neg (by simpa using h0), List.eraseP_cons_of_neg (by simpa using h0), i1, i2]
      exact ⟨rfl, rfl⟩
theorem endR_first {e : List (Int × Int)} {txn : Int} {j : Nat} (hj : j < e.length) (h : ∀ i (h : i < e.length), i < j → e[i].1 ≠ txn) (hx : e[j].1 = txn) : endOf e txn = some e[j] := by
  induction e generalizing j with
  | nil => simp at hj
  | cons x r ih =>
    unfold endOf at *
    cases j with
    | zero =>
      simp only [List.getElem_cons_zero] at hx ⊢
      rw [List.find?_cons_of_pos (by simpa using hx)]
    | succ j =>
      have h0 := h 0 (by simp) (by omega)
      simp only [List.getElem_cons_zero] at h0
      simp only [List.getElem_cons_succ] at hx ⊢
      rw [List.find?_cons_of_neg (by simpa using h0)]
      exact ih (j := j) (by simpa using hj) (fun i hi hij => by have := h (i + 1) (by simpa using hi) (by omega); simpa using this) hx
theorem all_get {α : Type} {l : List α} {p : α → Prop} (h : ∀ i (h : i < l.length), p l[i]) : ∀ x ∈ l, p x := fun x hx => by
  obtain ⟨i, hi, rfl⟩ := List.mem_iff_getElem.1 hx
  exact h i hi
section
variable {W : World} {F : Nat → Prop} {g : Nat} {A B C : Option Addr} {a b c : Nat} {K : List KI} {P : List RI} {s : Shf}
theorem pget (h : RAt W F g A B C a b c K P s) {i : Nat} (hi : i < s.p.length) : s.p[i] = (P[i]'(by rw [h.plen]; exact hi)).l := by
  simp only [← h.ep, List.getElem_map]
set_option maxRecDepth 20000 in
set_option maxHeartbeats 4000000 in
theorem rprep_any (h : RAt W F g A B C a b c K P s) (hl : s.p.length ≤ 1024) (txn : Int) :
    Calls Tryz.prog 103 #[.pointer (some ⟨g, 0, none⟩), .int .i64 txn] W fun e w' => ∃ n, e = .returned (.int .i64 n) ∧ PrepAt s.p txn n ∧ Below W.heap.size W w' := by
  have HH := Lib.hid h
  have hPl : P.length = s.p.length := h.plen
  have hPi : (P.length : Int) ≤ 1024 := by omega
  have HPl := Lib.hid hPl
  clear h hl hPl
  go_enter Tryz.func103, Tryz.ntmps103
  go_wp2_with fail
  go_loopw [5] (fun iv wr => ∃ j : Nat, j ≤ P.length ∧ iv = .int .i64 (j : Int) ∧ Hid (∀ i (h : i < s.p.length), i < j → s.p[i].txn ≠ txn) ∧ Hid (Below W.heap.size W wr)) (fun iv _ => P.length - (intOf iv).toNat)
  case atStart => exact ⟨0, Nat.zero_le _, rfl, Lib.hid (fun i _ h => absurd h (by omega)), Lib.hid (Below.refl _ _)⟩
  case round =>
    obtain ⟨j, hj, rfl, hall, hb⟩ := hrel
    have hR := HH.out.below hb.out
    have s1 := hR.cel.cell (i := 1) rfl
    by_cases hlt : j < P.length
    · have pj : (j : Int) < (P.length : Int) := by omega
      obtain ⟨ad, rfl, _, hcl⟩ := hR.one hlt
      have x1 := hcl 1 _ rfl
      rw [← Ch.add_field _ _ _ (by omega)] at x1
      have hjs : j < s.p.length := by rw [← HPl.out]; exact hlt
      have HPg : Hid (s.p[j] = P[j].l) := Lib.hid (pget hR hjs)
      obtain ⟨tx, htx⟩ : ∃ tx, P[j].l.txn = tx := ⟨_, rfl⟩
      have HTx := Lib.hid htx
      rw [htx] at x1
      clear hR hcl htx
      by_cases he : tx = txn
      · have HF : Hid (PrepAt s.p txn (j : Int)) := Lib.hid (.inr ⟨j, hjs, rfl, hall.out, by rw [HPg.out, HTx.out]; exact he⟩)
        have hz : (tx == txn) = true := by simpa using he
        subst he
        clear hall HPg HTx
        go_wp2_with fail
        go_ret
        exact ⟨_, rfl, HF.out, hb.out⟩
      · have HN := Lib.hid (show ∀ i (h : i < s.p.length), i < j + 1 → s.p[i].txn ≠ txn from fun i h hi => by
          by_cases e : i = j
          · subst e; rw [HPg.out, HTx.out]; exact he
          · exact hall.out i h (by omega))
        have hz : (tx == txn) = false := by simpa using he
        clear hall HPg HTx
        go_wp2_with fail
        go_roundw
        case rel => exact ⟨j + 1, by omega, by go_num, HN, hb⟩
        case measure => simp [intOf]; omega
    · obtain rfl : j = P.length := by omega
      have HF : Hid (PrepAt s.p txn (-1)) := Lib.hid (.inl ⟨rfl, all_get fun i h => hall.out i h (by rw [HPl.out]; exact h)⟩)
      clear hR hall
      go_wp2_with fail
      go_ret
      exact ⟨_, rfl, HF.out, hb.out⟩
set_option maxRecDepth 20000 in
set_option maxHeartbeats 8000000 in
theorem rstate_any (h : RAt W F g A B C a b c K P s) (hl : s.p.length ≤ 1024) (hel : s.e.length ≤ 1024) (txn : Int) :
    Calls Tryz.prog 58 #[.pointer (some ⟨g, 0, none⟩), .int .i64 txn] W fun e w' => e = .returned (.tuple #[.int .i64 (stateP s txn).1, .int .i64 (stateP s txn).2]) ∧ Below W.heap.size W w' := by
  have HP := Lib.hid (rprep_any h hl txn)
  have HH := Lib.hid h
  have hEi : (s.e.length : Int) ≤ 1024 := by omega
  clear h hl hel
  go_enter Tryz.func58, Tryz.ntmps58
  go_wp2_with fail
  refine HP.out.mono ?_
  rintro e1 w1 ⟨n, rfl, hpa, hb⟩
  have HB := Lib.hid hb
  clear hb HP
  rcases hpa with ⟨rfl, hno⟩ | ⟨j, hj, rfl, hj1, hj2⟩
  case inr =>
    have E := Lib.hid (show stateP s txn = (1, 0) by unfold stateP; rw [(prep_first hj hj1 hj2).1])
    have p0 : (j : Int) ≥ 0 := by omega
    clear hj1 hj2
    go_wp2_with fail
    go_ret2
    exact ⟨by rw [E.out]; rfl, HB.out⟩
  have E := Lib.hid (show stateP s txn = match endOf s.e txn with | none => (0, 0) | some x => if 0 < x.2 then (2, x.2) else (3, 0) by unfold stateP; rw [prep_none.2 hno]; rfl)
  clear hno
  go_wp2_with fail
  go_loopw [6] (fun iv wr => ∃ j : Nat, j ≤ s.e.length ∧ iv = .int .i64 (j : Int) ∧ Hid (∀ i (h : i < s.e.length), i < j → s.e[i].1 ≠ txn) ∧ Hid (Below W.heap.size W wr)) (fun iv _ => s.e.length - (intOf iv).toNat)
  case atStart => exact ⟨0, Nat.zero_le _, rfl, Lib.hid (fun i _ h => absurd h (by omega)), HB⟩
  case round =>
    obtain ⟨j, hj, rfl, hall, hb⟩ := hrel
    clear HB
    have hR := HH.out.below hb.out
    have s2 := hR.cel.cell (i := 2) rfl
    by_cases hlt : j < s.e.length
    · have pj : (j : Int) < (s.e.length : Int) := by omega
      obtain ⟨ad, rfl, x0, x1⟩ := hR.end hlt
      obtain ⟨tx, htx⟩ : ∃ tx, s.e[j].1 = tx := ⟨_, rfl⟩
      obtain ⟨tm, htm⟩ : ∃ tm, s.e[j].2 = tm := ⟨_, rfl⟩
      have HTx := Lib.hid htx
      have HTm := Lib.hid htm
      rw [htx] at x0
      rw [htm] at x1
      clear hR htx htm
      by_cases he : tx = txn
      · have hz : (tx == txn) = true := by simpa using he
        have hend : endOf s.e txn = some s.e[j] := endR_first hlt hall.out (by rw [HTx.out]; exact he)
        subst he
        by_cases hp : tm > 0
        · have E2 := Lib.hid (show stateP s tx = (2, tm) by rw [E.out, hend]; simp only; rw [HTm.out, if_pos hp])
          clear hall hend HTx HTm
          go_upto_region 7 with fail
          go_quiet (fail)
          rename_i nq
          have HB := Lib.hid (hb.out.trans ((below_drew wr.heap.size wr nq).mono hb.out.size))
          generalize wr.drewN nq = W3 at HB ⊢
          go_wp2_with fail
          go_ret2
          exact ⟨by rw [E2.out]; rfl, HB.out⟩
        · have E2 := Lib.hid (show stateP s tx = (3, 0) by rw [E.out, hend]; simp only; rw [HTm.out, if_neg hp])
          clear hall hend HTx HTm
          go_wp2_with fail
          go_ret2
          exact ⟨by rw [E2.out]; rfl, hb.out⟩
      · have HN := Lib.hid (show ∀ i (h : i < s.e.length), i < j + 1 → s.e[i].1 ≠ txn from fun i h hi => by
          by_cases e : i = j
          · subst e; rw [HTx.out]; exact he
          · exact hall.out i h (by omega))
        have hz : (tx == txn) = false := by simpa using he
        clear hall HTx HTm
        go_wp2_with fail
        go_roundw
        case rel => exact ⟨j + 1, by omega, by go_num, HN, hb⟩
        case measure => simp [intOf]; omega
    · obtain rfl : j = s.e.length := by omega
      have E2 := Lib.hid (show stateP s txn = (0, 0) by rw [E.out, end_none.2 (all_get fun i h => hall.out i h h)])
      clear hR hall
      go_wp2_with fail
      go_ret2
      exact ⟨by rw [E2.out]; rfl, hb.out⟩
end
end Sh
end Go.Proofs.YtbkanoblcojdfaaGreat

namespace Go.Proofs.YtbkanoblcojdfaaGreat
namespace Sh
open Go.RowKit Bk Ch Lt Rc Tr
attribute [local go_sem ↓] Go.wp_at_zero Go.wp_at_succ
attribute [local go_sem] floatUpon pick
theorem any_at {α : Type} {l : List α} {f : α → Bool} {j : Nat} (hj : j < l.length) (h : f l[j] = true) : l.any f = true := List.any_eq_true.2 ⟨l[j], List.getElem_mem hj, h⟩
theorem any_none {α : Type} {l : List α} {f : α → Bool} (h : ∀ i (h : i < l.length), f l[i] = false) : l.any f = false := List.any_eq_false.2 fun x hx => by
  obtain ⟨i, hi, rfl⟩ := List.mem_iff_getElem.1 hx
  rw [h i hi]; simp
section
variable {W : World} {F : Nat → Prop} {g : Nat} {A B C : Option Addr} {a b c : Nat} {K : List KI} {P : List RI} {s : Shf}
set_option maxRecDepth 20000 in
set_option maxHeartbeats 8000000 in
theorem rheld_any (h : RAt W F g A B C a b c K P s) (hl : s.p.length ≤ 1024) (key : ByteArray) (wb : Bool) :
    Calls Tryz.prog 64 #[.pointer (some ⟨g, 0, none⟩), .string key, .bool wb] W fun e w' => e = .returned (.bool (heldB s key wb)) ∧ w' = W := by
  have hPl : P.length = s.p.length := h.plen
  have hPi : (P.length : Int) ≤ 1024 := by omega
  have HPl := Lib.hid hPl
  have s1 := h.cel.cell (i := 1) rfl
  have hone := fun (i : Nat) (hi : i < P.length) => h.one hi
  have hpv := h.pv
  have hpg : ∀ i (hi : i < s.p.length) (hi2 : i < P.length), s.p[i] = P[i].l := fun i hi _ => pget h hi
  have HOne := Lib.hid hone
  have HPv := Lib.hid hpv
  have HPg := Lib.hid hpg
  clear h hl hPl hone hpv hpg
  go_enter Tryz.func64, Tryz.ntmps64
  go_wp2_with fail
  go_loopw [7] (fun iv wr => ∃ j : Nat, j ≤ P.length ∧ iv = .int .i64 (j : Int) ∧ Hid (∀ i (h : i < s.p.length), i < j → heldR s.p[i] key wb = false) ∧ Hid (wr = W)) (fun iv _ => P.length - (intOf iv).toNat)
  case atStart => exact ⟨0, Nat.zero_le _, rfl, Lib.hid (fun i _ h => absurd h (by omega)), Lib.hid rfl⟩
  case round =>
    obtain ⟨j, hj, rfl, hall, hw⟩ := hrel
    obtain rfl : W = wr := hw.out.symm
    clear hw
    by_cases hlt : j < P.length
    · have pj : (j : Int) < (P.length : Int) := by omega
      obtain ⟨ad, rfl, _, hcl⟩ := HOne.out j hlt
      have x7 := hcl 7 _ rfl
      have x8 := hcl 8 _ rfl
      rw [← Ch.add_field _ _ _ (by omega)] at x7 x8
      have hjs : j < s.p.length := by rw [← HPl.out]; exact hlt
      have HPj : Hid (s.p[j] = P[j].l) := Lib.hid (HPg.out j hjs hlt)
      have hv := (HPv.out _ (List.getElem_mem hlt)).val
      clear hcl
      generalize P[j] = X at x7 x8 HPj hv
      obtain ⟨r, A', B', c', d'⟩ := X
      simp only at x7 x8 HPj hv
      have hrk := hv.rng.k16
      have hrw := hv.rng.w40
      have rb : reachBytes = 140737488351232 := rfl
      have hnk : (r.keys.length : Int) ≤ 9223372036854775807 := by omega
      have hnw : (r.ws.length : Int) ≤ 9223372036854775807 := by omega
      have HKs := Lib.hid hv.ks
      have HWs := Lib.hid hv.ws
      have HNo : Hid (∀ i (h : i < s.p.length), i < j + 1 → (i = j → heldR r key wb = false) → heldR s.p[i] key wb = false) := Lib.hid fun i h hi hr => by
        by_cases e : i = j
        · subst e; rw [HPj.out]; exact hr rfl
        · exact hall.out i h (by omega)
      have HYes : Hid (heldR r key wb = true → heldB s key wb = true) := Lib.hid fun hr => any_at (j := j) hjs (by rw [HPj.out]; exact hr)
      clear hv hrk hrw rb hall HPj
      go_wp2_with fail
      go_loopw [8] (fun iv wr => ∃ k : Nat, k ≤ r.ws.length ∧ iv = .int .i64 (k : Int) ∧ Hid (∀ i (h : i < r.ws.length), i < k → r.ws[i].key ≠ key) ∧ Hid (wr = W)) (fun iv _ => r.ws.length - (intOf iv).toNat)
      case atStart => exact ⟨0, Nat.zero_le _, rfl, Lib.hid (fun i _ h => absurd h (by omega)), Lib.hid rfl⟩
      case round =>
        obtain ⟨k, hk, rfl, hallk, hw⟩ := hrel
        obtain rfl : W = wr := hw.out.symm
        clear hw
        by_cases hkl : k < r.ws.length
        · have pk : (k : Int) < (r.ws.length : Int) := by omega
          obtain ⟨bd, rfl, _, hcw⟩ := HWs.out (by omega)
          obtain ⟨y0, -, -⟩ := hcw k hkl
          clear hcw
          by_cases he : r.ws[k].key = key
          · have HF := Lib.hid (HYes.out (by
              unfold heldR
              rw [Bool.or_eq_true]
              exact .inl (any_at (j := k) hkl (by simp [he]))))
            rw [he] at y0
            have t1 := text_eq key
            clear hallk he HNo HYes
            go_wp2_with fail
            go_ret
            exact ⟨by rw [HF.out]; rfl, rfl⟩
          · have HN := Lib.hid (show ∀ i (h : i < r.ws.length), i < k + 1 → r.ws[i].key ≠ key from fun i h hi => by
              by_cases e : i = k
              · subst e; exact he
              · exact hallk.out i h (by omega))
            have t1 := text_ne he
            have t2 : ¬ r.ws[k].key.toList = key.toList := fun e => he (toList_inj e)
            generalize r.ws[k].key = nm at y0 t1 t2 he
            clear hallk he
            go_wp2_with fail
            go_roundw
            case rel => exact ⟨k + 1, by omega, by go_num, HN, Lib.hid (by trivial)⟩
            case measure => simp [intOf]; omega
        · obtain rfl : k = r.ws.length := by omega
          have HW0 : Hid (r.ws.any (fun x => decide (x.key = key)) = false) := Lib.hid (any_none fun i h => by simpa using hallk.out i h h)
          clear hallk
          go_wp2_with fail
          go_loopw [9] (fun iv wr => ∃ k : Nat, k ≤ r.keys.length ∧ iv = .int .i64 (k : Int) ∧ Hid (∀ i (h : i < r.keys.length), i < k → r.keys[i] ≠ key) ∧ Hid (wr = W)) (fun iv _ => r.keys.length - (intOf iv).toNat)
          case atStart => exact ⟨0, Nat.zero_le _, rfl, Lib.hid (fun i _ h => absurd h (by omega)), Lib.hid rfl⟩
          case round =>
            obtain ⟨k, hk, rfl, hallk, hw⟩ := hrel
            obtain rfl : W = wr := hw.out.symm
            clear hw
            cases wb with
            | false =>
              have HN := Lib.hid (show ∀ i (h : i < s.p.length), i < j + 1 → heldR s.p[i] key false = false from fun i h hi => HNo.out i h hi fun _ => by unfold heldR; rw [HW0.out]; rfl)
              clear hallk HNo HYes HW0
              go_wp2_with fail
              go_roundw
              case rel => exact ⟨j + 1, by omega, by go_num, HN, Lib.hid (by trivial)⟩
              case measure => simp [intOf]; omega
            | true =>
              by_cases hkl : k < r.keys.length
              · have pk : (k : Int) < (r.keys.length : Int) := by omega
                obtain ⟨bd, rfl, _, hcw⟩ := HKs.out (by omega)
                have y0 := hcw k hkl
                clear hcw
                by_cases he : r.keys[k] = key
                · have HF := Lib.hid (HYes.out (by
                    unfold heldR
                    rw [Bool.or_eq_true, Bool.true_and]
                    exact .inr (any_at (j := k) hkl (by simp [he]))))
                  rw [he] at y0
                  have t1 := text_eq key
                  clear hallk he HNo HYes HW0
                  go_wp2_with fail
                  go_ret
                  exact ⟨by rw [HF.out]; rfl, rfl⟩
                · have HN := Lib.hid (show ∀ i (h : i < r.keys.length), i < k + 1 → r.keys[i] ≠ key from fun i h hi => by
                    by_cases e : i = k
                    · subst e; exact he
                    · exact hallk.out i h (by omega))
                  have t1 := text_ne he
                  have t2 : ¬ r.keys[k].toList = key.toList := fun e => he (toList_inj e)
                  generalize r.keys[k] = nm at y0 t1 t2 he
                  clear hallk he
                  go_wp2_with fail
                  go_roundw
                  case rel => exact ⟨k + 1, by omega, by go_num, HN, Lib.hid (by trivial)⟩
                  case measure => simp [intOf]; omega
              · have pk : ¬ (k : Int) < (r.keys.length : Int) := by omega
                have HN := Lib.hid (show ∀ i (h : i < s.p.length), i < j + 1 → heldR s.p[i] key true = false from fun i h hi => HNo.out i h hi fun _ => by
                  unfold heldR
                  rw [HW0.out, Bool.false_or, Bool.true_and]
                  exact any_none fun i h => by simpa using hallk.out i h (by omega))
                clear hallk HNo HYes HW0
                go_wp2_with fail
                go_roundw
                case rel => exact ⟨j + 1, by omega, by go_num, HN, Lib.hid (by trivial)⟩
                case measure => simp [intOf]; omega
    · obtain rfl : j = P.length := by omega
      have E : Hid (heldB s key wb = false) := Lib.hid (any_none fun i h => hall.out i h (by rw [HPl.out]; exact h))
      clear hall
      go_wp2_with fail
      go_ret
      exact ⟨by rw [E.out]; rfl, rfl⟩
end
end Sh
end Go.Proofs.YtbkanoblcojdfaaGreat

namespace Go.Proofs.YtbkanoblcojdfaaGreat
namespace Sh
open Go.RowKit Bk Ch Lt Rc Tr
attribute [local go_sem ↓] Go.wp_at_zero Go.wp_at_succ
attribute [local go_sem] floatUpon pick
structure One (g : Nat) (w w' : World) : Prop where
  os : w'.os = w.os
  tape : w'.tape = w.tape
  output : w'.output = w.output
  size : w.heap.size ≤ w'.heap.size
  block : ∀ k, k < w.heap.size → k ≠ g → w'.heap[k]? = w.heap[k]?
theorem One.of {g : Nat} {w w' : World} (h : Below w.heap.size w w') : One g w w' := ⟨h.os, h.tape, h.output, h.size, fun k hk _ => h.block k hk⟩
theorem One.trans {g : Nat} {a b c : World} (h : One g a b) (k : One g b c) : One g a c :=
  ⟨k.os.trans h.os, k.tape.trans h.tape, k.output.trans h.output, Nat.le_trans h.size k.size, fun i hi hn => (k.block i (Nat.lt_of_lt_of_le hi h.size) hn).trans (h.block i hi hn)⟩
theorem One.then {g : Nat} {a b c : World} (h : One g a b) (k : Below b.heap.size b c) : One g a c := h.trans (One.of k)
theorem One.set {g i : Nat} {a b : World} (h : One g a b) (v : Value) : One g a (b.setCell ⟨g, i, none⟩ v) :=
  ⟨h.os, h.tape, h.output, by simpa [World.setCell] using h.size, fun k hk hn => (Below.heap_setCell b ⟨g, i, none⟩ v k hn).trans (h.block k hk hn)⟩
theorem One.away {g : Nat} {F : Nat → Prop} {w w' : World} (h : One g w w') : Away (G F g) w w' := ⟨h.size, fun k hk hn => h.block k hk (fun e => hn (.inr e))⟩
theorem One.away' {g : Nat} {F : Nat → Prop} {w w' : World} (h : One g w w') (hg : F g) : Away F w w' := ⟨h.size, fun k hk hn => h.block k hk (fun e => hn (by rw [e]; exact hg))⟩
theorem KVal.vrs {W : World} {F : Nat → Prop} {x : KI} (h : KVal W F x) : VrsAt W x.A x.k.l := h.row.vrs
theorem ChainAns.below {W W' : World} {F : Nat → Prop} {l : List Vr} {v : Value} (h : ChainAns W F l v) (hb : Below W.heap.size W W') : ChainAns W' F l v := by
  obtain ⟨A, c, e, h⟩ := h
  exact ⟨A, c, e, h.away (Away.of hb)⟩
theorem chain32 {l : List Vr} (h : ChOk l) : l.length * 32 ≤ 140737488351232 := by have := h.len; omega
theorem ok_rng {l : List Vr} (h : ChOk l) : ∀ x ∈ l, VrRng x := fun x hx => by
  have rb : reachBytes = 140737488351232 := rfl
  have h1 := h.each x hx
  unfold vrOk at h1
  exact ⟨by omega, by omega⟩
def mayP (s : Shf) (key : ByteArray) (v : Vr) : Int :=
  if (addP (chainK s.k key) v).2 ≠ 0 then (addP (chainK s.k key) v).2
  else if hasK s.k key = false ∧ 1024 ≤ s.k.length then 2 else 0
section
variable {W : World} {F : Nat → Prop} {g : Nat} {A B C : Option Addr} {a b c : Nat} {K : List KI} {P : List RI} {s : Shf}
set_option maxRecDepth 20000 in
set_option maxHeartbeats 4000000 in
theorem rshlast_any (h : RAt W F g A B C a b c K P s) (hs : KOk s.k) (hl : s.k.length ≤ 1024) (key : ByteArray) :
    Calls Tryz.prog 62 #[.pointer (some ⟨g, 0, none⟩), .string key] W fun e w' => e = .returned (.int .i64 (lastT (chainK s.k key))) ∧ Below W.heap.size W w' := by
  have HC := Lib.hid (rchain_any h hs.ks hl key)
  have hok := hs.chain key
  have hla : lastP (chainK s.k key) = (lastT (chainK s.k key), 0) := by unfold lastP; rw [if_neg (by rw [chk_zero hok]; simp)]
  generalize chainK s.k key = L at HC hok hla ⊢
  have HLa := Lib.hid (fun (A' : Option Addr) (c' : Nat) V (hv : VrsAt V A' L) => rlast_any A' c' L V hv (chain32 hok) (ok_rng hok))
  rw [hla] at HLa
  simp only at HLa
  clear h hs hl hok hla
  go_enter Tryz.func62, Tryz.ntmps62
  go_wp2_with fail
  refine HC.out.mono ?_
  rintro e1 w1 ⟨v, rfl, ⟨A', c', rfl, hv⟩, hb⟩
  have HB := Lib.hid hb
  have HV := Lib.hid hv.vrs
  clear hb hv HC
  go_wp2_with fail
  refine (HLa.out A' c' _ HV.out).mono ?_
  rintro e2 w2 ⟨rfl, hb⟩
  have HB2 := Lib.hid (HB.out.trans (hb.mono HB.out.size))
  clear hb HLa HV HB
  go_wp2_with fail
  go_ret
  exact ⟨rfl, HB2.out⟩
set_option maxRecDepth 20000 in
set_option maxHeartbeats 4000000 in
theorem rmay_any (h : RAt W F g A B C a b c K P s) (hs : KOk s.k) (hl : s.k.length ≤ 1024) (key : ByteArray) (x : Vr) (hx : VrRng x) :
    Calls Tryz.prog 47 #[.pointer (some ⟨g, 0, none⟩), .string key, .agg (vcs x).toArray] W fun e w' => e = .returned (.int .i64 (mayP s key x)) ∧ Below W.heap.size W w' := by
  have HC := Lib.hid (fun V (hb : Below W.heap.size W V) => rchain_any (h.below hb) hs.ks hl key)
  have HAt := Lib.hid (fun V (hb : Below W.heap.size W V) => rat_any (h.below hb) hs.ks hl key)
  have HH := Lib.hid (fun V (hb : Below W.heap.size W V) => h.below hb)
  have hKl : K.length = s.k.length := h.klen
  have hok := hs.chain key
  have HE := Lib.hid (show mayP s key x = if (addP (chainK s.k key) x).2 ≠ 0 then (addP (chainK s.k key) x).2 else if hasK s.k key = false ∧ 1024 ≤ K.length then 2 else 0 by rw [hKl]; rfl)
  have HKl := Lib.hid (show (K.length : Int) ≤ 1024 by omega)
  generalize chainK s.k key = L at HC hok HE
  have HAd := Lib.hid (fun (A' : Option Addr) (c' : Nat) V (hv : KVal V (G F g) ⟨⟨⟨#[]⟩, L⟩, A', c'⟩) => radd_any A' c' L x V hv.vrs (chain32 hok) (ok_rng hok) hx hv.nil)
  obtain ⟨R, e, hre⟩ : ∃ R e, addP L x = (R, e) := ⟨_, _, rfl⟩
  rw [hre] at HAd HE
  simp only at HE
  generalize hasK s.k key = bb at HAt HE
  generalize (aheadN s.k key : Int) = ii at HAt
  obtain ⟨xt, xs, xd⟩ := x
  clear h hs hl hok hx hre hKl
  show Calls _ _ #[_, _, .agg #[.int .i64 xt, .string xs, .bool xd]] _ _
  go_enter Tryz.func47, Tryz.ntmps47
  go_upto_region 1 with fail
  have hR0 : Cel (W.alloc (.cells #[.int .i64 xt, .string xs, .bool xd] 77)) W.heap.size 77 [.int .i64 xt, .string xs, .bool xd] := (blk1 W _).2
  have hB0 : Below W.heap.size W (W.alloc (.cells #[.int .i64 xt, .string xs, .bool xd] 77)) := (Below.refl _ W).alloc (Nat.le_refl _) _
  generalize hW0 : W.alloc (.cells #[.int .i64 xt, .string xs, .bool xd] 77) = W0 at hR0 hB0 ⊢
  clear hW0
  have HR0 := Lib.hid hR0
  have HB0 := Lib.hid hB0
  clear hR0 hB0
  refine wp_region_said 10 [12, 13, 14, 15, 16, 11, 17, 18, 7, 8]
    [.is (.pointer (some ⟨g, 0, none⟩)), .is (.string key), .own (fun v V => ChainAns V (G F g) L v) (fun v V V' h hb => h.below hb), .is (.agg #[.int .i64 xt, .string xs, .bool xd]),
      .own (fun v _ => ∃ u, v = .tuple #[u, .int .i64 e]) (fun v V V' h hb => h), .own (fun v _ => ∃ u, v = .tuple #[u, .int .i64 e]) (fun v V V' h hb => h), .own (fun _ _ => True) (fun v V V' h hb => h), .is (.int .i64 e), .own (fun _ _ => True) (fun v V V' h hb => h), .is (.int .i64 e)]
    (fun V => Below W0.heap.size W0 V) (by kernel_rfl) (by kernel_rfl) (by kernel_rfl) (by kernel_rfl) (by kernel_rfl) (fun V V' h hb => h.trans (hb.mono h.size)) (Below.refl _ _) ?steps ?last
  case steps =>
    simp only [List.take_succ_cons, List.take_zero]
    refine ⟨?_, ?_, ?_, ?_, ?_, ?_, ?_, ?_, ?_, ?_, trivial⟩
    all_goals
      intro vs V ρ hρ hc hf hg hI hH hd R' hR
      have kc := HR0.out.below hI
      have q0 := kc.cell (i := 0) rfl
      have q1 := kc.cell (i := 1) rfl
      have q2 := kc.cell (i := 2) rfl
      have HR := Lib.hid hR
      have HI := Lib.hid (HB0.out.trans (Below.mono hI HB0.out.size))
      simp [depsOf, Region.binds, sayAt, Say.holds] at hd
      clear hR hI kc
    case refine_3 =>
      go_simp
      refine (HC.out V HI.out).mono ?_
      rintro e' w' ⟨v, rfl, hv, hb⟩
      exact ⟨_, rfl, HR.out _ _ hv hb (by simp [sayAt, Say.isBlk])⟩
    case refine_5 =>
      obtain ⟨⟨A', c', e2, hv⟩, h3⟩ := hd
      go_simp
      refine (show Calls _ _ #[_, .agg #[.int .i64 xt, .string xs, .bool xd]] _ _ from HAd.out A' c' _ hv).mono ?_
      rintro e' w' ⟨v, rfl, -, hb⟩
      exact ⟨_, rfl, HR.out _ _ ⟨_, rfl⟩ hb (by simp [sayAt, Say.isBlk])⟩
    case refine_6 =>
      go_simp
      exact HR.out _ _ hd (Below.refl _ _) (by simp [sayAt, Say.isBlk])
    case refine_7 =>
      obtain ⟨u, e2⟩ := hd
      go_simp
      exact HR.out _ _ trivial (Below.refl _ _) (by simp [sayAt, Say.isBlk])
    case refine_8 =>
      obtain ⟨u, e2⟩ := hd
      go_simp
      exact HR.out _ _ rfl (Below.refl _ _) (by simp [sayAt, Say.isBlk])
    case refine_9 =>
      go_simp
      exact HR.out _ _ trivial (Below.refl _ _) (by simp [sayAt, Say.isBlk])
    all_goals
      go_simp
      exact HR.out _ _ (by simp [sayAt, Say.holds]) (Below.refl _ _) (by simp [sayAt, Say.isBlk])
  case last =>
    intro vs w3 hI hb hg hd
    have g9 := hg 9 (by omega)
    simp only [sayAt, Say.holds, List.getD_cons_succ, List.getD_cons_zero] at g9
    simp only [List.take_succ_cons, List.take_zero, List.drop_succ_cons, List.drop_zero, putAll, Act.put, List.setIfInBounds_toArray, List.set_cons_succ, List.set_cons_zero, Nat.zero_add, Nat.reduceAdd]
    rw [g9]
    have HB3 := Lib.hid (HB0.out.trans (Below.mono hI HB0.out.size))
    clear g9 hg hd hI hb HAd HC
    by_cases he : e = 0
    case neg =>
      have hz : (e == 0) = false := by simpa using he
      have E := Lib.hid (show mayP s key ⟨xt, xs, xd⟩ = e by rw [HE.out, if_pos he])
      clear HE
      go_wp2_with fail
      go_ret
      exact ⟨by rw [E.out]; rfl, HB3.out⟩
    subst he
    go_wp2_with fail
    refine (HAt.out _ HB3.out).mono ?_
    rintro e4 w4 ⟨rfl, hb⟩
    have HB4 := Lib.hid (HB3.out.trans (hb.mono HB3.out.size))
    clear hb HB3 HAt
    have s0 := (HH.out _ HB4.out).cel.cell (i := 0) rfl
    have hk := HKl.out
    cases bb with
    | true =>
      have E := Lib.hid (show mayP s key ⟨xt, xs, xd⟩ = 0 by rw [HE.out, if_neg (by simp), if_neg (by simp)])
      clear HE
      go_wp2_with fail
      go_ret
      exact ⟨by rw [E.out]; rfl, HB4.out⟩
    | false =>
      by_cases hf : 1024 ≤ K.length
      · have E := Lib.hid (show mayP s key ⟨xt, xs, xd⟩ = 2 by rw [HE.out, if_neg (by simp), if_pos ⟨rfl, hf⟩])
        have pf : (1024 : Int) ≤ (K.length : Int) := by omega
        clear HE hf
        go_wp2_with fail
        go_ret
        exact ⟨by rw [E.out]; rfl, HB4.out⟩
      · have E := Lib.hid (show mayP s key ⟨xt, xs, xd⟩ = 0 by rw [HE.out, if_neg (by simp), if_neg (fun h => hf h.2)])
        have pf : ¬ (1024 : Int) ≤ (K.length : Int) := by omega
        clear HE hf
        go_wp2_with fail
        go_ret
        exact ⟨by rw [E.out]; rfl, HB4.out⟩
end
end Sh
end Go.Proofs.YtbkanoblcojdfaaGreat

namespace Go.Proofs.YtbkanoblcojdfaaGreat
namespace Sh
open Go.RowKit Bk Ch Lt Rc Tr
attribute [local go_sem ↓] Go.wp_at_zero Go.wp_at_succ
attribute [local go_sem] floatUpon pick
section
variable {W : World} {F : Nat → Prop} {g : Nat} {A B C : Option Addr} {a b c : Nat} {K : List KI} {P : List RI} {s : Shf}
set_option maxRecDepth 20000 in
set_option maxHeartbeats 8000000 in
theorem rread_any (h : RAt W F g A B C a b c K P s) (hs : ShOk s) (key : ByteArray) (t : Int) :
    Calls Tryz.prog 65 #[.pointer (some ⟨g, 0, none⟩), .string key, .int .i64 t] W fun e w' => e = .returned (.tuple #[.int .i64 (readP s key t).1, .agg (vcs (readP s key t).2).toArray]) ∧ Below W.heap.size W w' := by
  have HC := Lib.hid (fun V (hb : Below W.heap.size W V) => rchain_any (h.below hb) hs.ks hs.kl key)
  have HHe := Lib.hid (fun V (hb : Below W.heap.size W V) => rheld_any (h.below hb) hs.pl key false)
  have HH := Lib.hid (fun V (hb : Below W.heap.size W V) => h.below hb)
  have hok := hs.kok.chain key
  have hat : atP (chainK s.k key) t = ((atV (chainK s.k key) t).1, (atV (chainK s.k key) t).2, 0) := by unfold atP; rw [if_neg (by rw [chk_zero hok]; simp)]
  have HE := Lib.hid (show readP s key t = if t < s.over then (4, noVr) else if heldB s key false = true then (3, noVr) else if (atV (chainK s.k key) t).2 = false then (0, noVr) else if (atV (chainK s.k key) t).1.dead = true then (2, (atV (chainK s.k key) t).1) else (1, (atV (chainK s.k key) t).1) from rfl)
  generalize chainK s.k key = L at HC hok HE hat
  have hT := fun (A' : Option Addr) (c' : Nat) V (hv : VrsAt V A' L) => Ch.rat_any A' c' L t V hv (chain32 hok) (ok_rng hok)
  obtain ⟨⟨xt, xs, xd⟩, bb, hx⟩ : ∃ x b, atV L t = (x, b) := ⟨_, _, rfl⟩
  rw [hat, hx] at hT
  rw [hx] at HE
  have HT : Hid (∀ (A' : Option Addr) (c' : Nat) (V : World), VrsAt V A' L → Calls Tryz.prog 116 #[.slice A' L.length c', .int .i64 t] V fun e' w' => e' = .returned (.tuple #[.agg #[.int .i64 xt, .string xs, .bool xd], .bool bb, .int .i64 0]) ∧ Below V.heap.size V w') := Lib.hid hT
  generalize heldB s key false = hh at HHe HE
  clear h hs hok hat hT hx
  go_enter Tryz.func65, Tryz.ntmps65
  go_upto_region 1 with fail
  have hR0 : Cel (W.alloc (.cells #[.int .i64 0, .string ⟨#[]⟩, .bool false] 77)) W.heap.size 77 [.int .i64 0, .string ⟨#[]⟩, .bool false] := (blk1 W _).2
  have hB0 : Below W.heap.size W (W.alloc (.cells #[.int .i64 0, .string ⟨#[]⟩, .bool false] 77)) := (Below.refl _ W).alloc (Nat.le_refl _) _
  generalize hW0 : W.alloc (.cells #[.int .i64 0, .string ⟨#[]⟩, .bool false] 77) = W0 at hR0 hB0 ⊢
  clear hW0
  have HR0 := Lib.hid hR0
  have HB0 := Lib.hid hB0
  have s3 := (HH.out _ hB0).cel.cell (i := 3) rfl
  clear hR0 hB0
  by_cases ho : t < s.over
  · have E := Lib.hid (show readP s key t = (4, noVr) by rw [HE.out, if_pos ho])
    have zq := fun i => HR0.out.free (i := i)
    have q0 := HR0.out.cell (i := 0) rfl
    have q1 := HR0.out.cell (i := 1) rfl
    have q2 := HR0.out.cell (i := 2) rfl
    clear HE
    go_wp2_with fail
    have HF := Lib.hid (set3_cel (v0 := .int .i64 0) (v1 := .string ⟨#[]⟩) (v2 := .bool false) HR0.out)
    have z0 := HF.out.cell (i := 0) rfl
    have z1 := HF.out.cell (i := 1) rfl
    have z2 := HF.out.cell (i := 2) rfl
    unfold set3 at z0 z1 z2
    exact bodyPost_ret (v := .tuple #[.int .i64 4, .agg #[.int .i64 0, .string ⟨#[]⟩, .bool false]]) (by simp [results, Tryz.results65, go_sem, z0, z1, z2]) rfl ⟨by rw [E.out]; rfl, set3_below HB0.out (Nat.le_refl _)⟩
  have HE2 := Lib.hid (show readP s key t = if hh = true then (3, noVr) else if bb = false then (0, noVr) else if xd = true then (2, ⟨xt, xs, xd⟩) else (1, ⟨xt, xs, xd⟩) by rw [HE.out, if_neg ho])
  clear HE
  go_wp2_with fail
  refine (HHe.out _ HB0.out).mono ?_
  rintro e1 w1 ⟨rfl, hw⟩
  obtain rfl : W0 = w1 := hw.symm
  clear hw HHe
  cases hh with
  | true =>
    have E := Lib.hid (show readP s key t = (3, noVr) by rw [HE2.out, if_pos rfl])
    have zq := fun i => HR0.out.free (i := i)
    have q0 := HR0.out.cell (i := 0) rfl
    have q1 := HR0.out.cell (i := 1) rfl
    have q2 := HR0.out.cell (i := 2) rfl
    clear HE2
    go_wp2_with fail
    have HF := Lib.hid (set3_cel (v0 := .int .i64 0) (v1 := .string ⟨#[]⟩) (v2 := .bool false) HR0.out)
    have z0 := HF.out.cell (i := 0) rfl
    have z1 := HF.out.cell (i := 1) rfl
    have z2 := HF.out.cell (i := 2) rfl
    unfold set3 at z0 z1 z2
    exact bodyPost_ret (v := .tuple #[.int .i64 3, .agg #[.int .i64 0, .string ⟨#[]⟩, .bool false]]) (by simp [results, Tryz.results65, go_sem, z0, z1, z2]) rfl ⟨by rw [E.out]; rfl, set3_below HB0.out (Nat.le_refl _)⟩
  | false =>
    have HE3 := Lib.hid (show readP s key t = if bb = false then (0, noVr) else if xd = true then (2, ⟨xt, xs, xd⟩) else (1, ⟨xt, xs, xd⟩) by rw [HE2.out, if_neg (by simp)])
    clear HE2
    go_wp2_with fail
    refine (HC.out _ HB0.out).mono ?_
    rintro e2 w2 ⟨v, rfl, ⟨A', c', rfl, hv⟩, hb⟩
    have HB2 := Lib.hid (HB0.out.trans (hb.mono HB0.out.size))
    have HR2 := Lib.hid (HR0.out.below hb)
    have HV := Lib.hid hv.vrs
    clear hb hv HC HR0 HB0 s3
    go_wp2_with fail
    refine (HT.out A' c' _ HV.out).mono ?_
    rintro e3 w3 ⟨rfl, hb⟩
    have hF3 : Cel (w3.alloc (.cells #[.int .i64 xt, .string xs, .bool xd] 77)) w3.heap.size 77 [.int .i64 xt, .string xs, .bool xd] := (blk1 w3 _).2
    have hbF : Below w3.heap.size w3 (w3.alloc (.cells #[.int .i64 xt, .string xs, .bool xd] 77)) := (Below.refl _ w3).alloc (Nat.le_refl _) _
    have hbb := hb.trans (hbF.mono hb.size)
    have HB4 := Lib.hid (HB2.out.trans (hbb.mono HB2.out.size))
    have HR4 := Lib.hid (HR2.out.below hbb)
    have HF4 := Lib.hid hF3
    clear hb hbb hbF hF3 HB2 HR2 HV HT
    go_upto_region 6 with fail
    generalize hG : w3.heap.size = G3 at HF4 ⊢
    generalize w3.alloc (.cells #[.int .i64 xt, .string xs, .bool xd] 77) = W4 at HF4 HB4 HR4 ⊢
    clear hG
    cases bb with
    | false =>
      have E := Lib.hid (show readP s key t = (0, noVr) by rw [HE3.out, if_pos rfl])
      have zq := fun i => HR4.out.free (i := i)
      have q0 := HR4.out.cell (i := 0) rfl
      have q1 := HR4.out.cell (i := 1) rfl
      have q2 := HR4.out.cell (i := 2) rfl
      clear HE3
      go_wp2_with fail
      have HF := Lib.hid (set3_cel (v0 := .int .i64 0) (v1 := .string ⟨#[]⟩) (v2 := .bool false) HR4.out)
      have z0 := HF.out.cell (i := 0) rfl
      have z1 := HF.out.cell (i := 1) rfl
      have z2 := HF.out.cell (i := 2) rfl
      unfold set3 at z0 z1 z2
      exact bodyPost_ret (v := .tuple #[.int .i64 0, .agg #[.int .i64 0, .string ⟨#[]⟩, .bool false]]) (by simp [results, Tryz.results65, go_sem, z0, z1, z2]) rfl ⟨by rw [E.out]; rfl, set3_below HB4.out (Nat.le_refl _)⟩
    | true =>
      have zq := fun i => HR4.out.free (i := i)
      have q0 := HR4.out.cell (i := 0) rfl
      have q1 := HR4.out.cell (i := 1) rfl
      have q2 := HR4.out.cell (i := 2) rfl
      have f0 := HF4.out.cell (i := 0) rfl
      have f1 := HF4.out.cell (i := 1) rfl
      have f2 := HF4.out.cell (i := 2) rfl
      have HF := Lib.hid (set3_cel (v0 := .int .i64 xt) (v1 := .string xs) (v2 := .bool xd) HR4.out)
      have HBF := Lib.hid (set3_below (R := W.heap.size) (v0 := .int .i64 xt) (v1 := .string xs) (v2 := .bool xd) HB4.out (Nat.le_refl _))
      cases xd with
      | true =>
        have E := Lib.hid (show readP s key t = (2, ⟨xt, xs, true⟩) by rw [HE3.out, if_neg (by simp), if_pos rfl])
        clear HE3
        go_upto_region 9 with fail
        go_region
        all_goals
          go_wp2_with fail
          have z0 := HF.out.cell (i := 0) rfl
          have z1 := HF.out.cell (i := 1) rfl
          have z2 := HF.out.cell (i := 2) rfl
          unfold set3 at z0 z1 z2
          exact bodyPost_ret (v := .tuple #[.int .i64 2, .agg #[.int .i64 xt, .string xs, .bool true]]) (by simp [results, Tryz.results65, go_sem, z0, z1, z2]) rfl ⟨by rw [E.out]; rfl, (by first | exact HBF.out.drew | exact HBF.out)⟩
      | false =>
        have E := Lib.hid (show readP s key t = (1, ⟨xt, xs, false⟩) by rw [HE3.out, if_neg (by simp), if_neg (by simp)])
        clear HE3
        go_upto_region 10 with fail
        go_region
        all_goals
          go_wp2_with fail
          have z0 := HF.out.cell (i := 0) rfl
          have z1 := HF.out.cell (i := 1) rfl
          have z2 := HF.out.cell (i := 2) rfl
          unfold set3 at z0 z1 z2
          exact bodyPost_ret (v := .tuple #[.int .i64 1, .agg #[.int .i64 xt, .string xs, .bool false]]) (by simp [results, Tryz.results65, go_sem, z0, z1, z2]) rfl ⟨by rw [E.out]; rfl, (by first | exact HBF.out.drew | exact HBF.out)⟩
end
end Sh
end Go.Proofs.YtbkanoblcojdfaaGreat
