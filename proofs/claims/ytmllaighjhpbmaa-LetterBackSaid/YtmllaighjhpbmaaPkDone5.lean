/- What the landed package reads of lists: readList of numbers and of texts; contracts; no condition but the range. -/
import Derived.Test.YtmllaighjhpbmaaPkDone4
namespace Go.Proofs.Ytmllaighjhpbmaa
namespace Pk
open Go.RowKit Bk

attribute [local go_sem ↓] Go.wp_at_zero Go.wp_at_succ
attribute [local go_sem] floatUpon pick

theorem goN_more2 {O : List Int} {k : Nat} {z : Int} {L r : List UInt8} (h : sgnF L = .ok (z, r)) : goN O (k + 1) L = goN (O ++ [z]) k r := by
  unfold sgnF at h
  cases h1 : numF L with
  | error e => rw [h1] at h; cases h
  | ok x =>
    obtain ⟨n, r1⟩ := x
    rw [h1] at h
    simp only [Except.ok.injEq, Prod.mk.injEq] at h
    obtain ⟨rfl, rfl⟩ := h
    exact goN_more h1

theorem goN_err2 {O : List Int} {k : Nat} {L : List UInt8} {e : Er} (h : sgnF L = .error e) : goN O (k + 1) L = .error e := by
  unfold sgnF at h
  cases h1 : numF L with
  | error e2 => rw [h1] at h; cases h; exact goN_err h1
  | ok x => obtain ⟨n, r1⟩ := x; rw [h1] at h; cases h

/-- a count, and so many signed numbers -/
def intsF (L : List UInt8) : Except Er (List Int × List UInt8) :=
  match cnt 1024 L with
  | .error e => .error e
  | .ok (k, r) => numsF k r

/-- a count, and so many texts -/
def txtsF (L : List UInt8) : Except Er (List ByteArray × List UInt8) :=
  match cnt 1024 L with
  | .error e => .error e
  | .ok (k, r) => textsF k r

theorem intsF_err {L : List UInt8} {e : Er} (h : cnt 1024 L = .error e) : intsF L = .error e := by unfold intsF; rw [h]
theorem intsF_ok {L r : List UInt8} {k : Nat} (h : cnt 1024 L = .ok (k, r)) : intsF L = goN [] (k - 0) r := by unfold intsF; rw [h, Nat.sub_zero, goN_start]
theorem txtsF_err {L : List UInt8} {e : Er} (h : cnt 1024 L = .error e) : txtsF L = .error e := by unfold txtsF; rw [h]
theorem txtsF_ok {L r : List UInt8} {k : Nat} (h : cnt 1024 L = .ok (k, r)) : txtsF L = goT [] (k - 0) r := by unfold txtsF; rw [h, Nat.sub_zero, goT_start]

theorem decL_lists (L : List UInt8) : decL L = match intsF L with
    | .error e => .error e
    | .ok (ns, r) => match txtsF r with
      | .error e => .error e
      | .ok (ts, r4) => if r4 = [] then .ok (ns, ts) else .error (.bad r4.length 3) := by
  unfold decL intsF
  cases cnt 1024 L with
  | error e => rfl
  | ok x =>
    obtain ⟨k, r1⟩ := x
    simp only
    cases numsF k r1 with
    | error e => rfl
    | ok y =>
      obtain ⟨ns, r2⟩ := y
      simp only
      unfold txtsF
      cases cnt 1024 r2 with
      | error e => rfl
      | ok z => rfl

/-- what a reading of a list of numbers answers -/
def IntsAns (s : ByteArray) (a : Nat) (w : World) : Ending → World → Prop := fun e w' =>
  ∃ (v : Value) (ns : List Int) (p c : Nat), e = .returned (.tuple #[v, .int .i64 (p : Int), .int .i64 (c : Int)]) ∧ w'.ownsRow w.heap.size 3 1 v ns.length (intV ns) ∧ Sd s (intsF (s.data.toList.drop a)) [] ns p c ∧ Below w.heap.size w w'

def TxtsAns (s : ByteArray) (a : Nat) (w : World) : Ending → World → Prop := fun e w' =>
  ∃ (v : Value) (ts : List ByteArray) (p c : Nat), e = .returned (.tuple #[v, .int .i64 (p : Int), .int .i64 (c : Int)]) ∧ w'.ownsRow w.heap.size 9 1 v ts.length (strV ts) ∧ Sd s (txtsF (s.data.toList.drop a)) [] ts p c ∧ Below w.heap.size w w'

set_option maxRecDepth 20000 in
set_option maxHeartbeats 2000000 in
theorem readInts_any (s : ByteArray) (a : Nat) (w : World) (ha : a ≤ s.size) (hs : s.size ≤ 1000000000000000) :
    Calls Try.prog 52 #[.string s, .int .i64 (a : Int), .func (.func 53) #[] #[]] w (IntsAns s a w) := by
  obtain ⟨i1, hi', hz0', hz1', hz2'⟩ := info_parts Try.infoInt
  have hB : (s.size : Int) ≤ 1000000000000000 := by omega
  obtain ⟨many, a0, c0, hv0, hs0, hmany⟩ := cnt_said s a 1024 ha
  have hC : ∀ W, Calls Try.prog 65 #[.int .i64 1024, .string s, .int .i64 (a : Int)] W fun e w' => e = .returned (.tuple #[.int .i64 (many : Int), .int .i64 (a0 : Int), .int .i64 (c0 : Int)]) ∧ w' = W := fun W => by
    have h := upTo_any s a 1024 W ha hs (by omega)
    rw [hv0] at h
    exact h
  have HC := Lib.hid hC
  have pmany : (many : Int) ≤ 1024 := by omega
  have HMk : Hid (∀ (v : Value) (ns : List Int) (p c : Nat) (w' : World), w'.ownsRow w.heap.size 3 1 v ns.length (intV ns) → Sd s (intsF (s.data.toList.drop a)) [] ns p c → Below w.heap.size w w' → IntsAns s a w (.returned (.tuple #[v, .int .i64 (p : Int), .int .i64 (c : Int)])) w') := Lib.hid (fun v ns p c w' h1 h2 h3 => ⟨v, ns, p, c, rfl, h1, h2, h3⟩)
  have hItem := fun b (hb : b ≤ s.size) => readSigned_any s b hb hs
  have HItem := Lib.hid hItem
  clear hC hv0 hItem hs
  rcases hs0 with ⟨rfl, hp0, _, hok⟩ | ⟨hc, hc5, hp, _, er, herr, hpe, hce⟩
  · have HF := Lib.hid (intsF_ok hok)
    clear hok
    go_enter Try.func52, Try.ntmps52
    go_wp2_with fail
    refine (HC.out _).mono ?_
    rintro e w' ⟨rfl, rfl⟩
    clear HC
    go_wp2_with fail
    obtain ⟨wo, rfl⟩ : ∃ wo : World, wo = w' := ⟨_, rfl⟩
    go_loopw [6, 7, 23] (fun v x i wr => ∃ (j p : Nat) (O : List Int) (u : Value), u = v ∧ j ≤ many ∧ p ≤ s.size ∧ O.length = j ∧ i = .int .i64 (j : Int) ∧ x = .int .i64 (p : Int) ∧ Hid (intsF (s.data.toList.drop a) = goN O (many - j) (s.data.toList.drop p)) ∧ Hid (wr.ownsRow wo.heap.size 3 1 v j (intV O)) ∧ Hid (Below wo.heap.size wo wr)) (fun _ _ i _ => many - (intOf i).toNat)
    case atStart => exact ⟨0, a0, [], _, rfl, by omega, hp0, rfl, rfl, rfl, HF.out, World.ownsRow_nil _ _ _ _, Below.refl _ _⟩
    case round =>
      obtain ⟨j, p, O, u, rfl, hj, hp, hOl, rfl, rfl, hst, hown, hbel⟩ := hrel
      clear HF
      have pp : (p : Int) ≤ (s.size : Int) := by omega
      by_cases hlt : j < many
      · have pj : (j : Int) < (many : Int) := by omega
        have hst2 := hst.out
        rw [show many - j = (many - (j + 1)) + 1 by omega] at hst2
        obtain ⟨z, q, c, hsd, hcall⟩ := HItem.out p hp
        have HR := Lib.hid hcall
        have hin := hsd.in
        clear hcall hst
        by_cases hc0 : c = 0
        · subst hc0
          have hok : sgnF (s.data.toList.drop p) = .ok (z, s.data.toList.drop q) := by
            rcases hsd with ⟨_, _, h⟩ | ⟨h, _⟩
            · exact h
            · exact absurd rfl h
          have HS := Lib.hid (hst2.trans (goN_more2 hok))
          have HSn := Lib.hid (intV_snoc O z)
          have hq := hin.1
          clear hsd hok hst2 hin
          go_wp2_with fail
          refine (HR.out _).mono ?_
          rintro e w2 ⟨rfl, rfl⟩
          go_wp2_with (at_builtin; refine wpList_append_own_at _ rfl _ _ 46 rfl wo.heap.size 3 i1 (.int .i64 0) 1 8 Try.underlying46 hi' hz0' hz1' hz2' rfl (by decide) _ _ _ rfl (hown.out.alloc _) ⟨w2.heap.size, 0, none⟩ 1 1 [.int .i64 z] rfl rfl ?c1 ?c2 ?c3 ?c4 ?c5 ?_)
          case c1 => exact cell_one_new _ _ _
          case c2 => intro u hu; simp at hu; subst hu; rfl
          case c3 => unfold maxLen; omega
          case c4 => omega
          case c5 => have := hbel.out.size; simp; omega
          intro v' w5 hown' hgrow _ hat
          have HB5 := Lib.hid (below_append hown.out hbel.out (Nat.le_refl _) hgrow)
          rw [← HSn.out] at hown'
          have HO5 := Lib.hid hown'
          clear hown' hgrow hat hown hbel
          go_wp2_with fail
          go_roundw
          case rel => exact ⟨j + 1, q, O ++ [z], _, rfl, by omega, hq, by rw [List.length_append, List.length_singleton, hOl], by go_num, rfl, HS.out, HO5.out, HB5.out⟩
          case measure => simp [intOf]; omega
        · have HS : Hid (Sd s (intsF (s.data.toList.drop a)) [] [] q c) := by
            rcases hsd with ⟨h, _⟩ | ⟨h1, h2, h3, _, er, h4, h5, h6⟩
            · exact absurd h hc0
            · exact .inr ⟨h1, h2, h3, rfl, er, hst2.trans (goN_err2 h4), h5, h6⟩
          have pne : ((c : Int) != 0) = true := by simp; omega
          clear hsd hst2 hin hc0
          go_wp2_with fail
          refine (HR.out _).mono ?_
          rintro e w2 ⟨rfl, rfl⟩
          go_wp2_with fail
          go_ret3
          exact HMk.out _ [] q c _ (World.ownsRow_nil _ _ _ _) HS.out hbel.out
      · obtain rfl : j = many := by omega
        have hst2 := hst.out
        rw [Nat.sub_self, goN_done] at hst2
        have HS : Hid (Sd s (intsF (s.data.toList.drop a)) [] O p 0) := .inl ⟨rfl, hp, hst2⟩
        have HO : Hid (wr.ownsRow wo.heap.size 3 1 u O.length (intV O)) := by rw [hOl]; exact hown.out
        clear hst hst2 hown
        go_wp2_with fail
        go_ret3
        exact HMk.out _ O p 0 _ HO.out HS.out hbel.out
  · have HS : Hid (Sd s (intsF (s.data.toList.drop a)) [] [] a0 c0) := .inr ⟨hc, hc5, hp, rfl, er, intsF_err herr, hpe, hce⟩
    have pne : ((c0 : Int) != 0) = true := by simp; omega
    clear herr hpe hce hc
    go_enter Try.func52, Try.ntmps52
    go_wp2_with fail
    refine (HC.out _).mono ?_
    rintro e w' ⟨rfl, rfl⟩
    go_wp2_with fail
    go_ret3
    exact HMk.out _ [] a0 c0 _ (World.ownsRow_nil _ _ _ _) HS.out (Below.refl _ _)

set_option maxRecDepth 20000 in
set_option maxHeartbeats 2000000 in
theorem readTexts_any (s : ByteArray) (a : Nat) (w : World) (ha : a ≤ s.size) (hs : s.size ≤ 1000000000000000) :
    Calls Try.prog 54 #[.string s, .int .i64 (a : Int), .func (.func 55) #[] #[]] w (TxtsAns s a w) := by
  obtain ⟨i1, hi', hz0', hz1', hz2'⟩ := info_parts Try.infoStr
  have hB : (s.size : Int) ≤ 1000000000000000 := by omega
  obtain ⟨many, a0, c0, hv0, hs0, hmany⟩ := cnt_said s a 1024 ha
  have hC : ∀ W, Calls Try.prog 65 #[.int .i64 1024, .string s, .int .i64 (a : Int)] W fun e w' => e = .returned (.tuple #[.int .i64 (many : Int), .int .i64 (a0 : Int), .int .i64 (c0 : Int)]) ∧ w' = W := fun W => by
    have h := upTo_any s a 1024 W ha hs (by omega)
    rw [hv0] at h
    exact h
  have HC := Lib.hid hC
  have pmany : (many : Int) ≤ 1024 := by omega
  have HMk : Hid (∀ (v : Value) (ns : List ByteArray) (p c : Nat) (w' : World), w'.ownsRow w.heap.size 9 1 v ns.length (strV ns) → Sd s (txtsF (s.data.toList.drop a)) [] ns p c → Below w.heap.size w w' → TxtsAns s a w (.returned (.tuple #[v, .int .i64 (p : Int), .int .i64 (c : Int)])) w') := Lib.hid (fun v ns p c w' h1 h2 h3 => ⟨v, ns, p, c, rfl, h1, h2, h3⟩)
  have hItem := fun b (hb : b ≤ s.size) => readText_any s b hb hs
  have HItem := Lib.hid hItem
  clear hC hv0 hItem hs
  rcases hs0 with ⟨rfl, hp0, _, hok⟩ | ⟨hc, hc5, hp, _, er, herr, hpe, hce⟩
  · have HF := Lib.hid (txtsF_ok hok)
    clear hok
    go_enter Try.func54, Try.ntmps54
    go_wp2_with fail
    refine (HC.out _).mono ?_
    rintro e w' ⟨rfl, rfl⟩
    clear HC
    go_wp2_with fail
    obtain ⟨wo, rfl⟩ : ∃ wo : World, wo = w' := ⟨_, rfl⟩
    go_loopw [6, 7, 23] (fun v x i wr => ∃ (j p : Nat) (O : List ByteArray) (u : Value), u = v ∧ j ≤ many ∧ p ≤ s.size ∧ O.length = j ∧ i = .int .i64 (j : Int) ∧ x = .int .i64 (p : Int) ∧ Hid (txtsF (s.data.toList.drop a) = goT O (many - j) (s.data.toList.drop p)) ∧ Hid (wr.ownsRow wo.heap.size 9 1 v j (strV O)) ∧ Hid (Below wo.heap.size wo wr)) (fun _ _ i _ => many - (intOf i).toNat)
    case atStart => exact ⟨0, a0, [], _, rfl, by omega, hp0, rfl, rfl, rfl, HF.out, World.ownsRow_nil _ _ _ _, Below.refl _ _⟩
    case round =>
      obtain ⟨j, p, O, u, rfl, hj, hp, hOl, rfl, rfl, hst, hown, hbel⟩ := hrel
      clear HF
      have pp : (p : Int) ≤ (s.size : Int) := by omega
      by_cases hlt : j < many
      · have pj : (j : Int) < (many : Int) := by omega
        have hst2 := hst.out
        rw [show many - j = (many - (j + 1)) + 1 by omega] at hst2
        obtain ⟨z, q, c, _hz, hsd, hcall⟩ := HItem.out p hp
        have HR := Lib.hid hcall
        have hin := hsd.in
        clear hcall hst
        by_cases hc0 : c = 0
        · subst hc0
          have hok : textF (s.data.toList.drop p) = .ok (z, s.data.toList.drop q) := by
            rcases hsd with ⟨_, _, h⟩ | ⟨h, _⟩
            · exact h
            · exact absurd rfl h
          have HS := Lib.hid (hst2.trans (goT_more hok))
          have HSn := Lib.hid (strV_snoc2 O z)
          have hq := hin.1
          clear hsd hok hst2 hin
          go_wp2_with fail
          refine (HR.out _).mono ?_
          rintro e w2 ⟨rfl, hb⟩
          have HO2 := Lib.hid (st_keep hown.out hb)
          have HL2 := Lib.hid (hbel.out.trans (hb.mono hbel.out.size))
          clear hb
          go_wp2_with (at_builtin; refine wpList_append_own_at _ rfl _ _ 22 rfl wo.heap.size 9 i1 (.string ⟨#[]⟩) 1 16 Try.underlying22 hi' hz0' hz1' hz2' rfl (by decide) _ _ _ rfl (HO2.out.alloc _) ⟨w2.heap.size, 0, none⟩ 1 1 [.string z] rfl rfl ?c1 ?c2 ?c3 ?c4 ?c5 ?_)
          case c1 => exact cell_one_new _ _ _
          case c2 => intro u hu; simp at hu; subst hu; rfl
          case c3 => unfold maxLen; omega
          case c4 => omega
          case c5 => have := HL2.out.size; simp; omega
          intro v' w5 hown' hgrow _ hat
          have HB5 := Lib.hid (below_append HO2.out HL2.out (Nat.le_refl _) hgrow)
          rw [← HSn.out] at hown'
          have HO5 := Lib.hid hown'
          clear hown' hgrow hat hown hbel
          go_wp2_with fail
          go_roundw
          case rel => exact ⟨j + 1, q, O ++ [z], _, rfl, by omega, hq, by rw [List.length_append, List.length_singleton, hOl], by go_num, rfl, HS.out, HO5.out, HB5.out⟩
          case measure => simp [intOf]; omega
        · have HS : Hid (Sd s (txtsF (s.data.toList.drop a)) [] [] q c) := by
            rcases hsd with ⟨h, _⟩ | ⟨h1, h2, h3, _, er, h4, h5, h6⟩
            · exact absurd h hc0
            · exact .inr ⟨h1, h2, h3, rfl, er, hst2.trans (goT_err h4), h5, h6⟩
          have pne : ((c : Int) != 0) = true := by simp; omega
          clear hsd hst2 hin hc0
          go_wp2_with fail
          refine (HR.out _).mono ?_
          rintro e w2 ⟨rfl, hb⟩
          have HL2 := Lib.hid (hbel.out.trans (hb.mono hbel.out.size))
          clear hb
          go_wp2_with fail
          go_ret3
          exact HMk.out _ [] q c _ (World.ownsRow_nil _ _ _ _) HS.out HL2.out
      · obtain rfl : j = many := by omega
        have hst2 := hst.out
        rw [Nat.sub_self, goT_done] at hst2
        have HS : Hid (Sd s (txtsF (s.data.toList.drop a)) [] O p 0) := .inl ⟨rfl, hp, hst2⟩
        have HO : Hid (wr.ownsRow wo.heap.size 9 1 u O.length (strV O)) := by rw [hOl]; exact hown.out
        clear hst hst2 hown
        go_wp2_with fail
        go_ret3
        exact HMk.out _ O p 0 _ HO.out HS.out hbel.out
  · have HS : Hid (Sd s (txtsF (s.data.toList.drop a)) [] [] a0 c0) := .inr ⟨hc, hc5, hp, rfl, er, txtsF_err herr, hpe, hce⟩
    have pne : ((c0 : Int) != 0) = true := by simp; omega
    clear herr hpe hce hc
    go_enter Try.func54, Try.ntmps54
    go_wp2_with fail
    refine (HC.out _).mono ?_
    rintro e w' ⟨rfl, rfl⟩
    go_wp2_with fail
    go_ret3
    exact HMk.out _ [] a0 c0 _ (World.ownsRow_nil _ _ _ _) HS.out (Below.refl _ _)

end Pk
end Go.Proofs.Ytmllaighjhpbmaa
