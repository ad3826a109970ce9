/- Parts of the proof, joined: ChRef5; their conditions stand with each. -/
import Derived.Test.YtiobhbagjokpcaaGreatM14

/- Toward the document's Sweep of a chain: how many go, and a slice's tail; no condition. -/
namespace Go.Proofs.YtiobhbagjokpcaaGreat
namespace Ch
open Go.RowKit Bk

attribute [local go_sem ↓] Go.wp_at_zero Go.wp_at_succ
attribute [local go_sem] floatUpon pick

theorem go_zero {l : List Vr} {t : Int} (h : placeN l t = 0) : goN l t = 0 := by unfold goN; rw [low_none h]; rfl

theorem go_succ {l : List Vr} {t : Int} {k : Nat} (h : placeN l t = k + 1) (hk : k < l.length) : goN l t = if l[k].dead then k + 1 else k := by
  obtain ⟨hk', hl⟩ := low_last h
  unfold goN
  rw [hl, h]
  rfl

theorem VrsAt.drop {w : World} {ad : Addr} {l : List Vr} (h : VrsAt w (some ad) l) (n : Nat) : VrsAt w (some (ad.add (n * 3))) (l.drop n) := fun hp => by
  rw [List.length_drop] at hp
  obtain ⟨a', e, h2, h3⟩ := h (by omega)
  obtain rfl := Option.some.inj e
  refine ⟨_, rfl, by rw [st_block]; exact h2, fun i hi => ?_⟩
  rw [List.length_drop] at hi
  have := h3 (n + i) (by omega)
  rw [List.getElem_drop, Go.Deep.add_add, Go.Deep.add_add, Go.Deep.add_add]
  rw [show n * 3 + i * 3 = (n + i) * 3 by omega, show n * 3 + (i * 3 + 1) = (n + i) * 3 + 1 by omega, show n * 3 + (i * 3 + 2) = (n + i) * 3 + 2 by omega]
  exact this

theorem drop_off (w : World) (ad : Addr) (l : List Vr) (n : Nat) (h : VrsAt w (some ad) l) : VrsAt w (some (ad.add (n * 3))) (l.drop n) := h.drop n

theorem drop_none {w : World} {A : Option Addr} {l : List Vr} {n : Nat} (h : l.length ≤ n) : VrsAt w A (l.drop n) := fun hp => by rw [List.length_drop] at hp; omega

theorem VrsAt.take {w : World} {A : Option Addr} {l : List Vr} (h : VrsAt w A l) (n : Nat) : VrsAt w A (l.take n) := fun hp => by
  rw [List.length_take] at hp
  obtain ⟨ad, e, h2, h3⟩ := h (by omega)
  refine ⟨ad, e, h2, fun i hi => ?_⟩
  rw [List.length_take] at hi
  rw [List.getElem_take]
  exact h3 i (by omega)

set_option maxRecDepth 20000 in
theorem slice_from (A : Option Addr) (m c n : Nat) (hn : n ≤ m) (hc : m ≤ c) (hnil : A = none → m = 0 ∧ c = 0) : ∃ (A' : Option Addr) (c' : Nat),
    (∀ W, (Instr.slice 66 (.slice A m c) (some (.int .i64 (n : Int))) none none).run Tryz.prog W = .ok (.slice A' (m - n) c') W) ∧
    (∀ W (l : List Vr), l.length = m → VrsAt W A l → VrsAt W A' (l.drop n)) ∧ (A' = none → m - n = 0 ∧ c' = 0) ∧ m - n ≤ c' ∧ c' ≤ c := by
  obtain ⟨i1, hi', hz0', hz1', hz2'⟩ := info_parts Tryz.infoVer
  refine ⟨if c = n then A else A.map (·.add (n * 3)), c - n, fun W => ?_, fun W l hl h => ?_, fun h => ?_, by omega, by omega⟩
  · have e := run_slice_l (P := Tryz.prog) W 66 A m c (by kernel_rfl) .i64 (n : Int) (by omega) (by omega)
    rw [e, show Tryz.prog.elem 66 = 55 by kernel_rfl]
    simp [sizeOf, typeInfo, hi', hz1', sliced]
  · by_cases e : c = n
    · exact drop_none (by omega)
    · rw [if_neg e]
      cases A with
      | none => exact drop_none (by have := (hnil rfl).1; omega)
      | some ad => exact drop_off W ad l n h
  · by_cases e : c = n
    · rw [if_pos e] at h; have := hnil h; omega
    · rw [if_neg e] at h
      cases A with
      | none => have := hnil rfl; omega
      | some ad => simp at h

set_option maxRecDepth 20000 in
theorem slice_to (A : Option Addr) (m c n : Nat) (hn : n ≤ c) : ∀ W, (Instr.slice 66 (.slice A m c) none (some (.int .i64 (n : Int))) none).run Tryz.prog W = .ok (.slice A n c) W := fun W => by
  obtain ⟨i1, hi', hz0', hz1', hz2'⟩ := info_parts Tryz.infoVer
  have e := run_slice_h (P := Tryz.prog) W 66 A m c (by kernel_rfl) .i64 (n : Int) (by omega) (by omega)
  rw [e, show Tryz.prog.elem 66 = 55 by kernel_rfl]
  have ha : ∀ a : Addr, a.add 0 = a := fun a => by unfold Addr.add; rw [if_pos rfl]
  by_cases h : c = 0
  · simp [sizeOf, typeInfo, hi', sliced, h]
  · cases A with
    | none => simp [sizeOf, typeInfo, hi', sliced]
    | some a => simp [sizeOf, typeInfo, hi', sliced, ha]

/-- append onto an empty literal, three cells each: a row of its own, no old block written -/
theorem run_append_empty3 {P : Program} (w : World) (base : Nat) (t ty e : TypeId) (i : TypeInfo) (z : Value) (bytes : Nat) (ht : P.underlying t = some (.slice e)) (hi : P.info? e = some i) (hz : i.zero = some z)
    (hsize : i.size = 3) (hby : i.bytes = bytes) (hzs : z.cells.size = 3) (g : Nat) (hg : w.heap[g]? = some (.cells #[] e (0, 0))) (hbg : base ≤ g)
    (A : Option Addr) (m c : Nat) (news : List Value) (hl : news.length = m * 3) (hA : A = none → m = 0 ∧ c = 0) (hnews : ∀ ad, A = some ad → ∀ j u, news[j]? = some u → w.cell? (ad.add j) = some u) (h1 : ∀ u ∈ news, u.oneCell' = true)
    (h63 : m ≤ maxLen) (hbytes : m * bytes ≤ 140737488355328) :
    ∃ v' w', (Builtin.append_ #[t, t] ty #[.slice (some ⟨g, 0, none⟩) 0 0, .slice A m c]).run P w = .ok v' w' ∧ w'.ownsRow base e 3 v' m news ∧ Below w.heap.size w w' := by
  have hlt : g < w.heap.size := (Array.getElem?_eq_some_iff.1 hg).1
  have hown : w.ownsRow base e 3 (.slice (some ⟨g, 0, none⟩) 0 0) 0 [] := ⟨rfl, .inr ⟨g, 0, #[], rfl, hbg, hg, Nat.le_refl _, Nat.zero_le _, rfl, rfl⟩⟩
  cases A with
  | none =>
    obtain ⟨rfl, rfl⟩ := hA rfl
    obtain rfl : news = [] := List.eq_nil_of_length_eq_zero (by omega)
    exact ⟨_, _, run_append_owned_none (P := P) w base t ty e i 3 ht hi _ _ _ hown, hown, Below.refl _ _⟩
  | some ad =>
    by_cases hm : m = 0
    · subst hm
      obtain rfl : news = [] := List.eq_nil_of_length_eq_zero (by omega)
      have hr := run_append_room (P := P) w t ty e i ht hi g 0 0 #[] hg ad 0 c [] (by simp) (fun j u h => by simp at h) (fun u h => by simp at h) (by omega) (by simp)
      have he : (List.take (0 * i.size) (#[] : Array Value).toList ++ ([] : List Value) ++ List.drop (0 * i.size + ([] : List Value).length) (#[] : Array Value).toList).toArray = (#[] : Array Value) := by simp
      rw [he] at hr
      refine ⟨_, _, hr, ?_, ?_⟩
      · refine ⟨rfl, .inr ⟨g, 0, #[], rfl, hbg, ?_, Nat.le_refl _, Nat.zero_le _, rfl, rfl⟩⟩
        exact setRow_heap w g _ _ e _ hg
      · exact setRow_same hg
    · have hb2 : (0 + m) * bytes ≤ 140737488355328 := by rw [Nat.zero_add]; exact hbytes
      obtain ⟨v', w', hr, h2, h3, _, _⟩ := run_append_own_at (P := P) w base t ty e i z 3 bytes ht hi hz hsize hby hzs (by decide) _ 0 [] hown ad m c news hl (hnews ad rfl) h1 (by omega) hb2 (by omega)
      have hr2 := run_append_grow (P := P) w t ty e i z ht hi hz ⟨g, 0, none⟩ 0 0 [] (by simp) (fun j v h => by simp at h) ad m c news (by rw [hl, hsize]) (hnews ad rfl) (by omega) (by unfold maxLen at h63; omega) (growslice_fits (by omega) (by rw [hby]; exact hb2))
      rw [hr] at hr2
      simp only [Result.ok.injEq] at hr2
      obtain ⟨e1, e2⟩ := hr2
      rw [Nat.zero_add, List.nil_append] at h2
      refine ⟨v', w', hr, h2, ?_⟩
      rw [e2]
      exact (Below.refl _ w).drew.alloc (by simp) _

theorem own_base {w : World} {b b' : Nat} {e : TypeId} {k : Nat} {v : Value} {n : Nat} {xs : List Value} (h : w.ownsRow b e k v n xs) (hb : b' ≤ b) : w.ownsRow b' e k v n xs := by
  obtain ⟨h1, h2⟩ := h
  refine ⟨h1, ?_⟩
  rcases h2 with h2 | ⟨g, cap, cur, h2, h3, h4⟩
  · exact .inl h2
  · exact .inr ⟨g, cap, cur, h2, Nat.le_trans hb h3, h4⟩

/-- what Add and Sweep answer: a row of the call's own, the error -/
def RowAns (w : World) (r : List Vr × Int) (e : Ending) (w' : World) : Prop :=
  ∃ v : Value, e = .returned (.tuple #[v, .int .i64 r.2]) ∧ w'.ownsRow w.heap.size 55 3 v r.1.length (vrV r.1) ∧ Below w.heap.size w w'

set_option maxRecDepth 20000 in
set_option maxHeartbeats 4000000 in
theorem rsweep_any (A : Option Addr) (c : Nat) (l : List Vr) (t : Int) (w : World) (h : VrsAt w A l) (hn : l.length * 32 ≤ 140737488351232) (hr : ∀ x ∈ l, VrRng x) (hnil : A = none → l.length = 0 ∧ c = 0) (hc : l.length ≤ c) (_hcm : c ≤ maxLen) :
    Calls Tryz.prog 75 #[.slice A l.length c, .int .i64 t] w (RowAns w (sweepP l t)) := by
  obtain ⟨i1, hi', hz0', hz1', hz2'⟩ := info_parts Tryz.infoVer
  have HC := Lib.hid (rcheck_any A c l w h hn hr)
  have HP := Lib.hid (fun W (hb : Below w.heap.size w W) => rplace_any A c l t W (h.below hb) hn)
  have HA := Lib.hid h
  have HSl := Lib.hid (fun n (hn : n ≤ l.length) => slice_from A l.length c n hn hc hnil)
  have hlen : (l.length : Int) ≤ 4398046511104 := by omega
  have E := Lib.hid (show sweepP l t = if (chkP l).2 ≠ 0 then ([], (chkP l).2) else (sweepL l t, 0) from rfl)
  obtain ⟨a, e, hae⟩ : ∃ a e, chkP l = (a, e) := ⟨_, _, rfl⟩
  rw [hae] at HC E
  simp only at HC E
  clear h hr hae hnil hc
  go_enter Tryz.func75, Tryz.ntmps75
  go_wp2_with fail
  refine HC.out.mono ?_
  rintro e1 w1 ⟨rfl, hb⟩
  have HB := Lib.hid hb
  clear HC hb
  by_cases he : e = 0
  · subst he
    have HLast : Hid (∀ k, goN l t = k → k ≤ l.length → ∀ w2, Below w.heap.size w w2 → ∀ v w', w'.ownsRow w2.heap.size 55 3 v (l.length - k) (vrV (l.drop k)) → Below w2.heap.size w2 w' → RowAns w (sweepP l t) (.returned (.tuple #[v, .int .i64 0])) w') := Lib.hid (fun k hk hkl w2 hb2 v w' ho hb => by
      have hp : sweepP l t = (l.drop k, 0) := by rw [E.out, ← hk]; rfl
      rw [hp]
      refine ⟨v, rfl, ?_, hb2.trans (hb.mono hb2.size)⟩
      rw [List.length_drop]
      exact own_base ho hb2.size)
    go_wp2_with fail
    refine (HP.out _ HB.out).mono ?_
    rintro e2 w2 ⟨rfl, hb⟩
    have HB2 := Lib.hid (HB.out.trans (hb.mono HB.out.size))
    clear hb HB E
    have hpl := place_le l t
    obtain ⟨k, hgo, hkl, hway⟩ : ∃ k, goN l t = k ∧ k ≤ l.length ∧ (placeN l t = k ∧ (k = 0 ∨ ∃ (h0 : 0 < k) (h1 : k - 1 < l.length), (l[k - 1]'h1).dead = true) ∨ ∃ h1 : k < l.length, placeN l t = k + 1 ∧ l[k].dead = false) := by
      cases hp : placeN l t with
      | zero => exact ⟨0, go_zero hp, Nat.zero_le _, .inl ⟨rfl, .inl rfl⟩⟩
      | succ j =>
        have hj : j < l.length := by omega
        have hg := go_succ hp hj
        by_cases hd : l[j].dead = true
        · rw [if_pos hd] at hg
          exact ⟨j + 1, hg, by omega, .inl ⟨rfl, .inr ⟨by omega, by simpa using hj, by simpa using hd⟩⟩⟩
        · rw [if_neg hd] at hg
          exact ⟨j, hg, by omega, .inr ⟨hj, rfl, by simpa using hd⟩⟩
    obtain ⟨A', c', hsl, hdr, hnil', hcl, hcc⟩ := HSl.out k hkl
    have HSl2 := Lib.hid hsl
    have HEnd := Lib.hid (HLast.out k hgo hkl w2 HB2.out)
    have HDr := Lib.hid (hdr w2 l rfl (HA.out.below HB2.out))
    have HNil := Lib.hid hnil'
    have HDl := Lib.hid (show (vrV (l.drop k)).length = (l.length - k) * 3 by rw [vrV_len, List.length_drop])
    have hk0 : (k : Int) ≤ (l.length : Int) := by omega
    have hm1 : (l.length - k : Nat) * 32 ≤ 140737488355328 := by omega
    clear HSl HLast hdr hnil' hsl
    rcases hway with ⟨hp, hz | ⟨h0, h1, hd⟩⟩ | ⟨h1, hp, hd⟩
    · have hz' : ¬ (k : Int) > 0 := by omega
      rw [hp]
      clear hz hp
      have HO0 := Lib.hid (show (w2.alloc (.cells #[] 55)).ownsRow w2.heap.size 55 3 (.slice (some ⟨w2.heap.size, 0, none⟩) 0 0) 0 [] from World.ownsRow_lit (base := w2.heap.size) (e := 55) (size := 3) w2 #[] 0 (Nat.le_refl _) (by unfold maxLen; omega) rfl)
      have sl := HSl2.out
      go_wp2_with (at_builtin; refine wpList_append_opt3 rfl _ _ 66 rfl w2.heap.size 55 i1 (.agg #[.int .i64 0, .string ⟨#[]⟩, .bool false]) 32 Tryz.underlying66 hi' hz0' hz1' hz2' rfl _ 0 _ rfl HO0.out A' (l.length - k) c' (vrV (l.drop k)) rfl HDl.out HNil.out ?c1 ?c2 ?c3 ?c4 (by simp) ?_)
      case c1 => exact fun ad e => by subst e; exact (HDr.out.alloc _).news
      case c2 => exact vrV_one _
      case c3 => unfold maxLen; omega
      case c4 => omega
      intro v' w3 ho hg hat
      have hb3 : Below w2.heap.size w2 w3 := ((Below.refl _ w2).alloc (Nat.le_refl _) (.cells #[] 55)).grown hg (by simp) (fun k hk => (HO0.out.lt k hk).1)
      try simp only [Nat.zero_add, List.nil_append] at ho
      have HF := Lib.hid (HEnd.out _ _ ho hb3)
      clear ho hg hat hb3 HO0 sl
      go_wp2_with fail
      go_ret2
      exact HF.out
    · obtain ⟨j, rfl⟩ : ∃ j, k = j + 1 := ⟨k - 1, by omega⟩
      have h1' : j < l.length := by omega
      have hd' : l[j].dead = true := by simpa using hd
      clear hd h1
      obtain ⟨ad, rfl, hab, hcl⟩ := (HA.out.below HB2.out) (by omega)
      obtain ⟨-, -, x2⟩ := hcl j h1'
      rw [hd'] at x2
      rw [← add_field _ _ _ (by omega)] at x2
      have hc1 : ((j + 1 : Nat) : Int) - 1 = (j : Int) := by omega
      have hc2 : (j : Int) < (l.length : Int) := by omega
      have hc3 : ((j + 1 : Nat) : Int) > 0 := by omega
      rw [hp]
      generalize hK : j + 1 = K at *
      clear hab hcl hp h0 hd' h1' hK
      have HO0 := Lib.hid (show (w2.alloc (.cells #[] 55)).ownsRow w2.heap.size 55 3 (.slice (some ⟨w2.heap.size, 0, none⟩) 0 0) 0 [] from World.ownsRow_lit (base := w2.heap.size) (e := 55) (size := 3) w2 #[] 0 (Nat.le_refl _) (by unfold maxLen; omega) rfl)
      have sl := HSl2.out
      go_wp2_with (at_builtin; refine wpList_append_opt3 rfl _ _ 66 rfl w2.heap.size 55 i1 (.agg #[.int .i64 0, .string ⟨#[]⟩, .bool false]) 32 Tryz.underlying66 hi' hz0' hz1' hz2' rfl _ 0 _ rfl HO0.out A' (l.length - K) c' (vrV (l.drop K)) rfl HDl.out HNil.out ?c1 ?c2 ?c3 ?c4 (by simp) ?_)
      case c1 => exact fun ad e => by subst e; exact (HDr.out.alloc _).news
      case c2 => exact vrV_one _
      case c3 => unfold maxLen; omega
      case c4 => omega
      intro v' w3 ho hg hat
      have hb3 : Below w2.heap.size w2 w3 := ((Below.refl _ w2).alloc (Nat.le_refl _) (.cells #[] 55)).grown hg (by simp) (fun k hk => (HO0.out.lt k hk).1)
      try simp only [Nat.zero_add, List.nil_append] at ho
      have HF := Lib.hid (HEnd.out _ _ ho hb3)
      clear ho hg hat hb3 HO0 sl
      go_wp2_with fail
      go_ret2
      exact HF.out
    · obtain ⟨ad, rfl, hab, hcl⟩ := (HA.out.below HB2.out) (by omega)
      obtain ⟨-, -, x2⟩ := hcl k h1
      rw [hd] at x2
      rw [← add_field _ _ _ (by omega)] at x2
      have hc1 : ((k + 1 : Nat) : Int) - 1 = (k : Int) := by omega
      have hc2 : (k : Int) < (l.length : Int) := by omega
      have hc3 : ((k + 1 : Nat) : Int) > 0 := by omega
      rw [hp]
      generalize hK : k + 1 = K at *
      clear hab hcl hp hd h1 hK
      have HO0 := Lib.hid (show (w2.alloc (.cells #[] 55)).ownsRow w2.heap.size 55 3 (.slice (some ⟨w2.heap.size, 0, none⟩) 0 0) 0 [] from World.ownsRow_lit (base := w2.heap.size) (e := 55) (size := 3) w2 #[] 0 (Nat.le_refl _) (by unfold maxLen; omega) rfl)
      have sl := HSl2.out
      go_wp2_with (at_builtin; refine wpList_append_opt3 rfl _ _ 66 rfl w2.heap.size 55 i1 (.agg #[.int .i64 0, .string ⟨#[]⟩, .bool false]) 32 Tryz.underlying66 hi' hz0' hz1' hz2' rfl _ 0 _ rfl HO0.out A' (l.length - k) c' (vrV (l.drop k)) rfl HDl.out HNil.out ?c1 ?c2 ?c3 ?c4 (by simp) ?_)
      case c1 => exact fun ad e => by subst e; exact (HDr.out.alloc _).news
      case c2 => exact vrV_one _
      case c3 => unfold maxLen; omega
      case c4 => omega
      intro v' w3 ho hg hat
      have hb3 : Below w2.heap.size w2 w3 := ((Below.refl _ w2).alloc (Nat.le_refl _) (.cells #[] 55)).grown hg (by simp) (fun k hk => (HO0.out.lt k hk).1)
      try simp only [Nat.zero_add, List.nil_append] at ho
      have HF := Lib.hid (HEnd.out _ _ ho hb3)
      clear ho hg hat hb3 HO0 sl
      go_wp2_with fail
      go_ret2
      exact HF.out
  · have E2 := Lib.hid (show sweepP l t = ([], e) by rw [E.out, if_pos he])
    have hz : (e == 0) = false := by simpa using he
    clear E
    go_wp2_with fail
    go_ret2
    exact ⟨_, by rw [E2.out]; rfl, by rw [E2.out]; exact World.ownsRow_nil _ _ _ _, HB.out⟩

end Ch
end Go.Proofs.YtiobhbagjokpcaaGreat
