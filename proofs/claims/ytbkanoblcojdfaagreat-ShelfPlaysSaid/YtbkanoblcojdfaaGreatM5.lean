/- Parts of the proof, joined: ChRef4, ChRef5, ChRef6, LtBook, LtLaw, LtCopy; their conditions stand with each. -/
import Derived.Test.YtbkanoblcojdfaaGreatM2
import Derived.Test.YtbkanoblcojdfaaGreatM3
import Derived.Test.YtbkanoblcojdfaaGreatM4

namespace Go.Proofs.YtbkanoblcojdfaaGreat
namespace Ch
open Go.RowKit Bk
attribute [local go_sem ↓] Go.wp_at_zero Go.wp_at_succ
attribute [local go_sem] floatUpon pick
theorem low_take (l : List Vr) (t : Int) : lowL l t = l.take (placeN l t) := List.prefix_iff_eq_take.1 (List.takeWhile_prefix _)
theorem place_le (l : List Vr) (t : Int) : placeN l t ≤ l.length := (List.takeWhile_prefix _).length_le
theorem low_last {l : List Vr} {t : Int} {k : Nat} (h : placeN l t = k + 1) : ∃ hk : k < l.length, (lowL l t).getLast? = some l[k] := by
  have hl := place_le l t
  refine ⟨by omega, ?_⟩
  rw [low_take, h, List.getLast?_eq_getElem?, List.length_take, List.getElem?_take, Nat.min_eq_left (by omega), if_pos (by omega), Nat.add_sub_cancel, List.getElem?_eq_getElem (by omega)]
theorem low_none {l : List Vr} {t : Int} (h : placeN l t = 0) : lowL l t = [] := by rw [low_take, h, List.take_zero]
def set3 (W : World) (R : Nat) (v0 v1 v2 : Value) : World := ((W.setCell ⟨R, 0, none⟩ v0).setCell ⟨R, 1, none⟩ v1).setCell ⟨R, 2, none⟩ v2
theorem set3_cel {W : World} {R : Nat} {t : TypeId} {a b c v0 v1 v2 : Value} (h : Cel W R t [a, b, c]) : Cel (set3 W R v0 v1 v2) R t [v0, v1, v2] := ((h.set (i := 0)).set (i := 1)).set (i := 2)
theorem set3_below {W : World} {R B : Nat} {w : World} {v0 v1 v2 : Value} (h : Below B w W) (hR : B ≤ R) : Below B w (set3 W R v0 v1 v2) := ((h.setCell (p := ⟨R, 0, none⟩) hR v0).setCell (p := ⟨R, 1, none⟩) hR v1).setCell (p := ⟨R, 2, none⟩) hR v2
set_option maxRecDepth 20000 in
set_option maxHeartbeats 4000000 in
theorem rat_any (A : Option Addr) (c : Nat) (l : List Vr) (t : Int) (w : World) (h : VrsAt w A l) (hn : l.length * 32 ≤ 140737488351232) (hr : ∀ x ∈ l, VrRng x) :
    Calls Tryz.prog 116 #[.slice A l.length c, .int .i64 t] w fun e w' => e = .returned (.tuple #[.agg (vcs (atP l t).1).toArray, .bool (atP l t).2.1, .int .i64 (atP l t).2.2]) ∧ Below w.heap.size w w' := by
  have HC := Lib.hid (fun W (hb : Below w.heap.size w W) => rcheck_any A c l W (h.below hb) hn hr)
  have HP := Lib.hid (fun W (hb : Below w.heap.size w W) => rplace_any A c l t W (h.below hb) hn)
  have HA := Lib.hid h
  have hlen : (l.length : Int) ≤ 9223372036854775807 := by omega
  have E := Lib.hid (show atP l t = if (chkP l).2 ≠ 0 then (noVr, false, (chkP l).2) else ((atV l t).1, (atV l t).2, 0) from rfl)
  obtain ⟨a, e, hae⟩ : ∃ a e, chkP l = (a, e) := ⟨_, _, rfl⟩
  rw [hae] at HC E
  simp only at HC E
  clear h hr hae
  go_enter Tryz.func116, Tryz.ntmps116
  go_wp2_with fail
  have hR0 : Cel (w.alloc (.cells #[.int .i64 0, .string ⟨#[]⟩, .bool false] 77)) w.heap.size 77 [.int .i64 0, .string ⟨#[]⟩, .bool false] := (blk1 w _).2
  have hB0 : Below w.heap.size w (w.alloc (.cells #[.int .i64 0, .string ⟨#[]⟩, .bool false] 77)) := (Below.refl _ w).alloc (Nat.le_refl _) _
  refine (HC.out _ hB0).mono ?_
  rintro e1 w1 ⟨rfl, hb⟩
  have HR := Lib.hid (hR0.below hb)
  have HB := Lib.hid (hB0.trans (hb.mono hB0.size))
  clear HC hb hR0 hB0
  by_cases he : e = 0
  · subst he
    have hpl := place_le l t
    cases hpn : placeN l t with
    | zero =>
      have E2 := Lib.hid (show atP l t = (noVr, false, 0) by rw [E.out]; unfold atV; rw [low_none hpn]; rfl)
      rw [hpn] at HP
      clear E hpn hpl
      go_wp2_with fail
      refine (HP.out _ HB.out).mono ?_
      rintro e2 w2 ⟨rfl, hb⟩
      have HB2 := Lib.hid (HB.out.trans (hb.mono HB.out.size))
      have HR2 := Lib.hid (HR.out.below hb)
      clear hb
      have zq := fun i => HR2.out.free (i := i)
      have q0 := HR2.out.cell (i := 0) rfl
      have q1 := HR2.out.cell (i := 1) rfl
      have q2 := HR2.out.cell (i := 2) rfl
      go_wp2_with fail
      have HF := Lib.hid (set3_cel (v0 := .int .i64 0) (v1 := .string ⟨#[]⟩) (v2 := .bool false) HR2.out)
      have z0 := HF.out.cell (i := 0) rfl
      have z1 := HF.out.cell (i := 1) rfl
      have z2 := HF.out.cell (i := 2) rfl
      unfold set3 at z0 z1 z2
      exact bodyPost_ret (v := .tuple #[.agg #[.int .i64 0, .string ⟨#[]⟩, .bool false], .bool false, .int .i64 0]) (by simp [results, Tryz.results116, go_sem, z0, z1, z2]) rfl ⟨by rw [E2.out]; rfl, set3_below HB2.out (Nat.le_refl _)⟩
    | succ k =>
      obtain ⟨hk, hlast⟩ := low_last hpn
      obtain ⟨X, hX⟩ : ∃ X, l[k] = X := ⟨_, rfl⟩
      have E2 := Lib.hid (show atP l t = (X, true, 0) by rw [E.out]; unfold atV; rw [hlast, hX]; rfl)
      have HX := Lib.hid hX
      rw [hpn] at HP
      have hc1 : ((k + 1 : Nat) : Int) - 1 = (k : Int) := by omega
      have hc2 : (k : Int) < (l.length : Int) := by omega
      have hz : ¬ ((k + 1 : Nat) : Int) = 0 := by omega
      have hz2 : (((k + 1 : Nat) : Int) == 0) = false := by simpa using hz
      have hc3 : ((k + 1 : Nat) : Int) ≤ 9223372036854775807 := by omega
      have HK := Lib.hid hk
      clear E hpn hpl hlast hX
      generalize k + 1 = n at HP hc1 hz hz2 hc3
      go_wp2_with fail
      refine (HP.out _ HB.out).mono ?_
      rintro e2 w2 ⟨rfl, hb⟩
      have HB2 := Lib.hid (HB.out.trans (hb.mono HB.out.size))
      have HR2 := Lib.hid (HR.out.below hb)
      clear hb
      obtain ⟨ad, rfl, hab, hcl⟩ := (HA.out.below HB2.out) (by have := HK.out; omega)
      obtain ⟨x0, x1, x2⟩ := hcl k HK.out
      rw [HX.out] at x0 x1 x2
      rw [← add_field _ _ _ (by omega)] at x1 x2
      obtain ⟨xt, xs, xd⟩ := X
      simp only at x0 x1 x2
      clear hab hcl HX
      have zq := fun i => HR2.out.free (i := i)
      have q0 := HR2.out.cell (i := 0) rfl
      have q1 := HR2.out.cell (i := 1) rfl
      have q2 := HR2.out.cell (i := 2) rfl
      go_wp2_with fail
      have HF := Lib.hid (set3_cel (v0 := .int .i64 xt) (v1 := .string xs) (v2 := .bool xd) HR2.out)
      have z0 := HF.out.cell (i := 0) rfl
      have z1 := HF.out.cell (i := 1) rfl
      have z2 := HF.out.cell (i := 2) rfl
      unfold set3 at z0 z1 z2
      exact bodyPost_ret (v := .tuple #[.agg #[.int .i64 xt, .string xs, .bool xd], .bool true, .int .i64 0]) (by simp [results, Tryz.results116, go_sem, z0, z1, z2]) rfl ⟨by rw [E2.out]; rfl, set3_below HB2.out (Nat.le_refl _)⟩
  · have E2 := Lib.hid (show atP l t = (noVr, false, e) by rw [E.out, if_pos he])
    have hz : (e == 0) = false := by simpa using he
    clear E
    have zq := fun i => HR.out.free (i := i)
    have q0 := HR.out.cell (i := 0) rfl
    have q1 := HR.out.cell (i := 1) rfl
    have q2 := HR.out.cell (i := 2) rfl
    go_wp2_with fail
    have HF := Lib.hid (set3_cel (v0 := .int .i64 0) (v1 := .string ⟨#[]⟩) (v2 := .bool false) HR.out)
    have z0 := HF.out.cell (i := 0) rfl
    have z1 := HF.out.cell (i := 1) rfl
    have z2 := HF.out.cell (i := 2) rfl
    unfold set3 at z0 z1 z2
    exact bodyPost_ret (v := .tuple #[.agg #[.int .i64 0, .string ⟨#[]⟩, .bool false], .bool false, .int .i64 e]) (by simp [results, Tryz.results116, go_sem, z0, z1, z2]) rfl ⟨by rw [E2.out]; rfl, set3_below HB.out (Nat.le_refl _)⟩
end Ch
end Go.Proofs.YtbkanoblcojdfaaGreat

namespace Go.Proofs.YtbkanoblcojdfaaGreat
namespace Ch
open Go.RowKit Bk
attribute [local go_sem ↓] Go.wp_at_zero Go.wp_at_succ
attribute [local go_sem] floatUpon pick
theorem go_zero {l : List Vr} {t : Int} (h : placeN l t = 0) : goN l t = 0 := by unfold goN; rw [low_none h]; rfl
theorem go_succ {l : List Vr} {t : Int} {k : Nat} (h : placeN l t = k + 1) (hk : k < l.length) : goN l t = if l[k].dead then k + 1 else k := by
  obtain ⟨hk', hl⟩ := low_last h
  unfold goN
  rw [hl, h]
  rfl
theorem VrsAt.drop {w : World} {ad : Addr} {l : List Vr} (h : VrsAt w (some ad) l) (n : Nat) : VrsAt w (some (ad.add (n * 3))) (l.drop n) := fun hp => by
  rw [List.length_drop] at hp
  obtain ⟨a', e, h2, h3⟩ := h (by omega)
  obtain rfl := Option.some.inj e
  refine ⟨_, rfl, by rw [st_block]; exact h2, fun i hi => ?_⟩
  rw [List.length_drop] at hi
  have := h3 (n + i) (by omega)
  rw [List.getElem_drop, Go.Deep.add_add, Go.Deep.add_add, Go.Deep.add_add]
  rw [show n * 3 + i * 3 = (n + i) * 3 by omega, show n * 3 + (i * 3 + 1) = (n + i) * 3 + 1 by omega, show n * 3 + (i * 3 + 2) = (n + i) * 3 + 2 by omega]
  exact this
theorem drop_off (w : World) (ad : Addr) (l : List Vr) (n : Nat) (h : VrsAt w (some ad) l) : VrsAt w (some (ad.add (n * 3))) (l.drop n) := h.drop n
theorem drop_none {w : World} {A : Option Addr} {l : List Vr} {n : Nat} (h : l.length ≤ n) : VrsAt w A (l.drop n) := fun hp => by rw [List.length_drop] at hp; omega
theorem VrsAt.take {w : World} {A : Option Addr} {l : List Vr} (h : VrsAt w A l) (n : Nat) : VrsAt w A (l.take n) := fun hp => by
  rw [List.length_take] at hp
  obtain ⟨ad, e, h2, h3⟩ := h (by omega)
  refine ⟨ad, e, h2, fun i hi => ?_⟩
  rw [List.length_take] at hi
  rw [List.getElem_take]
  exact h3 i (by omega)
set_option maxRecDepth 20000 in
theorem slice_from (A : Option Addr) (m c n : Nat) (hn : n ≤ m) (hc : m ≤ c) (hnil : A = none → m = 0 ∧ c = 0) : ∃ (A' : Option Addr) (c' : Nat),
    (∀ W, (Instr.slice 92 (.slice A m c) (some (.int .i64 (n : Int))) none none).run Tryz.prog W = .ok (.slice A' (m - n) c') W) ∧
    (∀ W (l : List Vr), l.length = m → VrsAt W A l → VrsAt W A' (l.drop n)) ∧ (A' = none → m - n = 0 ∧ c' = 0) ∧ m - n ≤ c' ∧ c' ≤ c := by
  obtain ⟨i1, hi', hz0', hz1', hz2'⟩ := info_parts Tryz.infoVer
  refine ⟨if c = n then A else A.map (·.add (n * 3)), c - n, fun W => ?_, fun W l hl h => ?_, fun h => ?_, by omega, by omega⟩
  · have e := run_slice_l (P := Tryz.prog) W 92 A m c (by kernel_rfl) .i64 (n : Int) (by omega) (by omega)
    rw [e, show Tryz.prog.elem 92 = 77 by kernel_rfl]
    simp [sizeOf, typeInfo, hi', hz1', sliced]
  · by_cases e : c = n
    · exact drop_none (by omega)
    · rw [if_neg e]
      cases A with
      | none => exact drop_none (by have := (hnil rfl).1; omega)
      | some ad => exact drop_off W ad l n h
  · by_cases e : c = n
    · rw [if_pos e] at h; have := hnil h; omega
    · rw [if_neg e] at h
      cases A with
      | none => have := hnil rfl; omega
      | some ad => simp at h
set_option maxRecDepth 20000 in
theorem slice_to (A : Option Addr) (m c n : Nat) (hn : n ≤ c) : ∀ W, (Instr.slice 92 (.slice A m c) none (some (.int .i64 (n : Int))) none).run Tryz.prog W = .ok (.slice A n c) W := fun W => by
  obtain ⟨i1, hi', hz0', hz1', hz2'⟩ := info_parts Tryz.infoVer
  have e := run_slice_h (P := Tryz.prog) W 92 A m c (by kernel_rfl) .i64 (n : Int) (by omega) (by omega)
  rw [e, show Tryz.prog.elem 92 = 77 by kernel_rfl]
  have ha : ∀ a : Addr, a.add 0 = a := fun a => by unfold Addr.add; rw [if_pos rfl]
  by_cases h : c = 0
  · simp [sizeOf, typeInfo, hi', sliced, h]
  · cases A with
    | none => simp [sizeOf, typeInfo, hi', sliced]
    | some a => simp [sizeOf, typeInfo, hi', sliced, ha]
theorem run_append_empty3 {P : Program} (w : World) (base : Nat) (t ty e : TypeId) (i : TypeInfo) (z : Value) (bytes : Nat) (ht : P.underlying t = some (.slice e)) (hi : P.info? e = some i) (hz : i.zero = some z)
    (hsize : i.size = 3) (hby : i.bytes = bytes) (hzs : z.cells.size = 3) (g : Nat) (hg : w.heap[g]? = some (.cells #[] e (0, 0))) (hbg : base ≤ g)
    (A : Option Addr) (m c : Nat) (news : List Value) (hl : news.length = m * 3) (hA : A = none → m = 0 ∧ c = 0) (hnews : ∀ ad, A = some ad → ∀ j u, news[j]? = some u → w.cell? (ad.add j) = some u) (h1 : ∀ u ∈ news, u.oneCell' = true)
    (h63 : m ≤ maxLen) (hbytes : m * bytes ≤ 140737488355328) :
    ∃ v' w', (Builtin.append_ #[t, t] ty #[.slice (some ⟨g, 0, none⟩) 0 0, .slice A m c]).run P w = .ok v' w' ∧ w'.ownsRow base e 3 v' m news ∧ Below w.heap.size w w' := by
  have hlt : g < w.heap.size := (Array.getElem?_eq_some_iff.1 hg).1
  have hown : w.ownsRow base e 3 (.slice (some ⟨g, 0, none⟩) 0 0) 0 [] := ⟨rfl, .inr ⟨g, 0, #[], rfl, hbg, hg, Nat.le_refl _, Nat.zero_le _, rfl, rfl⟩⟩
  cases A with
  | none =>
    obtain ⟨rfl, rfl⟩ := hA rfl
    obtain rfl : news = [] := List.eq_nil_of_length_eq_zero (by omega)
    exact ⟨_, _, run_append_owned_none (P := P) w base t ty e i 3 ht hi _ _ _ hown, hown, Below.refl _ _⟩
  | some ad =>
    by_cases hm : m = 0
    · subst hm
      obtain rfl : news = [] := List.eq_nil_of_length_eq_zero (by omega)
      have hr := run_append_room (P := P) w t ty e i ht hi g 0 0 #[] hg ad 0 c [] (by simp) (fun j u h => by simp at h) (fun u h => by simp at h) (by omega) (by simp)
      have he : (List.take (0 * i.size) (#[] : Array Value).toList ++ ([] : List Value) ++ List.drop (0 * i.size + ([] : List Value).length) (#[] : Array Value).toList).toArray = (#[] : Array Value) := by simp
      rw [he] at hr
      refine ⟨_, _, hr, ?_, ?_⟩
      · refine ⟨rfl, .inr ⟨g, 0, #[], rfl, hbg, ?_, Nat.le_refl _, Nat.zero_le _, rfl, rfl⟩⟩
        exact setRow_heap w g _ _ e _ hg
      · exact setRow_same hg
    · have hb2 : (0 + m) * bytes ≤ 140737488355328 := by rw [Nat.zero_add]; exact hbytes
      obtain ⟨v', w', hr, h2, h3, _, _⟩ := run_append_own_at (P := P) w base t ty e i z 3 bytes ht hi hz hsize hby hzs (by decide) _ 0 [] hown ad m c news hl (hnews ad rfl) h1 (by omega) hb2 (by omega)
      have hr2 := run_append_grow (P := P) w t ty e i z ht hi hz ⟨g, 0, none⟩ 0 0 [] (by simp) (fun j v h => by simp at h) ad m c news (by rw [hl, hsize]) (hnews ad rfl) (by omega) (by unfold maxLen at h63; omega) (growslice_fits (by omega) (by rw [hby]; exact hb2))
      rw [hr] at hr2
      simp only [Result.ok.injEq] at hr2
      obtain ⟨e1, e2⟩ := hr2
      rw [Nat.zero_add, List.nil_append] at h2
      refine ⟨v', w', hr, h2, ?_⟩
      rw [e2]
      exact (Below.refl _ w).drew.alloc (by simp) _
theorem own_base {w : World} {b b' : Nat} {e : TypeId} {k : Nat} {v : Value} {n : Nat} {xs : List Value} (h : w.ownsRow b e k v n xs) (hb : b' ≤ b) : w.ownsRow b' e k v n xs := by
  obtain ⟨h1, h2⟩ := h
  refine ⟨h1, ?_⟩
  rcases h2 with h2 | ⟨g, cap, cur, h2, h3, h4⟩
  · exact .inl h2
  · exact .inr ⟨g, cap, cur, h2, Nat.le_trans hb h3, h4⟩
def RowAns (w : World) (r : List Vr × Int) (e : Ending) (w' : World) : Prop :=
  ∃ v : Value, e = .returned (.tuple #[v, .int .i64 r.2]) ∧ w'.ownsRow w.heap.size 77 3 v r.1.length (vrV r.1) ∧ Below w.heap.size w w'
set_option maxRecDepth 20000 in
set_option maxHeartbeats 4000000 in
theorem rsweep_any (A : Option Addr) (c : Nat) (l : List Vr) (t : Int) (w : World) (h : VrsAt w A l) (hn : l.length * 32 ≤ 140737488351232) (hr : ∀ x ∈ l, VrRng x) (hnil : A = none → l.length = 0 ∧ c = 0) (hc : l.length ≤ c) (_hcm : c ≤ maxLen) :
    Calls Tryz.prog 108 #[.slice A l.length c, .int .i64 t] w (RowAns w (sweepP l t)) := by
  obtain ⟨i1, hi', hz0', hz1', hz2'⟩ := info_parts Tryz.infoVer
  have HC := Lib.hid (rcheck_any A c l w h hn hr)
  have HP := Lib.hid (fun W (hb : Below w.heap.size w W) => rplace_any A c l t W (h.below hb) hn)
  have HA := Lib.hid h
  have HSl := Lib.hid (fun n (hn : n ≤ l.length) => slice_from A l.length c n hn hc hnil)
  have hlen : (l.length : Int) ≤ 4398046511104 := by omega
  have E := Lib.hid (show sweepP l t = if (chkP l).2 ≠ 0 then ([], (chkP l).2) else (sweepL l t, 0) from rfl)
  obtain ⟨a, e, hae⟩ : ∃ a e, chkP l = (a, e) := ⟨_, _, rfl⟩
  rw [hae] at HC E
  simp only at HC E
  clear h hr hae hnil hc
  go_enter Tryz.func108, Tryz.ntmps108
  go_wp2_with fail
  refine HC.out.mono ?_
  rintro e1 w1 ⟨rfl, hb⟩
  have HB := Lib.hid hb
  clear HC hb
  by_cases he : e = 0
  · subst he
    have HLast : Hid (∀ k, goN l t = k → k ≤ l.length → ∀ w2, Below w.heap.size w w2 → ∀ v w', w'.ownsRow w2.heap.size 77 3 v (l.length - k) (vrV (l.drop k)) → Below w2.heap.size w2 w' → RowAns w (sweepP l t) (.returned (.tuple #[v, .int .i64 0])) w') := Lib.hid (fun k hk hkl w2 hb2 v w' ho hb => by
      have hp : sweepP l t = (l.drop k, 0) := by rw [E.out, ← hk]; rfl
      rw [hp]
      refine ⟨v, rfl, ?_, hb2.trans (hb.mono hb2.size)⟩
      rw [List.length_drop]
      exact own_base ho hb2.size)
    go_wp2_with fail
    refine (HP.out _ HB.out).mono ?_
    rintro e2 w2 ⟨rfl, hb⟩
    have HB2 := Lib.hid (HB.out.trans (hb.mono HB.out.size))
    clear hb HB E
    have hpl := place_le l t
    obtain ⟨k, hgo, hkl, hway⟩ : ∃ k, goN l t = k ∧ k ≤ l.length ∧ (placeN l t = k ∧ (k = 0 ∨ ∃ (h0 : 0 < k) (h1 : k - 1 < l.length), (l[k - 1]'h1).dead = true) ∨ ∃ h1 : k < l.length, placeN l t = k + 1 ∧ l[k].dead = false) := by
      cases hp : placeN l t with
      | zero => exact ⟨0, go_zero hp, Nat.zero_le _, .inl ⟨rfl, .inl rfl⟩⟩
      | succ j =>
        have hj : j < l.length := by omega
        have hg := go_succ hp hj
        by_cases hd : l[j].dead = true
        · rw [if_pos hd] at hg
          exact ⟨j + 1, hg, by omega, .inl ⟨rfl, .inr ⟨by omega, by simpa using hj, by simpa using hd⟩⟩⟩
        · rw [if_neg hd] at hg
          exact ⟨j, hg, by omega, .inr ⟨hj, rfl, by simpa using hd⟩⟩
    obtain ⟨A', c', hsl, hdr, hnil', hcl, hcc⟩ := HSl.out k hkl
    have HSl2 := Lib.hid hsl
    have HEnd := Lib.hid (HLast.out k hgo hkl w2 HB2.out)
    have HDr := Lib.hid (hdr w2 l rfl (HA.out.below HB2.out))
    have HNil := Lib.hid hnil'
    have HDl := Lib.hid (show (vrV (l.drop k)).length = (l.length - k) * 3 by rw [vrV_len, List.length_drop])
    have hk0 : (k : Int) ≤ (l.length : Int) := by omega
    have hm1 : (l.length - k : Nat) * 32 ≤ 140737488355328 := by omega
    clear HSl HLast hdr hnil' hsl
    rcases hway with ⟨hp, hz | ⟨h0, h1, hd⟩⟩ | ⟨h1, hp, hd⟩
    · have hz' : ¬ (k : Int) > 0 := by omega
      rw [hp]
      clear hz hp
      have HO0 := Lib.hid (show (w2.alloc (.cells #[] 77)).ownsRow w2.heap.size 77 3 (.slice (some ⟨w2.heap.size, 0, none⟩) 0 0) 0 [] from World.ownsRow_lit (base := w2.heap.size) (e := 77) (size := 3) w2 #[] 0 (Nat.le_refl _) (by unfold maxLen; omega) rfl)
      have sl := HSl2.out
      go_wp2_with (at_builtin; refine wpList_append_opt3 rfl _ _ 92 rfl w2.heap.size 77 i1 (.agg #[.int .i64 0, .string ⟨#[]⟩, .bool false]) 32 Tryz.underlying92 hi' hz0' hz1' hz2' rfl _ 0 _ rfl HO0.out A' (l.length - k) c' (vrV (l.drop k)) rfl HDl.out HNil.out ?c1 ?c2 ?c3 ?c4 (by simp) ?_)
      case c1 => exact fun ad e => by subst e; exact (HDr.out.alloc _).news
      case c2 => exact vrV_one _
      case c3 => unfold maxLen; omega
      case c4 => omega
      intro v' w3 ho hg hat
      have hb3 : Below w2.heap.size w2 w3 := ((Below.refl _ w2).alloc (Nat.le_refl _) (.cells #[] 77)).grown hg (by simp) (fun k hk => (HO0.out.lt k hk).1)
      try simp only [Nat.zero_add, List.nil_append] at ho
      have HF := Lib.hid (HEnd.out _ _ ho hb3)
      clear ho hg hat hb3 HO0 sl
      go_wp2_with fail
      go_ret2
      exact HF.out
    · obtain ⟨j, rfl⟩ : ∃ j, k = j + 1 := ⟨k - 1, by omega⟩
      have h1' : j < l.length := by omega
      have hd' : l[j].dead = true := by simpa using hd
      clear hd h1
      obtain ⟨ad, rfl, hab, hcl⟩ := (HA.out.below HB2.out) (by omega)
      obtain ⟨-, -, x2⟩ := hcl j h1'
      rw [hd'] at x2
      rw [← add_field _ _ _ (by omega)] at x2
      have hc1 : ((j + 1 : Nat) : Int) - 1 = (j : Int) := by omega
      have hc2 : (j : Int) < (l.length : Int) := by omega
      have hc3 : ((j + 1 : Nat) : Int) > 0 := by omega
      rw [hp]
      generalize hK : j + 1 = K at *
      clear hab hcl hp h0 hd' h1' hK
      have HO0 := Lib.hid (show (w2.alloc (.cells #[] 77)).ownsRow w2.heap.size 77 3 (.slice (some ⟨w2.heap.size, 0, none⟩) 0 0) 0 [] from World.ownsRow_lit (base := w2.heap.size) (e := 77) (size := 3) w2 #[] 0 (Nat.le_refl _) (by unfold maxLen; omega) rfl)
      have sl := HSl2.out
      go_wp2_with (at_builtin; refine wpList_append_opt3 rfl _ _ 92 rfl w2.heap.size 77 i1 (.agg #[.int .i64 0, .string ⟨#[]⟩, .bool false]) 32 Tryz.underlying92 hi' hz0' hz1' hz2' rfl _ 0 _ rfl HO0.out A' (l.length - K) c' (vrV (l.drop K)) rfl HDl.out HNil.out ?c1 ?c2 ?c3 ?c4 (by simp) ?_)
      case c1 => exact fun ad e => by subst e; exact (HDr.out.alloc _).news
      case c2 => exact vrV_one _
      case c3 => unfold maxLen; omega
      case c4 => omega
      intro v' w3 ho hg hat
      have hb3 : Below w2.heap.size w2 w3 := ((Below.refl _ w2).alloc (Nat.le_refl _) (.cells #[] 77)).grown hg (by simp) (fun k hk => (HO0.out.lt k hk).1)
      try simp only [Nat.zero_add, List.nil_append] at ho
      have HF := Lib.hid (HEnd.out _ _ ho hb3)
      clear ho hg hat hb3 HO0 sl
      go_wp2_with fail
      go_ret2
      exact HF.out
    · obtain ⟨ad, rfl, hab, hcl⟩ := (HA.out.below HB2.out) (by omega)
      obtain ⟨-, -, x2⟩ := hcl k h1
      rw [hd] at x2
      rw [← add_field _ _ _ (by omega)] at x2
      have hc1 : ((k + 1 : Nat) : Int) - 1 = (k : Int) := by omega
      have hc2 : (k : Int) < (l.length : Int) := by omega
      have hc3 : ((k + 1 : Nat) : Int) > 0 := by omega
      rw [hp]
      generalize hK : k + 1 = K at *
      clear hab hcl hp hd h1 hK
      have HO0 := Lib.hid (show (w2.alloc (.cells #[] 77)).ownsRow w2.heap.size 77 3 (.slice (some ⟨w2.heap.size, 0, none⟩) 0 0) 0 [] from World.ownsRow_lit (base := w2.heap.size) (e := 77) (size := 3) w2 #[] 0 (Nat.le_refl _) (by unfold maxLen; omega) rfl)
      have sl := HSl2.out
      go_wp2_with (at_builtin; refine wpList_append_opt3 rfl _ _ 92 rfl w2.heap.size 77 i1 (.agg #[.int .i64 0, .string ⟨#[]⟩, .bool false]) 32 Tryz.underlying92 hi' hz0' hz1' hz2' rfl _ 0 _ rfl HO0.out A' (l.length - k) c' (vrV (l.drop k)) rfl HDl.out HNil.out ?c1 ?c2 ?c3 ?c4 (by simp) ?_)
      case c1 => exact fun ad e => by subst e; exact (HDr.out.alloc _).news
      case c2 => exact vrV_one _
      case c3 => unfold maxLen; omega
      case c4 => omega
      intro v' w3 ho hg hat
      have hb3 : Below w2.heap.size w2 w3 := ((Below.refl _ w2).alloc (Nat.le_refl _) (.cells #[] 77)).grown hg (by simp) (fun k hk => (HO0.out.lt k hk).1)
      try simp only [Nat.zero_add, List.nil_append] at ho
      have HF := Lib.hid (HEnd.out _ _ ho hb3)
      clear ho hg hat hb3 HO0 sl
      go_wp2_with fail
      go_ret2
      exact HF.out
  · have E2 := Lib.hid (show sweepP l t = ([], e) by rw [E.out, if_pos he])
    have hz : (e == 0) = false := by simpa using he
    clear E
    go_wp2_with fail
    go_ret2
    exact ⟨_, by rw [E2.out]; rfl, by rw [E2.out]; exact World.ownsRow_nil _ _ _ _, HB.out⟩
end Ch
end Go.Proofs.YtbkanoblcojdfaaGreat

namespace Go.Proofs.YtbkanoblcojdfaaGreat
namespace Ch
open Go.RowKit Bk
attribute [local go_sem ↓] Go.wp_at_zero Go.wp_at_succ
attribute [local go_sem] floatUpon pick
theorem one_at (W : World) (x : Vr) : VrsAt (W.alloc (.cells (vcs x).toArray 77)) (some ⟨W.heap.size, 0, none⟩) [x] := fun _ => by
  refine ⟨_, rfl, by simp, fun i hi => ?_⟩
  obtain rfl : i = 0 := by simpa using hi
  have h := new_cells W x 77
  exact ⟨h 0 _ rfl, h 1 _ rfl, h 2 _ rfl⟩
theorem row_ans_none {w W : World} {r : List Vr × Int} {e : Int} (h : r = ([], e)) (hb : Below w.heap.size w W) : RowAns w r (.returned (.tuple #[.slice none 0 0, .int .i64 e])) W := by
  subst h
  exact ⟨_, rfl, World.ownsRow_nil _ _ _ _, hb⟩
set_option maxRecDepth 20000 in
set_option maxHeartbeats 8000000 in
theorem radd_any (A : Option Addr) (c : Nat) (l : List Vr) (x : Vr) (w : World) (h : VrsAt w A l) (hn : l.length * 32 ≤ 140737488351232) (hr : ∀ x ∈ l, VrRng x) (hx : VrRng x) (hnil : A = none → l.length = 0 ∧ c = 0) :
    Calls Tryz.prog 107 #[.slice A l.length c, .agg (vcs x).toArray] w (RowAns w (addP l x)) := by
  obtain ⟨i1, hi', hz0', hz1', hz2'⟩ := info_parts Tryz.infoVer
  have HC := Lib.hid (fun W (hb : Below w.heap.size w W) => rcheck_any A c l W (h.below hb) hn hr)
  have HC1 := Lib.hid (fun W (hh : VrsAt W (some ⟨W.heap.size - 1, 0, none⟩) [x]) => rcheck_any (some ⟨W.heap.size - 1, 0, none⟩) 1 [x] W hh (by simp) (fun y hy => by rw [List.mem_singleton.1 hy]; exact hx))
  have HA := Lib.hid h
  have HNil := Lib.hid hnil
  have hlen : (l.length : Int) ≤ 4398046511104 := by omega
  have E := Lib.hid (show addP l x = if (chkP l).2 ≠ 0 then ([], (chkP l).2) else if (chkP [x]).2 ≠ 0 then ([], (chkP [x]).2) else if 0 < l.length ∧ x.ts ≤ lastT l then ([], 110) else if 1024 ≤ l.length then ([], 2) else (l ++ [x], 0) from rfl)
  obtain ⟨a, e, hae⟩ : ∃ a e, chkP l = (a, e) := ⟨_, _, rfl⟩
  obtain ⟨a2, f, haf⟩ : ∃ a e, chkP [x] = (a, e) := ⟨_, _, rfl⟩
  rw [hae] at HC E
  rw [haf] at HC1 E
  simp only at HC HC1 E
  obtain ⟨xt, xs, xd⟩ := x
  clear h hr hae haf hnil hx
  show Calls _ _ #[_, .agg #[.int .i64 xt, .string xs, .bool xd]] _ _
  go_enter Tryz.func107, Tryz.ntmps107
  go_upto_region 1 with fail
  have hR0 : Cel (w.alloc (.cells #[.int .i64 xt, .string xs, .bool xd] 77)) w.heap.size 77 [.int .i64 xt, .string xs, .bool xd] := (blk1 w _).2
  have hB0 : Below w.heap.size w (w.alloc (.cells #[.int .i64 xt, .string xs, .bool xd] 77)) := (Below.refl _ w).alloc (Nat.le_refl _) _
  generalize w.alloc (.cells #[.int .i64 xt, .string xs, .bool xd] 77) = W0 at hR0 hB0 ⊢
  go_wp2_with fail
  refine (HC.out _ hB0).mono ?_
  rintro e1 w1 ⟨rfl, hb⟩
  have hcel1 := hR0.below hb
  have HB := Lib.hid (hB0.trans (hb.mono hB0.size))
  have HR := Lib.hid hcel1
  clear HC hb hR0 hB0
  by_cases he : e = 0
  case neg =>
    have HF := Lib.hid (row_ans_none (w := w) (W := w1) (show addP l ⟨xt, xs, xd⟩ = ([], e) by rw [E.out, if_pos he]) HB.out)
    have hz : (e == 0) = false := by simpa using he
    clear E hcel1
    go_wp2_with fail
    go_ret2
    exact HF.out
  subst he
  have q0 := hcel1.cell (i := 0) rfl
  have q1 := hcel1.cell (i := 1) rfl
  have q2 := hcel1.cell (i := 2) rfl
  have hone := one_at w1 ⟨xt, xs, xd⟩
  have hB2 : Below w1.heap.size w1 (w1.alloc (.cells (vcs ⟨xt, xs, xd⟩).toArray 77)) := (Below.refl _ w1).alloc (Nat.le_refl _) _
  have hone' : VrsAt (w1.alloc (.cells (vcs ⟨xt, xs, xd⟩).toArray 77)) (some ⟨(w1.alloc (.cells (vcs ⟨xt, xs, xd⟩).toArray 77)).heap.size - 1, 0, none⟩) [⟨xt, xs, xd⟩] := by
    rw [show (w1.alloc (.cells (vcs ⟨xt, xs, xd⟩).toArray 77)).heap.size - 1 = w1.heap.size by simp]
    exact hone
  have HCx := Lib.hid (HC1.out _ hone')
  rw [show (w1.alloc (.cells (vcs ⟨xt, xs, xd⟩).toArray 77)).heap.size - 1 = w1.heap.size by simp] at HCx
  have HR1 := Lib.hid (hcel1.below hB2)
  have HB1 := Lib.hid (HB.out.trans (hB2.mono HB.out.size))
  clear HC1 hone hone' hB2 hcel1 HR HB
  go_wp2_with fail
  refine HCx.out.mono ?_
  rintro e2 w2 ⟨rfl, hb⟩
  have HR2 := Lib.hid (HR1.out.below hb)
  have HB2 := Lib.hid (HB1.out.trans (hb.mono HB1.out.size))
  clear HCx hb HR1 HB1 q0 q1 q2
  by_cases hf : f = 0
  case neg =>
    have HF := Lib.hid (row_ans_none (w := w) (W := w2) (show addP l ⟨xt, xs, xd⟩ = ([], f) by rw [E.out, if_neg (by simp), if_pos hf]) HB2.out)
    have hz : (f == 0) = false := by simpa using hf
    clear E
    go_wp2_with fail
    go_ret2
    exact HF.out
  subst hf
  have q0 := HR2.out.cell (i := 0) rfl
  have HLast : Hid (∀ w3, Below w2.heap.size w2 w3 → ¬ (0 < l.length ∧ xt ≤ lastT l) → ¬ 1024 ≤ l.length → ∀ v w', w'.ownsRow w3.heap.size 77 3 v (l.length + 1) (vrV l ++ vcs ⟨xt, xs, xd⟩) → Below w3.heap.size w3 w' → RowAns w (addP l ⟨xt, xs, xd⟩) (.returned (.tuple #[v, .int .i64 0])) w') := Lib.hid (fun w3 hb3 h1 h2 v w' ho hb => by
    have hp : addP l ⟨xt, xs, xd⟩ = (l ++ [⟨xt, xs, xd⟩], 0) := by rw [E.out, if_neg (by simp), if_neg (by simp), if_neg h1, if_neg h2]
    rw [hp]
    have hb4 := HB2.out.trans (hb3.mono HB2.out.size)
    refine ⟨v, rfl, ?_, hb4.trans (hb.mono hb4.size)⟩
    simp only [List.length_append, List.length_singleton]
    rw [vrV_snoc]
    exact own_base ho hb4.size)
  by_cases h0 : 0 < l.length
  · obtain ⟨ad, rfl, hab, hcl⟩ := (HA.out.below HB2.out) (by omega)
    obtain ⟨x0, -, -⟩ := hcl (l.length - 1) (by omega)
    have hlt := lastT_at h0
    rw [← hlt] at x0
    have hc1 : (l.length : Int) - 1 = ((l.length - 1 : Nat) : Int) := by omega
    have hc2 : ((l.length - 1 : Nat) : Int) < (l.length : Int) := by omega
    have hc3 : (l.length : Int) > 0 := by omega
    have hc4 : 0 < l.length := h0
    have E4 : Hid (lastT l = lastT l) := Lib.hid rfl
    by_cases h4 : xt ≤ lastT l
    · have HF : Hid (∀ W, Below w.heap.size w W → RowAns w (addP l ⟨xt, xs, xd⟩) (.returned (.tuple #[.slice none 0 0, .int .i64 110])) W) := Lib.hid (fun W hb => row_ans_none (by rw [E.out, if_neg (by simp), if_neg (by simp), if_pos ⟨h0, h4⟩]) hb)
      generalize l.length - 1 = k at x0 hc1 hc2
      generalize lastT l = lt at x0 h4
      clear hab hcl hlt E HLast h0 E4
      go_upto_region 7 with fail
      go_quiet (fail)
      rename_i nq
      have HB3 := Lib.hid (HB2.out.trans ((below_drew w2.heap.size w2 nq).mono HB2.out.size))
      generalize w2.drewN nq = W3 at HB3 ⊢
      go_wp2_with fail
      go_ret2
      exact HF.out _ HB3.out
    have HNo := Lib.hid (show ¬ (0 < l.length ∧ xt ≤ lastT l) from fun h => h4 h.2)
    have h4' : ¬ xt ≤ lastT l := h4
    clear h4
    generalize l.length - 1 = k at x0 hc1 hc2
    generalize lastT l = lt at x0 h4' HNo E HLast E4
    clear hab hcl hlt h0 E4
    go_upto_region 7 with fail
    go_quiet (fail)
    rename_i nq
    have HB23 := Lib.hid (below_drew w2.heap.size w2 nq)
    have HB3 := Lib.hid (HB2.out.trans (HB23.out.mono HB2.out.size))
    have HR3 := Lib.hid (HR2.out.below HB23.out)
    have hsz3 : Hid (w2.heap.size ≤ (w2.drewN nq).heap.size) := Lib.hid HB23.out.size
    generalize w2.drewN nq = W3 at HB3 HB23 HR3 hsz3 ⊢
    clear q0 x0 hc1 hc2
    by_cases hfull : 1024 ≤ l.length
    · have HF := Lib.hid (row_ans_none (w := w) (W := W3) (show addP l ⟨xt, xs, xd⟩ = ([], 2) by rw [E.out, if_neg (by simp), if_neg (by simp), if_neg HNo.out, if_pos hfull]) HB3.out)
      have pf : (1024 : Int) ≤ (l.length : Int) := by omega
      clear E HLast hfull
      go_wp2_with fail
      go_ret2
      exact HF.out
    have HEnd := Lib.hid (HLast.out W3 HB23.out HNo.out hfull)
    have pf : ¬ (1024 : Int) ≤ (l.length : Int) := by omega
    have HN := Lib.hid (show l.length + 1 ≤ 1024 by omega)
    clear E HLast hfull HNo
    go_upto_region 11 with fail
    refine wp_region_said 5 [45, 46, 47, 48, 49]
      [.arr 77 #[] 0 0, .is (.slice (some ad) l.length c), .own (fun v W => W.ownsRow W3.heap.size 77 3 v l.length (vrV l)) (fun v W W' h hb => st_keep h hb), .is (.agg #[.int .i64 xt, .string xs, .bool xd]), .arr 77 #[.int .i64 xt, .string xs, .bool xd] 1 1]
      (fun W => Below W3.heap.size W3 W) (by kernel_rfl) (by kernel_rfl) (by kernel_rfl) (by kernel_rfl) (by kernel_rfl) (fun W W' h hb => h.trans (hb.mono h.size)) (Below.refl _ _) ?steps1 ?last1
    case steps1 =>
      simp only [List.take_succ_cons, List.take_zero]
      refine ⟨?_, ?_, ?_, ?_, ?_, trivial⟩
      all_goals
        intro vs W ρ hρ hc hf hg hI hH hd R' hR
        have kc := HR3.out.below hI
        have q0 := kc.cell (i := 0) rfl
        have q1 := kc.cell (i := 1) rfl
        have q2 := kc.cell (i := 2) rfl
        have HR := Lib.hid hR
        have HV := Lib.hid ((HA.out.below HB3.out).below hI)
        simp [depsOf, Region.binds, sayAt, Say.holds] at hd
        clear hR hI kc
      case refine_3 =>
        obtain ⟨⟨g, hg1, hg2, hg4, hg3⟩, hv⟩ := hd
        obtain ⟨v', w', hr, h2, h3⟩ := run_append_empty3 (P := Tryz.prog) W W3.heap.size 92 92 77 i1 (.agg #[.int .i64 0, .string ⟨#[]⟩, .bool false]) 32 Tryz.underlying92 hi' hz0' hz1' hz2' rfl g hg3 hg1 (some ad) l.length c (vrV l) (vrV_len l) HNil.out (fun ad e => by obtain rfl := Option.some.inj e; exact HV.out.news) (vrV_one l) (by have := HN.out; unfold maxLen; omega) (by have := HN.out; omega)
        have e0 : ρ (.tmp 45) = .slice (some ⟨g, 0, none⟩) 0 0 := by rw [hρ]; simp [pick, hg4]
        have e2 : ρ (.tmp 46) = .slice (some ad) l.length c := by rw [hρ]; simp [pick, hv]
        rw [if_pos (by simp [Region.wanted])]
        unfold execOp
        simp only [resolve, invoke, builtin, Sem.run_bind, Sem.run_pure, Result.andThen_ok, List.map_toArray, List.map_cons, List.map_nil, e0, e2, hr, floatUpon]
        exact HR.out _ _ h2 h3 (by simp [sayAt, Say.isBlk])
      all_goals
        go_simp
        first
          | exact HR.out _ _ (by simp [sayAt, Say.holds]) (Below.refl _ _) (by simp [sayAt, Say.isBlk])
          | exact HR.out _ _ ⟨_, hH, by simp, rfl, heap_alloc_new _ _⟩ ((Below.refl _ _).alloc (Nat.le_refl _) _) (fun h => by cases h)
          | trace_state
    case last1 =>
      intro vs W hI hb hg hd
      have g2 := hg 2 (by omega)
      obtain ⟨o, ho1, ho2, g4, ho⟩ := hg 4 (by omega)
      simp only [sayAt, Say.holds, List.getD_cons_succ, List.getD_cons_zero] at g2
      simp only [List.take_succ_cons, List.take_zero, List.drop_succ_cons, List.drop_zero, putAll, Act.put, List.setIfInBounds_toArray, List.set_cons_succ, List.set_cons_zero, Nat.zero_add, Nat.reduceAdd]
      rw [g4]
      have hn1 := HN.out
      have HI := Lib.hid hI
      clear g4 hg hd hI
      generalize vs 2 = v2 at g2 ⊢
      refine wpList_append_own_at _ rfl _ _ 92 rfl W3.heap.size 77 i1 (.agg #[.int .i64 0, .string ⟨#[]⟩, .bool false]) 3 32 Tryz.underlying92 hi' hz0' hz1' hz2' rfl (by decide) _ l.length (vrV l) rfl g2 ⟨o, 0, none⟩ 1 1 (vcs ⟨xt, xs, xd⟩) rfl rfl ?d1 (vcs_one _) ?d3 ?d4 HI.out.size ?_
      case d1 => intro j u hu; rw [addr_head]; exact blk_cell ho (by rw [List.getElem?_toArray]; exact hu)
      case d3 => unfold maxLen; omega
      case d4 => omega
      intro v' w5 hown' hgrow _ hat
      have hb5 : Below W3.heap.size W3 w5 := HI.out.grown hgrow HI.out.size (fun k hk => (g2.lt k hk).1)
      have HF := Lib.hid (HEnd.out _ _ (own_base hown' (Nat.le_refl _)) hb5)
      clear hown' hgrow hat HI ho ho1 ho2 hb g2 hb5
      go_wp2_with fail
      go_ret2
      exact HF.out
  · have h00 : l.length = 0 := by omega
    have hz : ¬ (l.length : Int) > 0 := by omega
    have HNo := Lib.hid (show ¬ (0 < l.length ∧ xt ≤ lastT l) from fun h => h0 h.1)
    have h0' : ¬ 0 < l.length := h0
    clear h0
    have HZ := Lib.hid h00
    clear h00
    go_upto_region 7 with fail
    go_quiet (fail)
    rename_i nq
    have HB23 := Lib.hid (below_drew w2.heap.size w2 nq)
    have HB3 := Lib.hid (HB2.out.trans (HB23.out.mono HB2.out.size))
    have HR3 := Lib.hid (HR2.out.below HB23.out)
    have hsz3 : Hid (w2.heap.size ≤ (w2.drewN nq).heap.size) := Lib.hid HB23.out.size
    generalize w2.drewN nq = W3 at HB3 HB23 HR3 hsz3 ⊢
    clear q0
    by_cases hfull : 1024 ≤ l.length
    · have HF := Lib.hid (row_ans_none (w := w) (W := W3) (show addP l ⟨xt, xs, xd⟩ = ([], 2) by rw [E.out, if_neg (by simp), if_neg (by simp), if_neg HNo.out, if_pos hfull]) HB3.out)
      have pf : (1024 : Int) ≤ (l.length : Int) := by omega
      clear E HLast hfull
      go_wp2_with fail
      go_ret2
      exact HF.out
    have HEnd := Lib.hid (HLast.out W3 HB23.out HNo.out hfull)
    have pf : ¬ (1024 : Int) ≤ (l.length : Int) := by omega
    have HN := Lib.hid (show l.length + 1 ≤ 1024 by omega)
    clear E HLast hfull HNo
    go_upto_region 11 with fail
    refine wp_region_said 5 [45, 46, 47, 48, 49]
      [.arr 77 #[] 0 0, .is (.slice A l.length c), .own (fun v W => W.ownsRow W3.heap.size 77 3 v l.length (vrV l)) (fun v W W' h hb => st_keep h hb), .is (.agg #[.int .i64 xt, .string xs, .bool xd]), .arr 77 #[.int .i64 xt, .string xs, .bool xd] 1 1]
      (fun W => Below W3.heap.size W3 W) (by kernel_rfl) (by kernel_rfl) (by kernel_rfl) (by kernel_rfl) (by kernel_rfl) (fun W W' h hb => h.trans (hb.mono h.size)) (Below.refl _ _) ?steps2 ?last2
    case steps2 =>
      simp only [List.take_succ_cons, List.take_zero]
      refine ⟨?_, ?_, ?_, ?_, ?_, trivial⟩
      all_goals
        intro vs W ρ hρ hc hf hg hI hH hd R' hR
        have kc := HR3.out.below hI
        have q0 := kc.cell (i := 0) rfl
        have q1 := kc.cell (i := 1) rfl
        have q2 := kc.cell (i := 2) rfl
        have HR := Lib.hid hR
        have HV := Lib.hid ((HA.out.below HB3.out).below hI)
        simp [depsOf, Region.binds, sayAt, Say.holds] at hd
        clear hR hI kc
      case refine_3 =>
        obtain ⟨⟨g, hg1, hg2, hg4, hg3⟩, hv⟩ := hd
        obtain ⟨v', w', hr, h2, h3⟩ := run_append_empty3 (P := Tryz.prog) W W3.heap.size 92 92 77 i1 (.agg #[.int .i64 0, .string ⟨#[]⟩, .bool false]) 32 Tryz.underlying92 hi' hz0' hz1' hz2' rfl g hg3 hg1 A l.length c (vrV l) (vrV_len l) HNil.out (fun ad e => by subst e; exact HV.out.news) (vrV_one l) (by have := HN.out; unfold maxLen; omega) (by have := HN.out; omega)
        have e0 : ρ (.tmp 45) = .slice (some ⟨g, 0, none⟩) 0 0 := by rw [hρ]; simp [pick, hg4]
        have e2 : ρ (.tmp 46) = .slice A l.length c := by rw [hρ]; simp [pick, hv]
        rw [if_pos (by simp [Region.wanted])]
        unfold execOp
        simp only [resolve, invoke, builtin, Sem.run_bind, Sem.run_pure, Result.andThen_ok, List.map_toArray, List.map_cons, List.map_nil, e0, e2, hr, floatUpon]
        exact HR.out _ _ h2 h3 (by simp [sayAt, Say.isBlk])
      all_goals
        go_simp
        first
          | exact HR.out _ _ (by simp [sayAt, Say.holds]) (Below.refl _ _) (by simp [sayAt, Say.isBlk])
          | exact HR.out _ _ ⟨_, hH, by simp, rfl, heap_alloc_new _ _⟩ ((Below.refl _ _).alloc (Nat.le_refl _) _) (fun h => by cases h)
          | trace_state
    case last2 =>
      intro vs W hI hb hg hd
      have g2 := hg 2 (by omega)
      obtain ⟨o, ho1, ho2, g4, ho⟩ := hg 4 (by omega)
      simp only [sayAt, Say.holds, List.getD_cons_succ, List.getD_cons_zero] at g2
      simp only [List.take_succ_cons, List.take_zero, List.drop_succ_cons, List.drop_zero, putAll, Act.put, List.setIfInBounds_toArray, List.set_cons_succ, List.set_cons_zero, Nat.zero_add, Nat.reduceAdd]
      rw [g4]
      have hn1 := HN.out
      have HI := Lib.hid hI
      clear g4 hg hd hI
      generalize vs 2 = v2 at g2 ⊢
      refine wpList_append_own_at _ rfl _ _ 92 rfl W3.heap.size 77 i1 (.agg #[.int .i64 0, .string ⟨#[]⟩, .bool false]) 3 32 Tryz.underlying92 hi' hz0' hz1' hz2' rfl (by decide) _ l.length (vrV l) rfl g2 ⟨o, 0, none⟩ 1 1 (vcs ⟨xt, xs, xd⟩) rfl rfl ?d1 (vcs_one _) ?d3 ?d4 HI.out.size ?_
      case d1 => intro j u hu; rw [addr_head]; exact blk_cell ho (by rw [List.getElem?_toArray]; exact hu)
      case d3 => unfold maxLen; omega
      case d4 => omega
      intro v' w5 hown' hgrow _ hat
      have hb5 : Below W3.heap.size W3 w5 := HI.out.grown hgrow HI.out.size (fun k hk => (g2.lt k hk).1)
      have HF := Lib.hid (HEnd.out _ _ (own_base hown' (Nat.le_refl _)) hb5)
      clear hown' hgrow hat HI ho ho1 ho2 hb g2 hb5
      go_wp2_with fail
      go_ret2
      exact HF.out
end Ch
end Go.Proofs.YtbkanoblcojdfaaGreat

namespace Go.Proofs.YtbkanoblcojdfaaGreat
namespace Lt
open Go.RowKit Bk
attribute [local go_sem ↓] Go.wp_at_zero Go.wp_at_succ
attribute [local go_sem] floatUpon pick
theorem let_ext {x y : Let} (h0 : x.kind = y.kind) (h1 : x.src = y.src) (h2 : x.dst = y.dst) (h3 : x.txn = y.txn) (h4 : x.ts = y.ts) (h5 : x.code = y.code) (h6 : x.text = y.text) (h7 : x.keys = y.keys) (h8 : x.ws = y.ws) : x = y := by
  obtain ⟨a0, a1, a2, a3, a4, a5, a6, a7, a8⟩ := x
  obtain ⟨b0, b1, b2, b3, b4, b5, b6, b7, b8⟩ := y
  simp only at h0 h1 h2 h3 h4 h5 h6 h7 h8
  subst h0 h1 h2 h3 h4 h5 h6 h7 h8; rfl
noncomputable def sameB (x y : Let) : Bool := @decide (x = y) (Classical.propDecidable _)
theorem sameB_true {x y : Let} (h : x = y) : sameB x y = true := by unfold sameB; exact @decide_eq_true _ (Classical.propDecidable _) h
theorem sameB_false {x y : Let} (h : ¬ x = y) : sameB x y = false := by unfold sameB; exact @decide_eq_false _ (Classical.propDecidable _) h
theorem sameB_self (x : Let) : sameB x x = true := sameB_true rfl
theorem sameB_parts (x y : Let) : sameB x y = (decide (x.kind = y.kind) && (decide (x.src = y.src) && (decide (x.dst = y.dst) && (decide (x.txn = y.txn) && (decide (x.ts = y.ts) && (decide (x.code = y.code) && (decide (x.text = y.text) && (decide (x.keys = y.keys) && decide (x.ws = y.ws))))))))) := by
  by_cases h : x = y
  · subst h; rw [sameB_self]; simp
  · rw [sameB_false h]
    symm
    rw [Bool.eq_false_iff]
    intro hh
    simp only [Bool.and_eq_true, decide_eq_true_eq] at hh
    obtain ⟨h0, h1, h2, h3, h4, h5, h6, h7, h8⟩ := hh
    exact h (let_ext h0 h1 h2 h3 h4 h5 h6 h7 h8)
theorem eql_dec (s t : ByteArray) : (s.toList == t.toList) = decide (s = t) := by
  by_cases h : s = t
  · subst h; simp
  · rw [text_ne h, decide_eq_false h]
end Lt
end Go.Proofs.YtbkanoblcojdfaaGreat

namespace Go.Proofs.YtbkanoblcojdfaaGreat
namespace Lt
open Go.RowKit Bk
attribute [local go_sem ↓] Go.wp_at_zero Go.wp_at_succ
attribute [local go_sem] floatUpon pick
structure LetVal (w : World) (A B : Option Addr) (c d : Nat) (l : Let) : Prop where
  ks : StrsAt w A l.keys
  ws : WrsAt w B l.ws
  rng : LetRange l c d
  kn : A = none → l.keys = [] ∧ c = 0
  wn : B = none → l.ws = [] ∧ d = 0
theorem LetVal.below {w W : World} {A B : Option Addr} {c d : Nat} {l : Let} (h : LetVal w A B c d l) (hb : Below w.heap.size w W) : LetVal W A B c d l :=
  ⟨h.ks.below hb, h.ws.below hb, h.rng, h.kn, h.wn⟩
def CheckAll : Prop := ∀ (A B : Option Addr) (c d : Nat) (l : Let) (w : World), LetVal w A B c d l →
  Calls Tryz.prog 294 #[letV l A B c d] w fun e w' => e = .returned (.int .i64 (ckN l : Int)) ∧ Below w.heap.size w w'
theorem nil_strs (w : World) (A : Option Addr) : StrsAt w A [] := fun h => absurd h (by simp)
theorem nil_wrs (w : World) (A : Option Addr) : WrsAt w A [] := fun h => absurd h (by simp)
theorem LetOk.rng {l : Let} (h : LetOk l) : LetRng l := by
  obtain ⟨b1, b2, b3, b4, b5, b6, b7⟩ := h.bounds
  obtain ⟨⟨h1, h2, h3, h4, h5, h6⟩, _⟩ := h
  have rb : reachBytes = 140737488351232 := by unfold reachBytes; rfl
  unfold addr at h1 h2
  unfold txnOk at h3
  unfold stampOk at h4
  exact ⟨by omega, by omega, by omega, by omega, by omega, by omega, by omega, by omega, by omega, fun k hk => by have := b4 k hk; unfold keyOk at this; omega, fun x hx => by have := b5 x hx; unfold keyOk at this; omega⟩
def bareL (k a b t s : Int) : Let := ⟨k, a, b, t, s, 0, ⟨#[]⟩, [], []⟩
theorem bare_val (w : World) (k a b t s : Int) (h : LetOk (bareL k a b t s)) : LetVal w none none 0 0 (bareL k a b t s) :=
  ⟨nil_strs _ _, nil_wrs _ _, ⟨h.rng, Nat.le_refl _, Nat.le_refl _, Nat.zero_le _, Nat.zero_le _⟩, fun _ => ⟨rfl, rfl⟩, fun _ => ⟨rfl, rfl⟩⟩
def kB : ByteArray := ⟨#[98]⟩
end Lt
end Go.Proofs.YtbkanoblcojdfaaGreat

namespace Go.Proofs.YtbkanoblcojdfaaGreat
namespace Lt
open Go.RowKit Bk
attribute [local go_sem ↓] Go.wp_at_zero Go.wp_at_succ
attribute [local go_sem] floatUpon pick
theorem run_append_opt3 {P : Program} (w : World) (base : Nat) (t ty e : TypeId) (i : TypeInfo) (z : Value) (bytes : Nat) (ht : P.underlying t = some (.slice e)) (hi : P.info? e = some i) (hz : i.zero = some z)
    (hsize : i.size = 3) (hby : i.bytes = bytes) (hzs : z.cells.size = 3) (v : Value) (n : Nat) (xs : List Value) (hown : w.ownsRow base e 3 v n xs)
    (A : Option Addr) (m c : Nat) (news : List Value) (hl : news.length = m * 3) (hA : A = none → m = 0 ∧ c = 0) (hnews : ∀ ad, A = some ad → ∀ j u, news[j]? = some u → w.cell? (ad.add j) = some u) (h1 : ∀ u ∈ news, u.oneCell' = true)
    (h63 : n + m ≤ maxLen) (hbytes : (n + m) * bytes ≤ 140737488355328) (hbase : base ≤ w.heap.size) :
    ∃ v' w', (Builtin.append_ #[t, t] ty #[v, .slice A m c]).run P w = .ok v' w' ∧ w'.ownsRow base e 3 v' (n + m) (xs ++ news) ∧ w.grownBy w' v.ownBlock ∧ (v'.ownBlock = v.ownBlock ∨ v'.ownBlock = some w.heap.size) := by
  cases A with
  | none =>
    obtain ⟨rfl, rfl⟩ := hA rfl
    obtain rfl : news = [] := List.eq_nil_of_length_eq_zero (by omega)
    exact ⟨v, w, run_append_owned_none (P := P) w base t ty e i 3 ht hi _ _ _ hown, by rw [List.append_nil]; exact hown, ⟨rfl, rfl, rfl, Nat.le_refl _, fun _ _ _ => rfl⟩, .inl rfl⟩
  | some ad =>
    obtain ⟨v', w', hr, h2, h3, _, h5⟩ := run_append_own_at (P := P) w base t ty e i z 3 bytes ht hi hz hsize hby hzs (by omega) v n xs hown ad m c news hl (hnews ad rfl) h1 h63 hbytes hbase
    exact ⟨v', w', hr, h2, h3, h5⟩
theorem wpList_append_opt3 {P : Program} {w : World} {ops : Array Oper} {rest : List Oper} {o : Oper} {a : Act} {Q : Exit → Act → World → Prop} (hgd : o.guard = none) (s x : Operand) (t : TypeId)
    (ho : o.op = .call { callee := .builtin .append, args := #[s, x], argTypes := #[t, t] })
    (base : Nat) (e : TypeId) (i : TypeInfo) (z : Value) (bytes : Nat) (ht : P.underlying t = some (.slice e)) (hi : P.info? e = some i) (hz : i.zero = some z)
    (hsize : i.size = 3) (hby : i.bytes = bytes) (hzs : z.cells.size = 3) (v : Value) (n : Nat) (xs : List Value) (hs : a.eval s = v) (hown : w.ownsRow base e 3 v n xs)
    (A : Option Addr) (m c : Nat) (news : List Value) (hx : a.eval x = .slice A m c) (hl : news.length = m * 3) (hA : A = none → m = 0 ∧ c = 0) (hnews : ∀ ad, A = some ad → ∀ j u, news[j]? = some u → w.cell? (ad.add j) = some u) (h1 : ∀ u ∈ news, u.oneCell' = true)
    (h63 : n + m ≤ maxLen) (hbytes : (n + m) * bytes ≤ 140737488355328) (hbase : base ≤ w.heap.size)
    (h : ∀ v' w', w'.ownsRow base e 3 v' (n + m) (xs ++ news) → w.grownBy w' v.ownBlock → (v'.ownBlock = v.ownBlock ∨ v'.ownBlock = some w.heap.size) → wpList P ops Q rest (a.put o.dst v') w') :
    wpList P ops Q (o :: rest) a w := by
  refine wpList_plain hgd fun K hK => ?_
  obtain ⟨v', w', hr, h2, h3, h5⟩ := run_append_opt3 (P := P) w base t o.type e i z bytes ht hi hz hsize hby hzs v n xs hown A m c news hl hA hnews h1 h63 hbytes hbase
  unfold Oper.wp execOp
  simp only [ho, resolve, invoke, builtin, Sem.run_bind, Sem.run_pure, Result.andThen_ok, List.map_toArray, List.map_cons, List.map_nil, hs, hx, hr]
  exact hK _ _ (h v' w' h2 h3 h5)
theorem WrsAt.news {w : World} {ad : Addr} {l : List Wr} (h : WrsAt w (some ad) l) : ∀ j u, (wrV l)[j]? = some u → w.cell? (ad.add j) = some u := fun j u hu => by
  have hj : j < l.length * 3 := by
    have := (List.getElem?_eq_some_iff.1 hu).1
    rwa [wrV_len] at this
  obtain ⟨a', e, _, h3⟩ := h (by omega)
  obtain rfl := Option.some.inj e
  obtain ⟨y0, y1, y2⟩ := wrV_at l (j / 3) (by omega)
  obtain ⟨x0, x1, x2⟩ := h3 (j / 3) (by omega)
  have hc : j % 3 = 0 ∨ j % 3 = 1 ∨ j % 3 = 2 := by omega
  rcases hc with r | r | r
  · have ej : j = j / 3 * 3 := by omega
    rw [← ej] at y0 x0
    rw [y0] at hu; rw [x0]; exact hu
  · have ej : j = j / 3 * 3 + 1 := by omega
    rw [← ej] at y1 x1
    rw [y1] at hu; rw [x1]; exact hu
  · have ej : j = j / 3 * 3 + 2 := by omega
    rw [← ej] at y2 x2
    rw [y2] at hu; rw [x2]; exact hu
theorem wrV_one (l : List Wr) : ∀ u ∈ wrV l, u.oneCell' = true := fun u hu => by
  obtain ⟨x, _, hx⟩ := List.mem_flatMap.1 hu
  simp only [List.mem_cons, List.not_mem_nil, or_false] at hx
  rcases hx with rfl | rfl | rfl <;> rfl
theorem own_wrs {w : World} {H c : Nat} {A : Option Addr} {e : TypeId} {l : List Wr} (h : w.ownsRow H e 3 (.slice A l.length c) l.length (wrV l)) : WrsAt w A l ∧ l.length ≤ c ∧ c ≤ maxLen ∧ (A = none → l = [] ∧ c = 0) := by
  obtain ⟨A', c', e1, h1, h2, h3, h4⟩ := wrs_own h rfl
  simp only [Value.slice.injEq] at e1
  obtain ⟨rfl, _, rfl⟩ := e1
  exact ⟨h1, h2, h3, fun e => ⟨List.eq_nil_of_length_eq_zero (by have := h4 e; omega), h4 e⟩⟩
theorem own_strs {w : World} {H c : Nat} {A : Option Addr} {e : TypeId} {l : List ByteArray} (h : w.ownsRow H e 1 (.slice A l.length c) l.length (strV l)) : StrsAt w A l ∧ l.length ≤ c ∧ c ≤ maxLen ∧ (A = none → l = [] ∧ c = 0) := by
  obtain ⟨A', c', hv, hs⟩ := strs_of_own2 h rfl
  simp only [Value.slice.injEq] at hv
  obtain ⟨rfl, _, rfl⟩ := hv
  rcases h.2 with ⟨h1, h2⟩ | ⟨g, cap, cur, h1, _, _, h3, h4, _⟩
  · simp only [Value.slice.injEq] at h1
    obtain ⟨rfl, hl, rfl⟩ := h1
    exact ⟨hs, by omega, Nat.zero_le _, fun _ => ⟨List.eq_nil_of_length_eq_zero hl, rfl⟩⟩
  · simp only [Value.slice.injEq] at h1
    obtain ⟨rfl, _, rfl⟩ := h1
    exact ⟨hs, h3, h4, fun e => by cases e⟩
theorem set9_own {W : World} {H R s n : Nat} {e : TypeId} {v v0 v1 v2 v3 v4 v5 v6 v7 v8 : Value} {xs : List Value} (h : W.ownsRow H e s v n xs) (hn : v.ownBlock ≠ some R) : (set9 W R v0 v1 v2 v3 v4 v5 v6 v7 v8).ownsRow H e s v n xs :=
  ownsRow_setCell_other (a := ⟨R, 8, none⟩) (ownsRow_setCell_other (a := ⟨R, 7, none⟩) (ownsRow_setCell_other (a := ⟨R, 6, none⟩) (ownsRow_setCell_other (a := ⟨R, 5, none⟩) (ownsRow_setCell_other (a := ⟨R, 4, none⟩) (ownsRow_setCell_other (a := ⟨R, 3, none⟩) (ownsRow_setCell_other (a := ⟨R, 2, none⟩) (ownsRow_setCell_other (a := ⟨R, 1, none⟩) (ownsRow_setCell_other (a := ⟨R, 0, none⟩) h hn _) hn _) hn _) hn _) hn _) hn _) hn _) hn _) hn _
end Lt
end Go.Proofs.YtbkanoblcojdfaaGreat
