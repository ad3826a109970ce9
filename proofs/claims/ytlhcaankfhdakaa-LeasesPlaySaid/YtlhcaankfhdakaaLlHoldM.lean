/- A table of leases that are taken and kept, tick by tick, in plain terms; no condition. -/
import Derived.Test.YtlhcaankfhdakaaLlMath
namespace Go.Proofs.Ytlhcaankfhdakaa
namespace Ll
open Ls

/-- leases that were given out one after the other: stamps s, ends U -/
def fl (s U : Nat → Int) (c : Nat) : List Le := (List.range c).map fun (k : Nat) => (⟨(k : Int) + 1, s k, U k⟩ : Le)

theorem fl_len' (s U : Nat → Int) (c : Nat) : (fl s U c).length = c := by simp [fl]
theorem fl_succ (s U : Nat → Int) (c : Nat) : fl s U (c + 1) = fl s U c ++ [⟨(c : Int) + 1, s c, U c⟩] := by simp [fl, List.range_succ]
theorem fl_congr {s U U' : Nat → Int} {c : Nat} (h : ∀ k, k < c → U k = U' k) : fl s U c = fl s U' c := by
  unfold fl
  refine List.map_congr_left fun k hk => ?_
  rw [h k (List.mem_range.1 hk)]
theorem fl_mem {s U : Nat → Int} {c : Nat} {x : Le} : x ∈ fl s U c ↔ ∃ k : Nat, k < c ∧ x = ⟨(k : Int) + 1, s k, U k⟩ := by
  unfold fl
  rw [List.mem_map]
  exact ⟨fun ⟨k, h1, h2⟩ => ⟨k, List.mem_range.1 h1, h2.symm⟩, fun ⟨k, h1, h2⟩ => ⟨k, List.mem_range.2 h1, h2.symm⟩⟩

theorem lv_app (L M : List Le) (now : Int) : lv (L ++ M) now = lv L now ++ lv M now := List.filter_append ..
theorem lv_lv {L : List Le} {a b : Int} (h : a ≤ b) : lv (lv L a) b = lv L b := by
  unfold lv
  rw [List.filter_filter]
  refine List.filter_congr fun x _ => ?_
  by_cases e : b ≤ x.u
  · have : a ≤ x.u := by omega
    simp [e, this]
  · simp [e]
theorem lv_same (L : List Le) (a : Int) : lv (lv L a) a = lv L a := lv_lv (Int.le_refl _)

/-- a table as if no lease had been let go of -/
structure Sim (D : Tb) (s U : Nat → Int) (c : Nat) (now : Int) : Prop where
  ok : Ok D
  many : D.many = (c : Int)
  live : lv D.L now = lv (fl s U c) now

section
variable {D : Tb} {s U U' : Nat → Int} {c : Nat} {now : Int}

theorem Sim.later (h : Sim D s U c now) {b : Int} (hb : now ≤ b) : Sim D s U c b := ⟨h.ok, h.many, by rw [← lv_lv hb, h.live, lv_lv hb]⟩
theorem Sim.other (h : Sim D s U c now) (e : ∀ k, k < c → U k = U' k) : Sim D s U' c now := ⟨h.ok, h.many, by rw [h.live, fl_congr e]⟩

theorem Sim.take (h : Sim D s U c now) (hn : okT now) (hs : okS (s c)) (hc : c < 1024) (e : ∀ k, k < c → U k = U' k) (e2 : U' c = now + D.long) : ∃ D', takeB D now (s c) = (D', (c : Int) + 1, 0) ∧ D'.long = D.long ∧ Sim D' s U' (c + 1) now := by
  have hlen : ¬ 1024 ≤ (lv D.L now).length := by rw [h.live]; have := lv_len (fl s U c) now; rw [fl_len'] at this; omega
  have ht : takeB D now (s c) = (⟨D.long, D.many + 1, lv D.L now ++ [⟨D.many + 1, s c, now + D.long⟩]⟩, D.many + 1, 0) := by
    unfold takeB; rw [if_neg (fun q => q ⟨hn, hs⟩), if_neg hlen]
  have hok := h.ok.take now (s c)
  rw [ht] at hok
  refine ⟨⟨D.long, D.many + 1, lv D.L now ++ [⟨D.many + 1, s c, now + D.long⟩]⟩, by rw [ht, h.many], rfl, ⟨hok, by show D.many + 1 = _; rw [h.many]; omega, ?_⟩⟩
  show lv (lv D.L now ++ [_]) now = _
  rw [lv_app, lv_same, h.live, fl_succ, lv_app, fl_congr e, e2, h.many]

/-- a lease that runs on -/
def kf (n x : Int) (y : Le) : Le := if y.n = n then ⟨y.n, y.t, max y.u x⟩ else y

theorem lv_map {L : List Le} {n x : Int} (h : ∀ y ∈ L, y.n = n → now ≤ y.u) : lv (L.map (kf n x)) now = (lv L now).map (kf n x) := by
  unfold lv
  rw [List.filter_map]
  congr 1
  refine List.filter_congr fun y hy => ?_
  simp only [Function.comp]
  unfold kf
  split
  · rename_i e
    have := h y hy e
    have h2 : now ≤ max y.u x := by omega
    simp [this, h2]
  · rfl

theorem set_map {L : List Le} (hr : (L.map Le.n).Pairwise (· < ·)) {j : Nat} (hj : j < L.length) (x : Int) : L.set j ⟨(g L j).n, (g L j).t, max (g L j).u x⟩ = L.map (kf (g L j).n x) := by
  apply List.ext_getElem?
  intro i
  rw [List.getElem?_set, List.getElem?_map]
  by_cases e : j = i
  · subst e
    rw [if_pos rfl, if_pos hj, at_g hj]
    simp [kf]
  · rw [if_neg e]
    by_cases hi : i < L.length
    · rw [at_g hi]
      have : (g L i).n ≠ (g L j).n := by
        rcases Nat.lt_or_gt_of_ne e with q | q
        · have := rise_at hr q hi; omega
        · have := rise_at hr q hj; omega
      simp [kf, this]
    · rw [List.getElem?_eq_none (by omega)]; rfl

theorem num_one {L : List Le} (hr : (L.map Le.n).Pairwise (· < ·)) {x y : Le} (hx : x ∈ L) (hy : y ∈ L) (e : x.n = y.n) : x = y := by
  obtain ⟨i, hi, rfl⟩ := List.mem_iff_getElem.1 hx
  obtain ⟨j, hj, rfl⟩ := List.mem_iff_getElem.1 hy
  rw [← g_lt hi, ← g_lt hj] at e ⊢
  rcases Nat.lt_trichotomy i j with q | q | q
  · have := rise_at hr q hj; omega
  · rw [q]
  · have := rise_at hr q hi; omega

theorem Sim.there (h : Sim D s U c now) {k : Nat} (hk : k < c) (hu : now ≤ U k) : nu D.L ((k : Int) + 1) < D.L.length ∧ g D.L (nu D.L ((k : Int) + 1)) = ⟨(k : Int) + 1, s k, U k⟩ := by
  have hm : (⟨(k : Int) + 1, s k, U k⟩ : Le) ∈ lv D.L now := by
    rw [h.live]
    exact List.mem_filter.2 ⟨fl_mem.2 ⟨k, hk, rfl⟩, by simpa using hu⟩
  have hm2 := (List.mem_filter.1 hm).1
  obtain ⟨i, hi, e⟩ := List.mem_iff_getElem.1 hm2
  have hl : nu D.L ((k : Int) + 1) < D.L.length := nu_lt hi (by rw [g_lt hi, e])
  exact ⟨hl, num_one h.ok.rise (by rw [g_lt hl]; exact List.getElem_mem hl) hm2 (nu_at hl)⟩

theorem Sim.check (h : Sim D s U c now) (hn : okT now) {k : Nat} (hk : k < c) (hu : now ≤ U k) : checkB D now ((k : Int) + 1) = (s k, 0) := by
  obtain ⟨h1, h2⟩ := h.there hk hu
  unfold checkB
  rw [if_neg (fun q => q hn), if_neg (by omega), h2, if_neg (by show ¬ U k < now; omega)]

theorem Sim.keep (h : Sim D s U c now) (hn : okT now) {k : Nat} (hk : k < c) (hu : now ≤ U k) (e : ∀ i, i < c → i ≠ k → U i = U' i) (e2 : U' k = max (U k) (now + D.long)) : ∃ D', keepB D now ((k : Int) + 1) = (D', 0) ∧ D'.long = D.long ∧ Sim D' s U' c now := by
  have hck := h.check hn hk hu
  obtain ⟨h1, h2⟩ := h.there hk hu
  have hk' : keepB D now ((k : Int) + 1) = (⟨D.long, D.many, D.L.map (kf ((k : Int) + 1) (now + D.long))⟩, 0) := by
    unfold keepB
    rw [hck, if_neg (fun q => q rfl), set_map h.ok.rise h1, h2]
  have hok := h.ok.keep now ((k : Int) + 1)
  rw [hk'] at hok
  refine ⟨_, hk', rfl, ⟨hok, h.many, ?_⟩⟩
  show lv (D.L.map _) now = _
  rw [lv_map (fun y hy hyn => ?_), h.live, ← lv_map (fun y hy hyn => ?_)]
  · congr 1
    unfold fl
    rw [List.map_map]
    refine List.map_congr_left fun i hi => ?_
    show kf _ _ ⟨(i : Int) + 1, s i, U i⟩ = _
    unfold kf
    by_cases q : i = k
    · subst q
      rw [if_pos rfl, e2]
    · rw [if_neg (by show ¬ ((i : Int) + 1 = (k : Int) + 1); omega), e i (List.mem_range.1 hi) q]
  · obtain ⟨i, hi, rfl⟩ := fl_mem.1 hy
    have : i = k := by have : (i : Int) + 1 = (k : Int) + 1 := hyn; omega
    subst this
    exact hu
  · have : y = g D.L (nu D.L ((k : Int) + 1)) := num_one h.ok.rise hy (by rw [g_lt h1]; exact List.getElem_mem h1) (by rw [hyn, h2])
    rw [this, h2]
    exact hu

theorem Sim.low (h : Sim D s U c now) (hn : okT now) {last : Int} (hs : okS last) : lowB D now last = (minT (lv (fl s U c) now) last, 0) := by
  unfold lowB
  rw [if_neg (fun q => q ⟨hn, hs⟩), h.live]

theorem minT_fl (s U : Nat → Int) (c : Nat) (now last : Int) : minT (lv (fl s U (c + 1)) now) last = if now ≤ U c then min (minT (lv (fl s U c) now) last) (s c) else minT (lv (fl s U c) now) last := by
  rw [fl_succ, lv_app]
  by_cases e : now ≤ U c
  · rw [if_pos e]
    have : lv [(⟨(c : Int) + 1, s c, U c⟩ : Le)] now = [⟨(c : Int) + 1, s c, U c⟩] := by simp [lv, e]
    rw [this, minT_snoc]
  · rw [if_neg e]
    have : lv [(⟨(c : Int) + 1, s c, U c⟩ : Le)] now = [] := by simp [lv, e]
    rw [this, List.append_nil]

end

/-- which leases were taken behind i places of a tick -/
structure Cnt (T : Nat → Nat) (n now i c : Nat) : Prop where
  le : c ≤ n
  old : ∀ k, k < c → T k < now ∨ (T k = now ∧ k < i)
  new : ∀ k, c ≤ k → k < n → now < T k ∨ (T k = now ∧ i ≤ k)

/-- up to when a lease runs behind i places of a tick -/
def uu (long : Int) (T E : Nat → Nat) (now i k : Nat) : Int := if long = 0 then (T k : Int) else min (if k < i then (now : Int) else (now : Int) - 1) (E k : Int) + long

section
variable {T E : Nat → Nat} {n now i c : Nat} {long : Int}

theorem Cnt.start (n : Nat) : Cnt T n 0 0 0 := ⟨Nat.zero_le _, fun k h => by omega, fun k _ _ => by omega⟩
theorem Cnt.tick (h : Cnt T n now n c) : Cnt T n (now + 1) 0 c := ⟨h.le, fun k hk => by have := h.old k hk; omega, fun k h1 h2 => by have := h.new k h1 h2; omega⟩
theorem Cnt.at_i (h : Cnt T n now i c) (hi : i < n) (hm : ∀ a b, a ≤ b → b < n → T a ≤ T b) (e : T i = now) : c = i ∧ Cnt T n now (i + 1) (i + 1) := by
  have h1 : ¬ i < c := fun q => by have := h.old i q; omega
  have h2 : ¬ c < i := fun q => by have := h.new c (Nat.le_refl _) (by omega); have := hm c i (by omega) hi; omega
  obtain rfl : c = i := by omega
  exact ⟨rfl, by omega, fun k hk => by have := hm k c (by omega) hi; omega, fun k h3 h4 => by have := h.new k (by omega) h4; omega⟩
theorem Cnt.skip (h : Cnt T n now i c) (e : T i ≠ now) : Cnt T n now (i + 1) c :=
  ⟨h.le, fun k hk => by have := h.old k hk; omega, fun k h1 h2 => by
    have h3 := h.new k h1 h2
    by_cases q : k = i
    · subst q; omega
    · omega⟩
theorem Cnt.below (h : Cnt T n now i c) (hi : i < n) (e : T i < now) : i < c := Classical.byContradiction fun q => by have := h.new i (by omega) hi; omega
theorem Cnt.above (h : Cnt T n now i c) (e : now < T i) : c ≤ i := Classical.byContradiction fun q => by have := h.old i (by omega); omega

theorem uu_tick (long : Int) (T E : Nat → Nat) (now n k : Nat) (h : k < n) : uu long T E now n k = uu long T E (now + 1) 0 k := by
  unfold uu
  rw [if_pos h, if_neg (show ¬ k < 0 by omega)]
  congr 3
  omega
theorem uu_other {k : Nat} (h : k ≠ i) : uu long T E now i k = uu long T E now (i + 1) k := by
  unfold uu
  by_cases q : k < i
  · rw [if_pos q, if_pos (show k < i + 1 by omega)]
  · rw [if_neg q, if_neg (show ¬ k < i + 1 by omega)]
theorem uu_taken (h : T i = now) (h2 : now ≤ E i) : uu long T E now (i + 1) i = (now : Int) + long := by
  unfold uu
  rw [if_pos (show i < i + 1 by omega)]
  split
  · omega
  · rw [Int.min_eq_left (by omega)]
theorem uu_kept (h0 : 0 < long) (h2 : now ≤ E i) : (now : Int) ≤ uu long T E now i i ∧ uu long T E now (i + 1) i = max (uu long T E now i i) ((now : Int) + long) := by
  unfold uu
  rw [if_neg (show ¬ long = 0 by omega), if_neg (show ¬ i < i by omega), if_neg (show ¬ long = 0 by omega), if_pos (show i < i + 1 by omega), Int.min_eq_left (by omega), Int.min_eq_left (by omega)]
  omega
theorem uu_past (h : long = 0 ∨ (E i < now)) : uu long T E now i i = uu long T E now (i + 1) i := by
  unfold uu
  rw [if_neg (show ¬ i < i by omega), if_pos (show i < i + 1 by omega)]
  split
  · rfl
  · rw [Int.min_eq_right (by omega), Int.min_eq_right (by omega)]

/-- a lease that counts at the end of a tick -/
theorem uu_counts (h0 : 0 ≤ long) (h : i < n) : (now : Int) ≤ uu long T E now n i ↔ (now : Int) ≤ (if long = 0 then (T i : Int) else (E i : Int) + long) := by
  unfold uu
  rw [if_pos h]
  split
  · exact Iff.rfl
  · omega

end

/-- the least stamp that is wanted, of the first j -/
def wn (s : Nat → Int) (long : Int) (T E : Nat → Nat) (now : Nat) (last : Int) : Nat → Int
  | 0 => last
  | j + 1 => if T j ≤ now ∧ (now : Int) ≤ (if long = 0 then (T j : Int) else (E j : Int) + long) then min (wn s long T E now last j) (s j) else wn s long T E now last j

theorem wn_is {s : Nat → Int} {long : Int} {T E : Nat → Nat} {n now c : Nat} {last : Int} (h : Cnt T n now n c) (h0 : 0 ≤ long) : ∀ j, j ≤ n → wn s long T E now last j = minT (lv (fl s (uu long T E now n) (min j c)) now) last
  | 0, _ => by rw [Nat.zero_min]; rfl
  | j + 1, hj => by
    have ih := wn_is (s := s) (E := E) (last := last) h h0 j (by omega)
    show (if _ then _ else _) = _
    by_cases q : j < c
    · have hT := h.old j q
      rw [show min (j + 1) c = j + 1 by omega, minT_fl, ih, show min j c = j by omega]
      by_cases q2 : (now : Int) ≤ uu long T E now n j
      · rw [if_pos q2, if_pos ⟨by omega, (uu_counts h0 (by omega)).1 q2⟩]
      · rw [if_neg q2, if_neg (fun q3 => q2 ((uu_counts h0 (by omega)).2 q3.2))]
    · have hT := h.new j (by omega) (by omega)
      rw [if_neg (by omega), ih, show min (j + 1) c = min j c by omega]

end Ll
end Go.Proofs.Ytlhcaankfhdakaa
