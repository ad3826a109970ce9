/- The document's queue: Put, Take, Next; no condition but the ranges. -/
import Derived.Test.YtpjoiepdcilcnaaDuRef
import Derived.Test.YtpjoiepdcilcnaaFloatK
import Derived.Test.YtpjoiepdcilcnaaBkGrow
namespace Go.Proofs.Ytpjoiepdcilcnaa
namespace Du
open Go.RowKit Bk

attribute [local go_sem ↓] Go.wp_at_zero Go.wp_at_succ
attribute [local go_sem] floatUpon pick

theorem run_append_emptyN {P : Program} (w : World) (base : Nat) (t ty e : TypeId) (i : TypeInfo) (z : Value) (sz bytes : Nat) (ht : P.underlying t = some (.slice e)) (hi : P.info? e = some i) (hz : i.zero = some z)
    (hsize : i.size = sz) (hby : i.bytes = bytes) (hzs : z.cells.size = sz) (h0 : 0 < sz) (g : Nat) (hg : w.heap[g]? = some (.cells #[] e (0, 0))) (hbg : base ≤ g)
    (A : Option Addr) (m c : Nat) (news : List Value) (hl : news.length = m * sz) (hA : A = none → m = 0 ∧ c = 0) (hnews : ∀ ad, A = some ad → ∀ j u, news[j]? = some u → w.cell? (ad.add j) = some u) (h1 : ∀ u ∈ news, u.oneCell' = true)
    (h63 : m ≤ maxLen) (hbytes : m * bytes ≤ 140737488355328) :
    ∃ v' w', (Builtin.append_ #[t, t] ty #[.slice (some ⟨g, 0, none⟩) 0 0, .slice A m c]).run P w = .ok v' w' ∧ w'.ownsRow base e sz v' m news ∧ Below w.heap.size w w' := by
  have hlt : g < w.heap.size := (Array.getElem?_eq_some_iff.1 hg).1
  have hown : w.ownsRow base e sz (.slice (some ⟨g, 0, none⟩) 0 0) 0 [] := ⟨by simp, .inr ⟨g, 0, #[], rfl, hbg, hg, Nat.le_refl _, Nat.zero_le _, by simp, by simp⟩⟩
  cases A with
  | none =>
    obtain ⟨rfl, rfl⟩ := hA rfl
    obtain rfl : news = [] := List.eq_nil_of_length_eq_zero (by omega)
    exact ⟨_, _, run_append_owned_none (P := P) w base t ty e i sz ht hi _ _ _ hown, hown, Below.refl _ _⟩
  | some ad =>
    by_cases hm : m = 0
    · subst hm
      obtain rfl : news = [] := List.eq_nil_of_length_eq_zero (by omega)
      have hr := run_append_room (P := P) w t ty e i ht hi g 0 0 #[] hg ad 0 c [] (by simp) (fun j u h => by simp at h) (fun u h => by simp at h) (by omega) (by simp)
      have he : (List.take (0 * i.size) (#[] : Array Value).toList ++ ([] : List Value) ++ List.drop (0 * i.size + ([] : List Value).length) (#[] : Array Value).toList).toArray = (#[] : Array Value) := by simp
      rw [he] at hr
      refine ⟨_, _, hr, ?_, ?_⟩
      · refine ⟨by simp, .inr ⟨g, 0, #[], rfl, hbg, ?_, Nat.le_refl _, Nat.zero_le _, by simp, by simp⟩⟩
        exact setRow_heap w g _ _ e _ hg
      · exact setRow_same hg
    · have hb2 : (0 + m) * bytes ≤ 140737488355328 := by rw [Nat.zero_add]; exact hbytes
      obtain ⟨v', w', hr, h2, h3, _, _⟩ := run_append_own_at (P := P) w base t ty e i z sz bytes ht hi hz hsize hby hzs h0 _ 0 [] hown ad m c news hl (hnews ad rfl) h1 (by omega) hb2 (by omega)
      have hr2 := run_append_grow (P := P) w t ty e i z ht hi hz ⟨g, 0, none⟩ 0 0 [] (by simp) (fun j v h => by simp at h) ad m c news (by rw [hl, hsize]) (hnews ad rfl) (by omega) (by unfold maxLen at h63; omega) (growslice_fits (by omega) (by rw [hby]; exact hb2))
      rw [hr] at hr2
      simp only [Result.ok.injEq] at hr2
      obtain ⟨e1, e2⟩ := hr2
      rw [Nat.zero_add, List.nil_append] at h2
      refine ⟨v', w', hr, h2, ?_⟩
      rw [e2]
      exact (Below.refl _ w).drew.alloc (by simp) _

/-- no old block is written, or cells are laid behind a row of a block from H on, where there is room -/
def GrN (H : Nat) (T : TypeId) (pre us : List Value) (W W' : World) : Prop :=
  Below W.heap.size W W' ∨ ∃ (g : Nat) (cur : Array Value), H ≤ g ∧ W.heap[g]? = some (.cells cur T (0, 0)) ∧ pre.length + us.length ≤ cur.size ∧ cur.toList.take pre.length = pre ∧ W' = W.setRow g (pre ++ us ++ cur.toList.drop (pre.length + us.length)).toArray

section
variable {T : TypeId} {H : Nat} {pre us : List Value} {w W W' : World}

theorem GrN.below {X : Nat} (h : Below X w W) (hX : X ≤ W.heap.size) (hH : X ≤ H) (hk : GrN H T pre us W W') : Below X w W' := by
  rcases hk with hk | ⟨g, cur, hg, _, _, _, rfl⟩
  · exact h.trans (hk.mono hX)
  · exact ⟨h.os, h.tape, h.output, by simpa using h.size, fun k hk => (setRow_other W g k _ (by omega)).trans (h.block k hk)⟩

theorem GrN.size (hk : GrN H T pre us W W') : W.heap.size ≤ W'.heap.size := by
  rcases hk with hk | ⟨g, cur, _, _, _, _, rfl⟩
  · exact hk.size
  · simp

theorem GrN.lit {p : Nat} {t : TypeId} (h : W.heap[p]? = some (.cells #[] t (0, 0))) (hk : GrN H T pre us W W') : W'.heap[p]? = some (.cells #[] t (0, 0)) := by
  rcases hk with hk | ⟨g, cur, _, hg, hz, _, rfl⟩
  · exact (hk.block p (Array.getElem?_eq_some_iff.1 h).1).trans h
  · by_cases e : p = g
    · subst e
      rw [h] at hg
      simp only [Option.some.injEq, Obj.cells.injEq, and_true] at hg
      obtain ⟨rfl, rfl⟩ := hg
      have h1 : pre = [] := List.eq_nil_of_length_eq_zero (by simp at hz; simp [hz.1])
      have h2 : us = [] := List.eq_nil_of_length_eq_zero (by simp at hz; simp [hz.2])
      subst h1 h2
      exact setRow_heap W p _ _ t _ h
    · exact (setRow_other W g p _ e).trans h

/-- the row, ahead of it or behind it -/
theorem GrN.row {B n sz : Nat} {v : Value} {xs : List Value} (h : W.ownsRow B T sz v n xs) (hx : xs = pre ∨ xs = pre ++ us) (hk : GrN H T pre us W W') : W'.ownsRow B T sz v n xs := by
  rcases hk with hb | ⟨g, cur, hH', hg, hz, ht, rfl⟩
  · exact st_keep h hb
  · refine ⟨h.1, ?_⟩
    rcases h.2 with h' | ⟨g2, cap2, cur2, hv, hH, hg2, h1, h2, h3, h4⟩
    · exact .inl h'
    · right
      by_cases e : g2 = g
      · subst e
        rw [hg] at hg2
        simp only [Option.some.injEq, Obj.cells.injEq, and_true] at hg2
        obtain rfl := hg2
        refine ⟨g2, cap2, _, hv, hH, setRow_heap W g2 _ _ T _ hg, h1, h2, ?_, ?_⟩
        · rw [← h3]
          simp only [List.size_toArray, List.length_append, List.length_drop, Array.length_toList]
          omega
        · rw [List.toList_toArray]
          have hl : xs.length = n * sz := h.1
          rcases hx with rfl | rfl
          · rw [List.append_assoc, List.take_append_of_le_length (by omega), List.take_of_length_le (by omega)]
          · rw [List.take_append_of_le_length (by omega), List.take_of_length_le (by omega)]
      · exact ⟨g2, cap2, cur2, hv, hH, (setRow_other W g g2 _ e).trans hg2, h1, h2, h3, h4⟩

/-- cells are appended -/
theorem run_growN {P : Program} {bytes sz n m c : Nat} {A : Option Addr} {t ty : TypeId} {i : TypeInfo} {z v : Value} (ht : P.underlying t = some (.slice T)) (hi : P.info? T = some i) (hz : i.zero = some z) (hsize : i.size = sz) (hby : i.bytes = bytes) (hzs : z.cells.size = sz) (h0 : 0 < sz)
    (hown : W.ownsRow H T sz v n pre) (hl : us.length = m * sz) (hA : A = none → m = 0 ∧ c = 0) (hnews : ∀ ad, A = some ad → ∀ j u, us[j]? = some u → W.cell? (ad.add j) = some u) (h1 : ∀ u ∈ us, u.oneCell' = true)
    (h63 : n + m ≤ maxLen) (hbytes : (n + m) * bytes ≤ 140737488355328) (hbase : H ≤ W.heap.size) :
    ∃ v' W', (Builtin.append_ #[t, t] ty #[v, .slice A m c]).run P W = .ok v' W' ∧ W'.ownsRow H T sz v' (n + m) (pre ++ us) ∧ GrN H T pre us W W' := by
  obtain ⟨v', w', hrun, h2, h3, h5⟩ := run_append_optN (P := P) W H t ty T i z sz bytes ht hi hz hsize hby hzs h0 v n pre hown A m c us hl hA hnews h1 h63 hbytes hbase
  refine ⟨v', w', hrun, h2, ?_⟩
  have hpl : pre.length = n * sz := hown.1
  cases A with
  | none =>
    obtain ⟨rfl, rfl⟩ := hA rfl
    have hr2 := run_append_owned_none (P := P) W H t ty T i sz ht hi _ _ _ hown
    rw [hrun] at hr2
    simp only [Result.ok.injEq] at hr2
    left
    rw [hr2.2]; exact Below.refl _ _
  | some ad =>
    rcases hown.2 with ⟨h', h''⟩ | ⟨g, cap, cur, hv, hbg, hg, hnc, hcm, hcs, htake⟩
    · subst h'
      left
      exact ⟨h3.os, h3.tape, h3.output, h3.size, fun k hk => h3.block k hk (by simp [Value.ownBlock])⟩
    · subst hv
      by_cases hroom : n + m ≤ cap
      · have hr2 := run_append_room (P := P) W t ty T i ht hi g n cap cur hg ad m c us (by rw [hsize]; omega) (hnews ad rfl) h1 hroom (by rw [hsize, hcs, hl, ← Nat.add_mul]; exact Nat.mul_le_mul_right _ hroom)
        rw [hrun] at hr2
        simp only [Result.ok.injEq] at hr2
        refine .inr ⟨g, cur, hbg, hg, by rw [hpl, hl, hcs, ← Nat.add_mul]; exact Nat.mul_le_mul_right _ hroom, by rw [hpl]; exact htake, ?_⟩
        rw [hr2.2, hsize, htake, hpl]
      · have hr2 := run_append_grow (P := P) W t ty T i z ht hi hz ⟨g, 0, none⟩ n cap pre (by rw [hsize]; exact hpl) (hown.cells (g := g) rfl) ad m c us (by rw [hsize]; exact hl) (hnews ad rfl) (by omega) (by unfold maxLen at h63; omega) (growslice_fits (by unfold maxLen at h63; omega) (by rw [hby]; exact hbytes))
        rw [hrun] at hr2
        simp only [Result.ok.injEq] at hr2
        left
        rw [hr2.2]
        exact (Below.refl _ W).drew.alloc (by simp) _

end

section
variable {W W' : World} {base : Nat} {v : Value} {l : List Tk}

theorem GrN.one {H : Nat} {T : TypeId} {pre us : List Value} {p : Nat} {W W' : World} (h : W.heap[p]? = some (.cells us.toArray T (0, 0))) (hk : GrN H T pre us W W') : W'.heap[p]? = some (.cells us.toArray T (0, 0)) := by
  rcases hk with hk | ⟨g, cur, _, hg, hz, _, rfl⟩
  · exact (hk.block p (Array.getElem?_eq_some_iff.1 h).1).trans h
  · by_cases e : p = g
    · subst e
      rw [h] at hg
      simp only [Option.some.injEq, Obj.cells.injEq, and_true] at hg
      subst hg
      have hz2 : pre.length + us.length ≤ us.length := by simpa using hz
      have h1 : pre = [] := List.eq_nil_of_length_eq_zero (by omega)
      subst h1
      rw [setRow_heap W p _ _ T _ h]
      simp
    · exact (setRow_other W g p _ e).trans h

theorem DRow.nil {A : Option Addr} {c : Nat} (h : DRow W base (.slice A l.length c) l) : A = none → l.length = 0 ∧ c = 0 := fun e => by
  subst e
  rcases h.2 with ⟨e2, e3⟩ | ⟨p, cap, cur, e2, _⟩
  · simp only [Value.slice.injEq] at e2; exact ⟨e3, e2.2.2⟩
  · simp at e2

theorem DRow.news {A : Option Addr} {c : Nat} (h : DRow W base (.slice A l.length c) l) : ∀ ad, A = some ad → ∀ j u, (l.flatMap tkC)[j]? = some u → W.cell? (ad.add j) = some u := fun ad e j u hu => by
  subst e
  have hj := (List.getElem?_eq_some_iff.1 hu).1
  rw [fl_len] at hj
  obtain ⟨p, cap, rest, e2, _, hc, _⟩ := h.blk (by omega)
  simp only [Value.slice.injEq, Option.some.injEq] at e2
  obtain ⟨rfl, -, -⟩ := e2
  rw [addr_head]
  exact hc.cell (by rw [List.getElem?_append_left (by rw [fl_len]; exact hj)]; exact hu)

def TIs (u v : Value) (_ : World) : Prop := v = u

set_option maxRecDepth 20000 in
set_option maxHeartbeats 8000000 in
theorem rput_any {r : Nat} {D : Ds} (h : RQ W base r v D) (a u i : Int) (h0 : 0 ≤ D.many) (hmany : D.many ≤ 4611686018427387904) (h10 : D.L.length ≤ 1024) : Calls Try.prog 12 #[.pointer (some ⟨r, 0, none⟩), .int .i64 a, .int .i64 u, .int .i64 i] W fun e W' => e = .returned (.tuple #[.int .i64 (putD D a u i).2.1, .int .i64 (putD D a u i).2.2]) ∧ RP W base r v (putD D a u i).1 W' := by
  obtain ⟨A, c, hv⟩ := h.row.form
  have HQ := Lib.hid h
  have HV := Lib.hid hv
  have k0 := h.cel.cell (i := 0) rfl
  have k2 := h.cel.cell (i := 2) rfl
  have f2 := h.cel.free (i := 2)
  rw [hv] at k0
  by_cases h1 : a < 0
  · unfold putD
    rw [if_pos (.inl h1)]
    clear h hv
    go_enter Try.func12, Try.ntmps12
    go_wp2
    go_ret2
    exact ⟨rfl, v, HQ.out, RM.of (Below.refl _ _)⟩
  · by_cases h2 : 1099511627776 < a
    · unfold putD
      rw [if_pos (.inr h2)]
      clear h hv
      go_enter Try.func12, Try.ntmps12
      go_wp2
      go_ret2
      exact ⟨rfl, v, HQ.out, RM.of (Below.refl _ _)⟩
    · have p1 : 0 ≤ a := by omega
      have p2 : a ≤ 1099511627776 := by omega
      by_cases h3 : 1024 ≤ D.L.length
      · unfold putD
        rw [if_neg (by omega), if_pos h3]
        have p3 : (1024 : Int) ≤ (D.L.length : Int) := by omega
        clear h hv h1 h2 h3
        go_enter Try.func12, Try.ntmps12
        go_wp2
        go_ret2
        exact ⟨rfl, v, HQ.out, RM.of (Below.refl _ _)⟩
      · have hput : putD D a u i = (⟨D.L ++ [⟨a, u, i, D.many + 1⟩], D.tick, D.many + 1⟩, D.many + 1, 0) := by unfold putD; rw [if_neg (by omega), if_neg h3]
        rw [hput]
        have p3 : (D.L.length : Int) < 1024 := by omega
        have p4 : D.many + 1 ≤ 9223372036854775807 := by omega
        have hq1 : RQ (W.setCell ⟨r, 2, none⟩ (.int .i64 (D.many + 1))) base r v ⟨D.L, D.tick, D.many + 1⟩ :=
          have g := grow_put W r 2 (.int .i64 (D.many + 1))
          ⟨h.cel.set (i := 2) (v := .int .i64 (D.many + 1)), h.row.same (fun p hp => g.block p (h.row.lt hp).1 (fun e => h.far (by rw [hp, e]))), h.far, h.rb, Nat.le_trans h.bs g.size⟩
        have g1 := grow_put W r 2 (.int .i64 (D.many + 1))
        have HG1 := Lib.hid g1
        obtain ⟨i0, z0, hi, hz0, hz1, hz2, hz3⟩ := info_dt
        have HL10 := Lib.hid h10
        clear h hv h1 h2 h3 hput g1 h10
        go_enter Try.func12, Try.ntmps12
        go_upto_region 6 with fail
        generalize W.setCell ⟨r, 2, none⟩ (.int .i64 (D.many + 1)) = w1 at hq1 HG1 ⊢
        have HR1 := Lib.hid hq1
        rw [HV.out] at hq1
        have HRw := Lib.hid hq1.row
        clear hq1 k0 k2 f2
        have hone : (tkC ⟨a, u, i, D.many + 1⟩).length = 1 * 4 := rfl
        refine wp_region_saidK 19 [29, 30, 31, 32, 33, 34, 35, 36, 37, 38, 39, 40, 41, 42, 43, 44, 45, 46, 47]
          [TIs (.pointer (some ⟨r, 0, none⟩)), (fun v V => ∃ p, w1.heap.size ≤ p ∧ v = .slice (some ⟨p, 0, none⟩) 0 0 ∧ V.heap[p]? = some (.cells #[] 65 (0, 0))), TIs (.pointer (some ⟨r, 0, none⟩)), TIs (.pointer (some ⟨r, 0, none⟩)), TIs (.pointer (some ⟨r, 0, none⟩)), TIs (.slice A D.L.length c), (fun v V => V.ownsRow w1.heap.size 65 4 v D.L.length (D.L.flatMap tkC)), TIs (.int .i64 a), TIs (.int .i64 u), TIs (.int .i64 i), TIs (.pointer (some ⟨r, 0, none⟩)), TIs (.pointer (some ⟨r, 0, none⟩)), TIs (.pointer (some ⟨r, 2, none⟩)), TIs (.int .i64 (D.many + 1)), TIs (.agg #[.int .i64 a, .int .i64 u, .int .i64 i, .int .i64 (D.many + 1)]), (fun v V => ∃ p, w1.heap.size ≤ p ∧ v = .slice (some ⟨p, 0, none⟩) 1 1 ∧ V.heap[p]? = some (.cells #[.int .i64 a, .int .i64 u, .int .i64 i, .int .i64 (D.many + 1)] 65 (0, 0))), (fun v V => V.ownsRow w1.heap.size 65 4 v (D.L.length + 1) (D.L.flatMap tkC ++ tkC ⟨a, u, i, D.many + 1⟩)), TIs (.pointer (some ⟨r, 0, none⟩)), TIs (.pointer (some ⟨r, 0, none⟩))]
          (fun V => Below w1.heap.size w1 V) (GrN w1.heap.size 65 (D.L.flatMap tkC) (tkC ⟨a, u, i, D.many + 1⟩)) (by kernel_rfl) (by kernel_rfl) (by kernel_rfl) (by kernel_rfl) (by kernel_rfl)
          (satK_of fun S hS v V V' h hk => by
            simp only [List.mem_cons, List.not_mem_nil, or_false] at hS
            rcases hS with rfl | rfl | rfl | rfl | rfl | rfl | rfl | rfl | rfl | rfl | rfl | rfl | rfl | rfl | rfl | rfl | rfl | rfl | rfl
            all_goals first | exact h | (obtain ⟨p, p1, p2, p3⟩ := h; exact ⟨p, p1, p2, hk.lit p3⟩) | exact hk.row h (.inl rfl) | exact hk.row h (.inr rfl) | (obtain ⟨p, p1, p2, p3⟩ := h; exact ⟨p, p1, p2, GrN.one (us := tkC ⟨a, u, i, D.many + 1⟩) p3 hk⟩))
          (fun V V' h hk => hk.below h h.size (Nat.le_refl _)) (fun V => .inl (Below.refl _ V).drew) (Below.refl _ _) ?steps ?last
        case steps =>
          simp only [List.take_succ_cons, List.take_zero]
          refine ⟨?_, ?_, ?_, ?_, ?_, ?_, ?_, ?_, ?_, ?_, ?_, ?_, ?_, ?_, ?_, ?_, ?_, ?_, ?_, trivial⟩
          all_goals
            intro vs V ρ hρ hc hf hg hI hd R' hR
            have kc := (HR1.out.below hI).cel
            have q0 := kc.cell (i := 0) rfl
            rw [HV.out] at q0
            have q2 := kc.cell (i := 2) rfl
            have HR := Lib.hid hR
            have HI := Lib.hid hI
            simp [depsOf, Region.binds, satK, TIs] at hd
            clear hR hI kc
          case refine_2 =>
            go_simp
            exact HR.out _ _ ⟨V.heap.size, HI.out.size, rfl, heap_alloc_new V _⟩ (.inl ((Below.refl _ _).alloc (Nat.le_refl _) _))
          case refine_16 =>
            go_simp
            exact HR.out _ _ ⟨V.heap.size, HI.out.size, rfl, heap_alloc_new V _⟩ (.inl ((Below.refl _ _).alloc (Nat.le_refl _) _))
          case refine_7 =>
            obtain ⟨⟨p, p1, p2, p3⟩, hv⟩ := hd
            obtain ⟨v', w', hr, h2, h3⟩ := run_append_emptyN (P := Try.prog) V w1.heap.size 26 26 65 i0 z0 4 32 Try.underlying26 hi hz0 hz2 hz3 hz1 (by decide) p p3 p1 A D.L.length c (D.L.flatMap tkC) (fl_len _) HRw.out.nil (DRow.news (st_keep HRw.out HI.out)) tk_one (by have := HL10.out; unfold maxLen; omega) (by have := HL10.out; omega)
            have e0 : ρ (.tmp 30) = .slice (some ⟨p, 0, none⟩) 0 0 := by rw [hρ]; simp [pick, p2]
            have e2 : ρ (.tmp 34) = .slice A D.L.length c := by rw [hρ]; simp [pick, hv]
            rw [if_pos (by simp [Region.wanted])]
            unfold execOp
            simp only [resolve, invoke, builtin, Sem.run_bind, Sem.run_pure, Result.andThen_ok, List.map_toArray, List.map_cons, List.map_nil, e0, e2, hr, floatUpon]
            exact HR.out _ _ h2 (.inl h3)
          case refine_17 =>
            have hd1 : V.ownsRow w1.heap.size 65 4 (vs 6) D.L.length (D.L.flatMap tkC) := by first | exact hd.1 | exact hd.2 | exact hd.2.1 | exact hd.1.1
            have hd2 : ∃ p, w1.heap.size ≤ p ∧ vs 15 = .slice (some ⟨p, 0, none⟩) 1 1 ∧ V.heap[p]? = some (.cells #[.int .i64 a, .int .i64 u, .int .i64 i, .int .i64 (D.many + 1)] 65 (0, 0)) := by first | exact hd.2.1 | exact hd.2 | exact hd.1 | exact hd.2.2
            obtain ⟨p, p1, p2, p3⟩ := hd2
            obtain ⟨v', w', hr, h2, h3⟩ := run_growN (P := Try.prog) (W := V) (H := w1.heap.size) (sz := 4) (bytes := 32) (n := D.L.length) (m := 1) (c := 1) (A := some ⟨p, 0, none⟩) (t := 26) (ty := 26) Try.underlying26 hi hz0 hz2 hz3 hz1 (by decide) hd1 hone (fun e => by cases e) (fun ad e j y hy => by cases e; rw [addr_head]; exact (show Cel V p 65 (tkC ⟨a, u, i, D.many + 1⟩) from p3).cell hy) (fun y hy => tk_one (l := [⟨a, u, i, D.many + 1⟩]) y (by simpa using hy)) (by have := HL10.out; unfold maxLen; omega) (by have := HL10.out; omega) HI.out.size
            have e0 : ρ (.tmp 35) = vs 6 := by rw [hρ]; simp [pick]
            have e2 : ρ (.tmp 44) = .slice (some ⟨p, 0, none⟩) 1 1 := by rw [hρ]; simp [pick, p2]
            rw [if_pos (by simp [Region.wanted])]
            unfold execOp
            simp only [resolve, invoke, builtin, Sem.run_bind, Sem.run_pure, Result.andThen_ok, List.map_toArray, List.map_cons, List.map_nil, e0, e2, hr, floatUpon]
            exact HR.out _ _ h2 h3
          all_goals
            go_simp
            first
              | exact HR.out _ _ (by simp [satK, TIs]) (.inl (Below.refl _ _))
              | trace_state
        case last =>
          intro vs V hI hg
          have g16 := hg 16 (by omega)
          have g18 := hg 18 (by omega)
          simp only [satK, List.getD_cons_succ, List.getD_cons_zero, TIs] at g16 g18
          simp only [List.take_succ_cons, List.take_zero, List.drop_succ_cons, List.drop_zero, putAll, Act.put, List.setIfInBounds_toArray, List.set_cons_succ, List.set_cons_zero, Nat.zero_add, Nat.reduceAdd]
          rw [g18]
          generalize vs 16 = v16 at g16 ⊢
          have hr : DRow V w1.heap.size v16 (D.L ++ [⟨a, u, i, D.many + 1⟩]) := by
            unfold DRow
            rw [List.length_append, List.flatMap_append]
            simpa using g16
          obtain ⟨A16, c16, rfl⟩ := hr.form
          have hp := HR1.out.put hI (D' := ⟨D.L ++ [⟨a, u, i, D.many + 1⟩], D.tick, D.many + 1⟩) hr rfl rfl
          obtain ⟨v', hq', hm'⟩ := hp
          have hz : RP W base r v ⟨D.L ++ [⟨a, u, i, D.many + 1⟩], D.tick, D.many + 1⟩ (V.setCell ⟨r, 0, none⟩ (.slice A16 (D.L ++ [(⟨a, u, i, D.many + 1⟩ : Tk)]).length c16)) :=
            ⟨v', hq', hm'.os.trans HG1.out.os, hm'.tape.trans HG1.out.tape, hm'.output.trans HG1.out.output, Nat.le_trans HG1.out.size hm'.size, fun k hk hn => (hm'.block k (Nat.lt_of_lt_of_le hk HG1.out.size) hn).trans (HG1.out.block k hk (fun e => hn (Option.some.inj e))), fun q hq => (hm'.own q hq).imp id (fun hs => Nat.le_trans HG1.out.size hs)⟩
          have s2 := (HR1.out.below hI).cel.cell (i := 2) rfl
          have s0 := (HR1.out.below hI).cel.cell (i := 0) rfl
          have sf := (HR1.out.below hI).cel.free (i := 0)
          rw [HV.out] at s0
          rw [List.length_append, List.length_singleton] at hz
          have HZ := Lib.hid hz
          clear g16 g18 hg hI hr hq' hm' hz HR1 HRw
          go_wp2
          go_ret2
          exact ⟨rfl, HZ.out⟩

set_option maxHeartbeats 4000000 in
theorem rnext_any {r : Nat} {D : Ds} (h : RQ W base r v D) (h10 : D.L.length ≤ 1024) : Calls Try.prog 20 #[.pointer (some ⟨r, 0, none⟩)] W fun e W' => e = .returned (.tuple #[.int .i64 (nextD D).1, .bool (nextD D).2]) ∧ W' = W := by
  obtain ⟨A, c, hv⟩ := h.row.form
  have k0 := h.cel.cell (i := 0) rfl
  cases hL : D.L with
  | nil =>
    rw [hv, hL] at k0
    have hn : nextD D = (0, false) := by unfold nextD; rw [hL]
    rw [hn]
    clear h hv
    simp only [List.length_nil] at k0
    go_enter Try.func20, Try.ntmps20
    go_wp2
    go_ret2
    exact ⟨rfl, rfl⟩
  | cons x q =>
    have hn : nextD D = (minA q x.a, true) := by unfold nextD; rw [hL]
    rw [hn]
    have hrow := h.row
    rw [hL] at hrow
    obtain ⟨p, cap, rest, e1, hbp, hc, h1, h2, h3⟩ := hrow.blk (by simp)
    rw [e1] at k0
    have HC := Lib.hid hc
    have e0 : W.cell? ⟨p, 0, none⟩ = some (.int .i64 x.a) := dcell_of hc (k := 0) (by simp) (j := 0) (by omega) rfl
    have hq10 : q.length + 1 ≤ 1024 := by rw [hL] at h10; simpa using h10
    have q0 : (((q.length : Int) + 1) == 0) = false := by rw [beq_eq_false_iff_ne]; omega
    rw [List.length_cons] at k0
    clear h hv hn hrow hc h1 h2 h3 hbp e1 hL h10
    go_enter Try.func20, Try.ntmps20
    go_wp2_with fail
    go_loopw [4, 5] (fun m i wr => ∃ j : Nat, j ≤ q.length ∧ m = .int .i64 (minA (q.take j) x.a) ∧ i = .int .i64 ((j : Int) + 1) ∧ wr = W) (fun _ i _ => q.length + 1 - (intOf i).toNat)
    case atStart => exact ⟨0, by omega, rfl, rfl, rfl⟩
    case round =>
      obtain ⟨j, hj, rfl, rfl, rfl⟩ := hrel
      by_cases hlt : j < q.length
      · have c0 : wr.cell? ⟨p, (j + 1) * 4, none⟩ = some (.int .i64 (g q j).a) := dcell_of HC.out (k := j + 1) (by simp; omega) (j := 0) (by omega) rfl
        have p1 : (j : Int) + 1 < (q.length : Int) + 1 := by omega
        have ht : minA (q.take (j + 1)) x.a = min (minA (q.take j) x.a) (g q j).a := by
          rw [List.take_succ_eq_append_getElem hlt, minA_snoc, g_lt hlt]
        have HT := Lib.hid ht
        clear ht
        generalize minA (q.take j) x.a = m0 at HT ⊢
        go_wp2_with fail
        all_goals
          go_roundw
          case rel => exact ⟨j + 1, by omega, by rw [HT.out, Int.min_def]; congr 1; split <;> split <;> omega, by go_num, by first | rfl | trivial⟩
          case measure => simp [intOf]; omega
      · obtain rfl : j = q.length := by omega
        rw [List.take_length]
        go_wp2_with fail
        go_ret2
        exact ⟨rfl, rfl⟩

end

end Du
end Go.Proofs.Ytpjoiepdcilcnaa
