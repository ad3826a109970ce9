/- Parts of the proof, joined: ShGrow, BkGrow, ShRef8, ShRef9; their conditions stand with each. -/
import Derived.Maps.AppendAt
import Derived.Test.YtbkanoblcojdfaaGreatM3
import Derived.Test.YtbkanoblcojdfaaGreatM6
import Derived.Test.YtbkanoblcojdfaaGreatM14

namespace Go.Proofs.YtbkanoblcojdfaaGreat
namespace Sh
open Go.RowKit Bk
def GrN (H : Nat) (T : TypeId) (pre us : List Value) (W W' : World) : Prop :=
  Below W.heap.size W W' ∨ ∃ (g : Nat) (cur : Array Value), H ≤ g ∧ W.heap[g]? = some (.cells cur T (0, 0)) ∧ pre.length + us.length ≤ cur.size ∧ cur.toList.take pre.length = pre ∧ W' = W.setRow g (pre ++ us ++ cur.toList.drop (pre.length + us.length)).toArray
section
variable {T : TypeId} {H : Nat} {pre us : List Value} {w W W' : World}
theorem GrN.below {X : Nat} (h : Below X w W) (hX : X ≤ W.heap.size) (hH : X ≤ H) (hk : GrN H T pre us W W') : Below X w W' := by
  rcases hk with hk | ⟨g, cur, hg, _, _, _, rfl⟩
  · exact h.trans (hk.mono hX)
  · exact ⟨h.os, h.tape, h.output, by simpa using h.size, fun k hk => (setRow_other W g k _ (by omega)).trans (h.block k hk)⟩
theorem GrN.size (hk : GrN H T pre us W W') : W.heap.size ≤ W'.heap.size := by
  rcases hk with hk | ⟨g, cur, _, _, _, _, rfl⟩
  · exact hk.size
  · simp
theorem GrN.lit {p : Nat} {t : TypeId} (h : W.heap[p]? = some (.cells #[] t (0, 0))) (hk : GrN H T pre us W W') : W'.heap[p]? = some (.cells #[] t (0, 0)) := by
  rcases hk with hk | ⟨g, cur, _, hg, hz, _, rfl⟩
  · exact (hk.block p (Array.getElem?_eq_some_iff.1 h).1).trans h
  · by_cases e : p = g
    · subst e
      rw [h] at hg
      simp only [Option.some.injEq, Obj.cells.injEq, and_true] at hg
      obtain ⟨rfl, rfl⟩ := hg
      have h1 : pre = [] := List.eq_nil_of_length_eq_zero (by simp at hz; simp [hz.1])
      have h2 : us = [] := List.eq_nil_of_length_eq_zero (by simp at hz; simp [hz.2])
      subst h1 h2
      exact setRow_heap W p _ _ t _ h
    · exact (setRow_other W g p _ e).trans h
theorem GrN.row {B n sz : Nat} {v : Value} {xs : List Value} (h : W.ownsRow B T sz v n xs) (hx : xs = pre ∨ xs = pre ++ us) (hk : GrN H T pre us W W') : W'.ownsRow B T sz v n xs := by
  rcases hk with hb | ⟨g, cur, hH', hg, hz, ht, rfl⟩
  · exact st_keep h hb
  · refine ⟨h.1, ?_⟩
    rcases h.2 with h' | ⟨g2, cap2, cur2, hv, hH, hg2, h1, h2, h3, h4⟩
    · exact .inl h'
    · right
      by_cases e : g2 = g
      · subst e
        rw [hg] at hg2
        simp only [Option.some.injEq, Obj.cells.injEq, and_true] at hg2
        obtain rfl := hg2
        refine ⟨g2, cap2, _, hv, hH, setRow_heap W g2 _ _ T _ hg, h1, h2, ?_, ?_⟩
        · rw [← h3]
          simp only [List.size_toArray, List.length_append, List.length_drop, Array.length_toList]
          omega
        · rw [List.toList_toArray]
          have hl : xs.length = n * sz := h.1
          rcases hx with rfl | rfl
          · rw [List.append_assoc, List.take_append_of_le_length (by omega), List.take_of_length_le (by omega)]
          · rw [List.take_append_of_le_length (by omega), List.take_of_length_le (by omega)]
      · exact ⟨g2, cap2, cur2, hv, hH, (setRow_other W g g2 _ e).trans hg2, h1, h2, h3, h4⟩
theorem run_growN {P : Program} {bytes sz n m c : Nat} {A : Option Addr} {t ty : TypeId} {i : TypeInfo} {z v : Value} (ht : P.underlying t = some (.slice T)) (hi : P.info? T = some i) (hz : i.zero = some z) (hsize : i.size = sz) (hby : i.bytes = bytes) (hzs : z.cells.size = sz) (h0 : 0 < sz)
    (hown : W.ownsRow H T sz v n pre) (hl : us.length = m * sz) (hA : A = none → m = 0 ∧ c = 0) (hnews : ∀ ad, A = some ad → ∀ j u, us[j]? = some u → W.cell? (ad.add j) = some u) (h1 : ∀ u ∈ us, u.oneCell' = true)
    (h63 : n + m ≤ maxLen) (hbytes : (n + m) * bytes ≤ 140737488355328) (hbase : H ≤ W.heap.size) :
    ∃ v' W', (Builtin.append_ #[t, t] ty #[v, .slice A m c]).run P W = .ok v' W' ∧ W'.ownsRow H T sz v' (n + m) (pre ++ us) ∧ GrN H T pre us W W' := by
  obtain ⟨v', w', hrun, h2, h3, h5⟩ := run_append_optN (P := P) W H t ty T i z sz bytes ht hi hz hsize hby hzs h0 v n pre hown A m c us hl hA hnews h1 h63 hbytes hbase
  refine ⟨v', w', hrun, h2, ?_⟩
  have hpl : pre.length = n * sz := hown.1
  cases A with
  | none =>
    obtain ⟨rfl, rfl⟩ := hA rfl
    have hr2 := run_append_owned_none (P := P) W H t ty T i sz ht hi _ _ _ hown
    rw [hrun] at hr2
    simp only [Result.ok.injEq] at hr2
    left
    rw [hr2.2]; exact Below.refl _ _
  | some ad =>
    rcases hown.2 with ⟨h', h''⟩ | ⟨g, cap, cur, hv, hbg, hg, hnc, hcm, hcs, htake⟩
    · subst h'
      left
      exact ⟨h3.os, h3.tape, h3.output, h3.size, fun k hk => h3.block k hk (by simp [Value.ownBlock])⟩
    · subst hv
      by_cases hroom : n + m ≤ cap
      · have hr2 := run_append_room (P := P) W t ty T i ht hi g n cap cur hg ad m c us (by rw [hsize]; omega) (hnews ad rfl) h1 hroom (by rw [hsize, hcs, hl, ← Nat.add_mul]; exact Nat.mul_le_mul_right _ hroom)
        rw [hrun] at hr2
        simp only [Result.ok.injEq] at hr2
        refine .inr ⟨g, cur, hbg, hg, by rw [hpl, hl, hcs, ← Nat.add_mul]; exact Nat.mul_le_mul_right _ hroom, by rw [hpl]; exact htake, ?_⟩
        rw [hr2.2, hsize, htake, hpl]
      · have hr2 := run_append_grow (P := P) W t ty T i z ht hi hz ⟨g, 0, none⟩ n cap pre (by rw [hsize]; exact hpl) (hown.cells (g := g) rfl) ad m c us (by rw [hsize]; exact hl) (hnews ad rfl) (by omega) (by unfold maxLen at h63; omega) (growslice_fits (by unfold maxLen at h63; omega) (by rw [hby]; exact hbytes))
        rw [hrun] at hr2
        simp only [Result.ok.injEq] at hr2
        left
        rw [hr2.2]
        exact (Below.refl _ W).drew.alloc (by simp) _
end
end Sh
end Go.Proofs.YtbkanoblcojdfaaGreat

namespace Go.Proofs.YtbkanoblcojdfaaGreat
namespace Bk
open Go.RowKit
def GrK (T : TypeId) (r : Option Nat) (pre : List Value) (u : Value) (W W' : World) : Prop :=
  Below W.heap.size W W' ∨ ∃ (g : Nat) (cur : Array Value), r = some g ∧ W.heap[g]? = some (.cells cur T (0, 0)) ∧ pre.length + 1 ≤ cur.size ∧ cur.toList.take pre.length = pre ∧ W' = W.setRow g (pre ++ [u] ++ cur.toList.drop (pre.length + 1)).toArray
section
variable {T : TypeId} {r : Option Nat} {pre : List Value} {u : Value} {w W W' : World}
theorem GrK.grown (h : GrK T r pre u W W') : W.grownBy W' r := by
  rcases h with h | ⟨g, cur, rfl, _, _, _, rfl⟩
  · exact ⟨h.os, h.tape, h.output, h.size, fun k hk _ => h.block k hk⟩
  · exact ⟨rfl, rfl, rfl, by simp, fun k _ hk => setRow_other W g k _ (fun e => hk (by rw [e]))⟩
theorem GrK.size (h : GrK T r pre u W W') : W.heap.size ≤ W'.heap.size := h.grown.size
theorem GrK.below {X : Nat} (h : Below X w W) (hX : X ≤ W.heap.size) (hr : ∀ g, r = some g → X ≤ g) (hk : GrK T r pre u W W') : Below X w W' := h.grown hk.grown hX hr
theorem GrK.cel {k : Nat} {t : TypeId} {xs : List Value} (h : Cel W k t xs) (hn : r ≠ some k) (hk : GrK T r pre u W W') : Cel W' k t xs := (hk.grown.block k h.lt (fun e => hn e.symm)).trans h
theorem GrK.blk {k : Nat} {o : Obj} (h : W.heap[k]? = some o) (hn : r ≠ some k) (hk : GrK T r pre u W W') : W'.heap[k]? = some o := (hk.grown.block k (Array.getElem?_eq_some_iff.1 h).1 (fun e => hn e.symm)).trans h
theorem GrK.more {H n : Nat} {v : Value} (h : W.ownsRow H T 1 v n (pre ++ [u])) (hk : GrK T r pre u W W') : W'.ownsRow H T 1 v n (pre ++ [u]) := by
  rcases hk with hb | ⟨g, cur, rfl, hg, hz, ht, rfl⟩
  · exact st_keep h hb
  · refine ⟨h.1, ?_⟩
    rcases h.2 with h' | ⟨g2, cap2, cur2, hv, hH, hg2, h1, h2, h3, h4⟩
    · exact .inl h'
    · right
      by_cases e : g2 = g
      · subst e
        rw [hg] at hg2
        simp only [Option.some.injEq, Obj.cells.injEq, and_true] at hg2
        obtain rfl := hg2
        refine ⟨g2, cap2, _, hv, hH, setRow_heap W g2 _ _ T _ hg, h1, h2, ?_, ?_⟩
        · rw [← h3]
          simp only [List.size_toArray, List.length_append, List.length_drop, Array.length_toList, List.length_singleton]
          omega
        · rw [List.toList_toArray]
          have hl : (pre ++ [u]).length = n * 1 := h.1
          rw [List.take_append_of_le_length (by omega), List.take_of_length_le (by omega)]
      · exact ⟨g2, cap2, cur2, hv, hH, (setRow_other W g g2 _ e).trans hg2, h1, h2, h3, h4⟩
theorem satK_of {K : World → World → Prop} {L : List (Value → World → Prop)} (h : ∀ S ∈ L, ∀ v W W', S v W → K W W' → S v W') : ∀ i v W W', satK L i v W → K W W' → satK L i v W' := fun i v W W' hs hk => by
  unfold satK at hs ⊢
  rw [List.getD_eq_getElem?_getD] at hs ⊢
  cases e : L[i]? with
  | none => trivial
  | some S =>
    rw [e] at hs
    exact h S (List.mem_of_getElem? e) v W W' hs hk
end
end Bk
end Go.Proofs.YtbkanoblcojdfaaGreat

namespace Go.Proofs.YtbkanoblcojdfaaGreat
namespace Sh
open Go.RowKit Bk Ch Lt Rc Tr
attribute [local go_sem ↓] Go.wp_at_zero Go.wp_at_succ
attribute [local go_sem] floatUpon pick
def TIs (u v : Value) (_ : World) : Prop := v = u
theorem recs_one (L : List RI) : ∀ u ∈ L.flatMap rcs, u.oneCell' = true := fun u hu => by
  obtain ⟨x, _, hx⟩ := List.mem_flatMap.1 hu
  exact one_cells x u hx
section
variable {W : World} {F : Nat → Prop} {g : Nat} {A B C : Option Addr} {a b c : Nat} {K : List KI} {P : List RI} {s : Shf}
set_option maxRecDepth 20000 in
set_option maxHeartbeats 16000000 in
theorem rend_any (h : RAt W F g A B C a b c K P s) (hs : ShOk s) (hF : ∀ k, F k → k < W.heap.size) (txn ts : Int) :
    Calls Tryz.prog 106 #[.pointer (some ⟨g, 0, none⟩), .int .i64 txn, .int .i64 ts] W fun e w' => e = .returned (.tuple #[]) ∧ (∃ B' C' b' c' P', RAt w' F g A B' C' a b' c' K P' (endP s txn ts)) ∧ One g W w' := by
  obtain ⟨i1, hi, hz0, hz1, hz2⟩ := info_parts Tryz.infoEnd
  obtain ⟨i9, z9, hi9, hz9, hzs9, hs9, hb9⟩ := info_rec
  have HP := Lib.hid (rprep_any h hs.pl txn)
  have HH := Lib.hid h
  have hHl := h.cel.lt
  have HG := Lib.hid (show ∀ k, G F g k → k < W.heap.size from fun k hk => hk.elim (hF k) (fun e => by rw [e]; exact hHl))
  have HEl := Lib.hid hs.el
  have HPl := Lib.hid h.plen
  have HRep := Lib.hid h.ep
  have HPk := Lib.hid hs.pl
  go_enter Tryz.func106, Tryz.ntmps106
  clear h hs hF
  go_wp2_with fail
  refine HP.out.mono ?_
  rintro e1 w1 ⟨n, rfl, hpa, hb⟩
  have HB1 := Lib.hid hb
  have HR1 := Lib.hid (HH.out.below hb)
  clear hb HP
  rcases hpa with ⟨rfl, hno⟩ | ⟨j, hj, rfl, hj1, hj2⟩
  · have hout : outP s.p txn = s.p := out_same hno
    have hR : RAt w1 F g A B C a b c K P ⟨s.k, outP s.p txn, s.e, s.over⟩ := by rw [hout]; exact HR1.out
    obtain ⟨w2, hw2⟩ : ∃ w2, w2 = w1 := ⟨_, rfl⟩
    rw [← hw2] at hR HB1 ⊢
    have HR2 := Lib.hid hR
    have HOn2 := Lib.hid (One.of (g := g) HB1.out)
    clear hno hout hR HR1 HB1 HH hw2
    have hR2 := HR2.out
    have s2 := hR2.cel.cell (i := 2) rfl
    have sf2 := fun i => hR2.cel.free (i := i)
    have HO0 := Lib.hid (show (w2.alloc (.cells #[] 176)).ownsRow w2.heap.size 176 2 (.slice (some ⟨w2.heap.size, 0, none⟩) 0 0) 0 [] from World.ownsRow_lit (base := w2.heap.size) (e := 176) (size := 2) w2 #[] 0 (Nat.le_refl _) (by unfold maxLen; omega) rfl)
    have hba : Below w2.heap.size w2 (w2.alloc (.cells #[] 176)) := (Below.refl _ w2).alloc (Nat.le_refl _) _
    have HRa := Lib.hid (hR2.below hba)
    have s2a := (hR2.below hba).cel.cell (i := 2) rfl
    have HLe := Lib.hid (flatN_len ecs_len s.e)
    have HCn := Lib.hid hR2.cn
    have HRe := Lib.hid HRa.out.re
    have hel := HEl.out
    clear hR2 hba
    go_wp2_with (at_builtin; refine wpList_append_optN rfl _ _ 31 rfl w2.heap.size 176 i1 (.agg #[.int .i64 0, .int .i64 0]) 2 16 Tryz.underlying31 hi hz0 hz1 hz2 rfl (by decide) _ 0 _ rfl HO0.out C s.e.length c (s.e.flatMap ecs) rfl HLe.out HCn.out (fun ad e => by subst e; exact HRe.out.news) (ecs_one _) ?c31 ?c41 (by simp) ?_)
    case c31 => unfold maxLen; omega
    case c41 => omega
    intro v4 w4 ho4 hg4 hat4
    have hb4 : Below w2.heap.size w2 w4 := ((Below.refl _ w2).alloc (Nat.le_refl _) (.cells #[] 176)).grown hg4 (by simp) (fun k hk => (HO0.out.lt k hk).1)
    try simp only [Nat.zero_add, List.nil_append] at ho4
    have HO4 := Lib.hid ho4
    have HB4 := Lib.hid hb4
    clear ho4 hg4 hat4 hb4 HO0 HRa HRe s2 sf2 s2a
    go_wp2_with (at_builtin; refine wpList_append_own_at _ rfl _ _ 31 rfl w2.heap.size 176 i1 (.agg #[.int .i64 0, .int .i64 0]) 2 16 Tryz.underlying31 hi hz0 hz1 hz2 rfl (by decide) _ s.e.length _ rfl (HO4.out.alloc _) ⟨w4.heap.size, 0, none⟩ 1 1 (ecs (txn, ts)) rfl rfl ?d11 ?d21 ?d31 ?d41 ?d51 ?_)
    case d11 => exact fun j u hu => by rw [addr_head]; exact blk_cell (blk1 w4 _).2 (by rw [List.getElem?_toArray]; exact hu)
    case d21 => exact fun u hu => ecs_one [(txn, ts)] u (by simpa using hu)
    case d31 => unfold maxLen; omega
    case d41 => omega
    case d51 => have := HB4.out.size; simp; omega
    intro v5 w5 ho5 hg5 _ hat5
    have hb5 : Below w2.heap.size w2 w5 := (HB4.out.alloc HB4.out.size _).grown hg5 (by have := HB4.out.size; simp; omega) (fun k hk => (HO4.out.lt k hk).1)
    have hE5 : (s.e ++ [(txn, ts)]).flatMap ecs = s.e.flatMap ecs ++ ecs (txn, ts) := by rw [List.flatMap_append]; simp
    rw [← hE5] at ho5
    have hl5 : (s.e ++ [(txn, ts)]).length = s.e.length + 1 := by simp
    obtain ⟨C5, c5, rfl, hr5, hlc5, hcm5, hn5⟩ := own_rowF (F := G F g) ho5 (by rw [flatN_len ecs_len, hl5]) (fun k hk => Nat.lt_of_lt_of_le (HG.out k hk) HOn2.out.size)
    rw [← hl5] at hlc5 hn5
    have hR5 := HR2.out.below hb5
    have hfin := hR5.setE hr5 hn5 ⟨hlc5, hcm5⟩
    have hone := (HOn2.out.then hb5).set (i := 2) (.slice C5 (s.e ++ [(txn, ts)]).length c5)
    have sf := fun i => hR5.cel.free (i := i)
    have s25 := hR5.cel.cell (i := 2) rfl
    rw [hl5] at hfin hone
    have HFin := Lib.hid hfin
    have HOne := Lib.hid hone
    clear ho5 hg5 hat5 hb5 hE5 hr5 hlc5 hcm5 hn5 hR5 hfin hone hl5 HB4 HO4 HR2
    go_upto_region 4 with fail
    have s26 := HFin.out.cel.cell (i := 2) rfl
    generalize w5.setCell ⟨g, 2, none⟩ (.slice C5 (s.e.length + 1) c5) = w6 at s26 HFin HOne ⊢
    clear sf s25
    by_cases hfull : s.e.length = 1024
    · have pf : (s.e.length : Int) + 1 > 1024 := by omega
      obtain ⟨C7, c7, hs7, hd7, hn7, hl7, hc7⟩ := slice_fromN 31 176 i1 (by kernel_rfl) (by kernel_rfl) hi 2 hz1 C5 (s.e.length + 1) c5 1 (by omega) (by have := HFin.out.cl; simpa using this.1) (fun e => by have := HFin.out.cn e; simp at this)
      have hr7 := hd7 w6 (G F g) ((s.e ++ [(txn, ts)]).flatMap ecs) (by rw [flatN_len ecs_len]; simp) HFin.out.re
      rw [flatN_drop ecs_len] at hr7
      have hl8 : ((s.e ++ [(txn, ts)]).drop 1).length = s.e.length := by simp
      have hfin2 := HFin.out.setE (C' := C7) (c' := c7) (e' := (s.e ++ [(txn, ts)]).drop 1) hr7 (fun e => by rw [hl8]; have := hn7 e; omega) (by rw [hl8]; have := HFin.out.cl.2; omega)
      rw [hl8] at hfin2
      have hcap : capE (s.e ++ [(txn, ts)]) = (s.e ++ [(txn, ts)]).drop 1 := by unfold capE; rw [if_pos (by simp; omega)]
      have hend : (⟨s.k, outP s.p txn, (s.e ++ [(txn, ts)]).drop 1, s.over⟩ : Shf) = endP s txn ts := by unfold endP; rw [hcap]
      have hfin3 : RAt (w6.setCell ⟨g, 2, none⟩ (.slice C7 s.e.length c7)) F g A B C7 a b c7 K P (endP s txn ts) := by rw [← hend]; exact hfin2
      have HFin2 := Lib.hid hfin3
      have HOne2 := Lib.hid (HOne.out.set (i := 2) (.slice C7 s.e.length c7))
      have hs7' : ∀ W : World, (Instr.slice 31 (.slice C5 (s.e.length + 1) c5) (some (.int .i64 1)) none none).run Tryz.prog W = .ok (.slice C7 s.e.length c7) W := by simpa using hs7
      have sf := fun i => HFin.out.cel.free (i := i)
      clear hs7 hd7 hn7 hl7 hc7 hr7 hl8 hfin2 hcap hend hfin3 hfull
      go_wp2_with fail
      exact bodyPost_end (results_none rfl _ _ _) rfl ⟨rfl, ⟨_, _, _, _, _, HFin2.out⟩, HOne2.out⟩
    · have pf : ¬ (s.e.length : Int) + 1 > 1024 := by have := HEl.out; omega
      have hcap : capE (s.e ++ [(txn, ts)]) = s.e ++ [(txn, ts)] := by unfold capE; rw [if_neg (by simp; have := HEl.out; omega)]
      have hend : (⟨s.k, outP s.p txn, s.e ++ [(txn, ts)], s.over⟩ : Shf) = endP s txn ts := by unfold endP; rw [hcap]
      have hfin3 : RAt w6 F g A B C5 a b c5 K P (endP s txn ts) := by rw [← hend]; exact HFin.out
      have HFin2 := Lib.hid hfin3
      clear hcap hend hfin3 hfull
      go_wp2_with fail
      exact bodyPost_end (results_none rfl _ _ _) rfl ⟨rfl, ⟨_, _, _, _, _, HFin2.out⟩, HOne.out⟩
  · have p0 : (j : Int) ≥ 0 := by omega
    have hjP : j < P.length := by rw [HPl.out]; exact hj
    obtain ⟨-, hout⟩ := prep_first hj hj1 hj2
    have HOut := Lib.hid hout
    have hpi : (P.length : Int) ≤ 1024 := by have := HPl.out; have := HPk.out; omega
    have pj : (j : Int) < (P.length : Int) := by omega
    have hsl := slice_toN 22 37 i9 (by kernel_rfl) (by kernel_rfl) hi9 B P.length b j (Nat.le_trans (Nat.le_of_lt hjP) HR1.out.bl.1)
    obtain ⟨mm, hmm⟩ : ∃ mm, mm = j + 1 := ⟨_, rfl⟩
    obtain ⟨B6, b6, hs6, hd6, hn6, hl6, hc6⟩ := slice_fromN 22 37 i9 (by kernel_rfl) (by kernel_rfl) hi9 9 hs9 B P.length b mm (by omega) HR1.out.bl.1 HR1.out.bn
    have HSl := Lib.hid hsl
    have HS6 := Lib.hid hs6
    have HN6 := Lib.hid hn6
    have HD6 := Lib.hid (show RowF w1 (G F g) B6 ((P.drop mm).flatMap rcs) by
      have := hd6 w1 (G F g) (P.flatMap rcs) (flatN_len rcs_len P) HR1.out.rp
      rwa [flatN_drop rcs_len] at this)
    have HDt := Lib.hid (show RowF w1 (G F g) B ((P.take j).flatMap rcs) by
      have := HR1.out.rp.take (j * 9)
      rwa [flatN_take rcs_len] at this)
    have HL6 := Lib.hid (show ((P.drop mm).flatMap rcs).length = (P.length - mm) * 9 by rw [flatN_len rcs_len, List.length_drop])
    have HLt := Lib.hid (show ((P.take j).flatMap rcs).length = j * 9 by rw [flatN_len rcs_len, List.length_take, Nat.min_eq_left (Nat.le_of_lt hjP)])
    have HBn := Lib.hid (show B = none → j = 0 ∧ b = 0 from fun e => by have := HR1.out.bn e; omega)
    have hjj : (j : Int) + 1 = (mm : Int) := by omega
    have hwm : IntKind.i64.wrap (mm : Int) = (mm : Int) := by rw [IntKind.wrap_i64]; omega
    have HJm := Lib.hid hmm
    have HPi := Lib.hid (show P.length ≤ 1024 by omega)
    have HjP := Lib.hid hjP
    clear hj1 hj2 hout hsl hs6 hn6 hd6 hl6 hc6 hmm
    go_upto_region 2 with fail
    refine wp_region_saidK 19 [12, 13, 14, 15, 16, 17, 18, 19, 20, 21, 22, 23, 24, 25, 26, 27, 28, 29, 30]
      [TIs (.pointer (some ⟨g, 0, none⟩)), (fun v V => ∃ p, w1.heap.size ≤ p ∧ v = .slice (some ⟨p, 0, none⟩) 0 0 ∧ V.heap[p]? = some (.cells #[] 37 (0, 0))), TIs (.pointer (some ⟨g, 0, none⟩)), TIs (.pointer (some ⟨g, 0, none⟩)), TIs (.pointer (some ⟨g, 1, none⟩)), TIs (.slice B P.length b), TIs (.int .i64 (j : Int)), TIs (.slice B j b),
        (fun v V => V.ownsRow w1.heap.size 37 9 v j ((P.take j).flatMap rcs)), TIs (.pointer (some ⟨g, 0, none⟩)), TIs (.pointer (some ⟨g, 0, none⟩)), TIs (.pointer (some ⟨g, 1, none⟩)), TIs (.slice B P.length b), TIs (.int .i64 (j : Int)), TIs (.int .i64 (mm : Int)), TIs (.slice B6 (P.length - mm) b6),
        (fun v V => V.ownsRow w1.heap.size 37 9 v (j + (P.length - mm)) ((P.take j).flatMap rcs ++ (P.drop mm).flatMap rcs)), TIs (.pointer (some ⟨g, 0, none⟩)), TIs (.pointer (some ⟨g, 1, none⟩))]
      (fun V => Below w1.heap.size w1 V) (GrN w1.heap.size 37 ((P.take j).flatMap rcs) ((P.drop mm).flatMap rcs)) (by kernel_rfl) (by kernel_rfl) (by kernel_rfl) (by kernel_rfl) (by kernel_rfl)
      (satK_of fun S hS v V V' h hk => by
        simp only [List.mem_cons, List.not_mem_nil, or_false] at hS
        rcases hS with rfl | rfl | rfl | rfl | rfl | rfl | rfl | rfl | rfl | rfl | rfl | rfl | rfl | rfl | rfl | rfl | rfl | rfl | rfl
        all_goals first | exact h | (obtain ⟨p, p1, p2, p3⟩ := h; exact ⟨p, p1, p2, hk.lit p3⟩) | exact hk.row h (.inl rfl) | exact hk.row h (.inr rfl))
      (fun V V' h hk => hk.below h h.size (Nat.le_refl _)) (fun V => .inl (Below.refl _ V).drew) (Below.refl _ _) ?steps ?last
    case steps =>
      simp only [List.take_succ_cons, List.take_zero]
      refine ⟨?_, ?_, ?_, ?_, ?_, ?_, ?_, ?_, ?_, ?_, ?_, ?_, ?_, ?_, ?_, ?_, ?_, ?_, ?_, trivial⟩
      all_goals
        intro vs V ρ hρ hc hf hg hI hd R' hR
        have kc := HR1.out.cel.below hI
        have q1 := kc.cell (i := 1) rfl
        have sl := HSl.out
        have sl6 := HS6.out
        have HR := Lib.hid hR
        have HI := Lib.hid hI
        simp [depsOf, Region.binds, satK, TIs] at hd
        clear hR hI kc
      case refine_2 =>
        go_simp
        exact HR.out _ _ ⟨V.heap.size, HI.out.size, rfl, heap_alloc_new V _⟩ (.inl ((Below.refl _ _).alloc (Nat.le_refl _) _))
      case refine_9 =>
        obtain ⟨⟨p, p1, p2, p3⟩, hv⟩ := hd
        obtain ⟨v', w', hr, h2, h3⟩ := run_append_emptyN (P := Tryz.prog) V w1.heap.size 22 22 37 i9 z9 9 120 Tryz.underlying22 hi9 hz9 hs9 hb9 hzs9 (by decide) p p3 p1 B j b ((P.take j).flatMap rcs) HLt.out HBn.out (fun ad e => by subst e; exact (HDt.out.below HI.out).news) (recs_one _) (by have := HPi.out; have := HjP.out; unfold maxLen; omega) (by have := HPi.out; have := HjP.out; omega)
        have e0 : ρ (.tmp 13) = .slice (some ⟨p, 0, none⟩) 0 0 := by rw [hρ]; simp [pick, p2]
        have e2 : ρ (.tmp 19) = .slice B j b := by rw [hρ]; simp [pick, hv]
        rw [if_pos (by simp [Region.wanted])]
        unfold execOp
        simp only [resolve, invoke, builtin, Sem.run_bind, Sem.run_pure, Result.andThen_ok, List.map_toArray, List.map_cons, List.map_nil, e0, e2, hr, floatUpon]
        exact HR.out _ _ h2 (.inl h3)
      case refine_17 =>
        obtain ⟨hd1, hd2⟩ := hd
        obtain ⟨v', w', hr, h2, h3⟩ := run_growN (P := Tryz.prog) (W := V) (H := w1.heap.size) (sz := 9) (bytes := 120) (n := j) (m := P.length - mm) (c := b6) (A := B6) (t := 22) (ty := 22) Tryz.underlying22 hi9 hz9 hs9 hb9 hzs9 (by decide) hd1 HL6.out HN6.out (fun ad e => by subst e; exact (HD6.out.below HI.out).news) (recs_one _) (by have := HPi.out; have := HjP.out; unfold maxLen; omega) (by have := HPi.out; have := HjP.out; omega) HI.out.size
        have e0 : ρ (.tmp 20) = vs 8 := by rw [hρ]; simp [pick]
        have e2 : ρ (.tmp 27) = .slice B6 (P.length - mm) b6 := by rw [hρ]; simp [pick, hd2]
        rw [if_pos (by simp [Region.wanted])]
        unfold execOp
        simp only [resolve, invoke, builtin, Sem.run_bind, Sem.run_pure, Result.andThen_ok, List.map_toArray, List.map_cons, List.map_nil, e0, e2, hr, floatUpon]
        exact HR.out _ _ h2 h3
      all_goals
        go_simp
        first
          | exact HR.out _ _ (by simp [satK, TIs]) (.inl (Below.refl _ _))
          | trace_state
    case last =>
      intro vs V hI hg
      have g16 := hg 16 (by omega)
      have g18 := hg 18 (by omega)
      simp only [satK, List.getD_cons_succ, List.getD_cons_zero, TIs] at g16 g18
      simp only [List.take_succ_cons, List.take_zero, List.drop_succ_cons, List.drop_zero, putAll, Act.put, List.setIfInBounds_toArray, List.set_cons_succ, List.set_cons_zero, Nat.zero_add, Nat.reduceAdd]
      rw [g18]
      generalize vs 16 = v16 at g16 ⊢
      have hlp : (P.take j ++ P.drop mm).length = j + (P.length - mm) := by rw [List.length_append, List.length_take, List.length_drop, Nat.min_eq_left (Nat.le_of_lt HjP.out)]
      have g16 : V.ownsRow w1.heap.size 37 9 v16 (j + (P.length - mm)) ((P.take j ++ P.drop mm).flatMap rcs) := by rw [List.flatMap_append]; exact g16
      obtain ⟨B7, b7, rfl, hr7, hlc7, hcm7, hn7⟩ := own_rowF (F := G F g) g16 (by rw [flatN_len rcs_len, hlp]) (fun k hk => Nat.lt_of_lt_of_le (HG.out k hk) HB1.out.size)
      rw [← hlp] at hlc7 hn7
      have hRV := HR1.out.below hI
      have hfin := hRV.setP hr7 hn7 ⟨hlc7, hcm7⟩ (fun y hy => by
        rcases List.mem_append.1 hy with hy | hy
        · exact hRV.pv y (List.mem_of_mem_take hy)
        · exact hRV.pv y (List.mem_of_mem_drop hy))
      have hep : (P.take j ++ P.drop mm).map (·.l) = outP s.p txn := by
        rw [HOut.out, ← HRep.out, HJm.out]
        simp [List.map_take, List.map_drop]
      rw [hep, hlp] at hfin
      have hone := (One.of (g := g) (HB1.out.trans (hI.mono HB1.out.size))).set (i := 1) (.slice B7 (j + (P.length - mm)) b7)
      have sf := fun i => hRV.cel.free (i := i)
      have s1 := hRV.cel.cell (i := 1) rfl
      have HR2 := Lib.hid hfin
      have HOn2 := Lib.hid hone
      clear g16 hlp hr7 hlc7 hcm7 hn7 hRV hfin hep hone hg g18 hI HDt HD6 HR1 HH
      go_upto_region 3 with fail
      generalize V.setCell ⟨g, 1, none⟩ (.slice B7 (j + (P.length - mm)) b7) = w2 at HR2 HOn2 ⊢
      clear sf s1
      have hR2 := HR2.out
      have s2 := hR2.cel.cell (i := 2) rfl
      have sf2 := fun i => hR2.cel.free (i := i)
      have HO0 := Lib.hid (show (w2.alloc (.cells #[] 176)).ownsRow w2.heap.size 176 2 (.slice (some ⟨w2.heap.size, 0, none⟩) 0 0) 0 [] from World.ownsRow_lit (base := w2.heap.size) (e := 176) (size := 2) w2 #[] 0 (Nat.le_refl _) (by unfold maxLen; omega) rfl)
      have hba : Below w2.heap.size w2 (w2.alloc (.cells #[] 176)) := (Below.refl _ w2).alloc (Nat.le_refl _) _
      have HRa := Lib.hid (hR2.below hba)
      have s2a := (hR2.below hba).cel.cell (i := 2) rfl
      have HLe := Lib.hid (flatN_len ecs_len s.e)
      have HCn := Lib.hid hR2.cn
      have HRe := Lib.hid HRa.out.re
      have hel := HEl.out
      clear hR2 hba
      go_wp2_with (at_builtin; refine wpList_append_optN rfl _ _ 31 rfl w2.heap.size 176 i1 (.agg #[.int .i64 0, .int .i64 0]) 2 16 Tryz.underlying31 hi hz0 hz1 hz2 rfl (by decide) _ 0 _ rfl HO0.out C s.e.length c (s.e.flatMap ecs) rfl HLe.out HCn.out (fun ad e => by subst e; exact HRe.out.news) (ecs_one _) ?c32 ?c42 (by simp) ?_)
      case c32 => unfold maxLen; omega
      case c42 => omega
      intro v4 w4 ho4 hg4 hat4
      have hb4 : Below w2.heap.size w2 w4 := ((Below.refl _ w2).alloc (Nat.le_refl _) (.cells #[] 176)).grown hg4 (by simp) (fun k hk => (HO0.out.lt k hk).1)
      try simp only [Nat.zero_add, List.nil_append] at ho4
      have HO4 := Lib.hid ho4
      have HB4 := Lib.hid hb4
      clear ho4 hg4 hat4 hb4 HO0 HRa HRe s2 sf2 s2a
      go_wp2_with (at_builtin; refine wpList_append_own_at _ rfl _ _ 31 rfl w2.heap.size 176 i1 (.agg #[.int .i64 0, .int .i64 0]) 2 16 Tryz.underlying31 hi hz0 hz1 hz2 rfl (by decide) _ s.e.length _ rfl (HO4.out.alloc _) ⟨w4.heap.size, 0, none⟩ 1 1 (ecs (txn, ts)) rfl rfl ?d12 ?d22 ?d32 ?d42 ?d52 ?_)
      case d12 => exact fun j u hu => by rw [addr_head]; exact blk_cell (blk1 w4 _).2 (by rw [List.getElem?_toArray]; exact hu)
      case d22 => exact fun u hu => ecs_one [(txn, ts)] u (by simpa using hu)
      case d32 => unfold maxLen; omega
      case d42 => omega
      case d52 => have := HB4.out.size; simp; omega
      intro v5 w5 ho5 hg5 _ hat5
      have hb5 : Below w2.heap.size w2 w5 := (HB4.out.alloc HB4.out.size _).grown hg5 (by have := HB4.out.size; simp; omega) (fun k hk => (HO4.out.lt k hk).1)
      have hE5 : (s.e ++ [(txn, ts)]).flatMap ecs = s.e.flatMap ecs ++ ecs (txn, ts) := by rw [List.flatMap_append]; simp
      rw [← hE5] at ho5
      have hl5 : (s.e ++ [(txn, ts)]).length = s.e.length + 1 := by simp
      obtain ⟨C5, c5, rfl, hr5, hlc5, hcm5, hn5⟩ := own_rowF (F := G F g) ho5 (by rw [flatN_len ecs_len, hl5]) (fun k hk => Nat.lt_of_lt_of_le (HG.out k hk) HOn2.out.size)
      rw [← hl5] at hlc5 hn5
      have hR5 := HR2.out.below hb5
      have hfin := hR5.setE hr5 hn5 ⟨hlc5, hcm5⟩
      have hone := (HOn2.out.then hb5).set (i := 2) (.slice C5 (s.e ++ [(txn, ts)]).length c5)
      have sf := fun i => hR5.cel.free (i := i)
      have s25 := hR5.cel.cell (i := 2) rfl
      rw [hl5] at hfin hone
      have HFin := Lib.hid hfin
      have HOne := Lib.hid hone
      clear ho5 hg5 hat5 hb5 hE5 hr5 hlc5 hcm5 hn5 hR5 hfin hone hl5 HB4 HO4 HR2
      go_upto_region 4 with fail
      have s26 := HFin.out.cel.cell (i := 2) rfl
      generalize w5.setCell ⟨g, 2, none⟩ (.slice C5 (s.e.length + 1) c5) = w6 at s26 HFin HOne ⊢
      clear sf s25
      by_cases hfull : s.e.length = 1024
      · have pf : (s.e.length : Int) + 1 > 1024 := by omega
        obtain ⟨C7, c7, hs7, hd7, hn7, hl7, hc7⟩ := slice_fromN 31 176 i1 (by kernel_rfl) (by kernel_rfl) hi 2 hz1 C5 (s.e.length + 1) c5 1 (by omega) (by have := HFin.out.cl; simpa using this.1) (fun e => by have := HFin.out.cn e; simp at this)
        have hr7 := hd7 w6 (G F g) ((s.e ++ [(txn, ts)]).flatMap ecs) (by rw [flatN_len ecs_len]; simp) HFin.out.re
        rw [flatN_drop ecs_len] at hr7
        have hl8 : ((s.e ++ [(txn, ts)]).drop 1).length = s.e.length := by simp
        have hfin2 := HFin.out.setE (C' := C7) (c' := c7) (e' := (s.e ++ [(txn, ts)]).drop 1) hr7 (fun e => by rw [hl8]; have := hn7 e; omega) (by rw [hl8]; have := HFin.out.cl.2; omega)
        rw [hl8] at hfin2
        have hcap : capE (s.e ++ [(txn, ts)]) = (s.e ++ [(txn, ts)]).drop 1 := by unfold capE; rw [if_pos (by simp; omega)]
        have hend : (⟨s.k, outP s.p txn, (s.e ++ [(txn, ts)]).drop 1, s.over⟩ : Shf) = endP s txn ts := by unfold endP; rw [hcap]
        have hfin3 : RAt (w6.setCell ⟨g, 2, none⟩ (.slice C7 s.e.length c7)) F g A B7 C7 a b7 c7 K (P.take j ++ P.drop mm) (endP s txn ts) := by rw [← hend]; exact hfin2
        have HFin2 := Lib.hid hfin3
        have HOne2 := Lib.hid (HOne.out.set (i := 2) (.slice C7 s.e.length c7))
        have hs7' : ∀ W : World, (Instr.slice 31 (.slice C5 (s.e.length + 1) c5) (some (.int .i64 1)) none none).run Tryz.prog W = .ok (.slice C7 s.e.length c7) W := by simpa using hs7
        have sf := fun i => HFin.out.cel.free (i := i)
        clear hs7 hd7 hn7 hl7 hc7 hr7 hl8 hfin2 hcap hend hfin3 hfull
        go_wp2_with fail
        exact bodyPost_end (results_none rfl _ _ _) rfl ⟨rfl, ⟨_, _, _, _, _, HFin2.out⟩, HOne2.out⟩
      · have pf : ¬ (s.e.length : Int) + 1 > 1024 := by have := HEl.out; omega
        have hcap : capE (s.e ++ [(txn, ts)]) = s.e ++ [(txn, ts)] := by unfold capE; rw [if_neg (by simp; have := HEl.out; omega)]
        have hend : (⟨s.k, outP s.p txn, s.e ++ [(txn, ts)], s.over⟩ : Shf) = endP s txn ts := by unfold endP; rw [hcap]
        have hfin3 : RAt w6 F g A B7 C5 a b7 c5 K (P.take j ++ P.drop mm) (endP s txn ts) := by rw [← hend]; exact HFin.out
        have HFin2 := Lib.hid hfin3
        clear hcap hend hfin3 hfull
        go_wp2_with fail
        exact bodyPost_end (results_none rfl _ _ _) rfl ⟨rfl, ⟨_, _, _, _, _, HFin2.out⟩, HOne.out⟩
end
end Sh
end Go.Proofs.YtbkanoblcojdfaaGreat

namespace Go.Proofs.YtbkanoblcojdfaaGreat
namespace Sh
open Go.RowKit Bk Ch Lt Rc Tr
attribute [local go_sem ↓] Go.wp_at_zero Go.wp_at_succ
attribute [local go_sem] floatUpon pick
theorem sweepR_snoc (k : List Kc) (x : Kc) (t : Int) : sweepK (k ++ [x]) t = if (sweepL x.l t).isEmpty then sweepK k t else sweepK k t ++ [⟨x.name, sweepL x.l t⟩] := by
  unfold sweepK
  rw [List.map_append, List.filter_append]
  cases h : (sweepL x.l t).isEmpty with
  | true => simp [h]
  | false => simp [h]
def KOwn (W : World) (H : Nat) (x : KI) : Prop := W.ownsRow H 77 3 (.slice x.A x.k.l.length x.c) x.k.l.length (vrV x.k.l)
theorem KOwn.below {W W' : World} {H : Nat} {x : KI} (h : KOwn W H x) (hb : Below W.heap.size W W') : KOwn W' H x := st_keep h hb
section
variable {W : World} {F : Nat → Prop} {g : Nat} {A B C : Option Addr} {a b c : Nat} {K : List KI} {P : List RI} {s : Shf}
set_option maxRecDepth 20000 in
set_option maxHeartbeats 16000000 in
theorem rsweeps_any (h : RAt W F g A B C a b c K P s) (hs : KOk s.k) (hl : s.k.length ≤ 1024) (hF : ∀ k, F k → k < W.heap.size) (t : Int) :
    Calls Tryz.prog 49 #[.pointer (some ⟨g, 0, none⟩), .int .i64 t] W fun e w' => e = .returned (.int .i64 (sweepS s t).2) ∧ (∃ A' a' K', RAt w' F g A' B C a' b c K' P (sweepS s t).1) ∧ One g W w' := by
  obtain ⟨i1, hi, hz0, hz1, hz2⟩ := info_parts Tryz.infoKey
  have hHl := h.cel.lt
  have HG := Lib.hid (show ∀ k, G F g k → k < W.heap.size from fun k hk => hk.elim (hF k) (fun e => by rw [e]; exact hHl))
  have s3 := h.cel.cell (i := 3) rfl
  have sf := fun i => h.cel.free (i := i)
  by_cases ho : t < s.over
  · have E := Lib.hid (show sweepS s t = (s, 110) by unfold sweepS; rw [if_pos ho])
    have HH := Lib.hid h
    clear h hs
    go_enter Tryz.func49, Tryz.ntmps49
    go_wp2_with fail
    go_ret
    exact ⟨by rw [E.out]; rfl, ⟨_, _, _, by rw [E.out]; exact HH.out⟩, One.of (Below.refl _ _)⟩
  have E := Lib.hid (show sweepS s t = (⟨sweepK s.k t, s.p, s.e, t⟩, 0) by unfold sweepS; rw [if_neg ho])
  have h1 := h.setO t
  have hone1 := (One.of (g := g) (Below.refl _ W)).set (i := 3) (.int .i64 t)
  have hKl : K.length = s.k.length := h.klen
  have hKi : (K.length : Int) ≤ 1024 := by omega
  have HKi := Lib.hid (show K.length ≤ 1024 by omega)
  have HKl := Lib.hid hKl
  have hchain : ∀ i (hi : i < K.length), ChOk K[i].k.l := fun i hi => hs.kc _ (by rw [← h.ek]; exact List.mem_map.2 ⟨_, List.getElem_mem hi, rfl⟩)
  have HCh := Lib.hid hchain
  have HEk := Lib.hid h.ek
  have hsz : (W.setCell ⟨g, 3, none⟩ (.int .i64 t)).heap.size = W.heap.size := by simp [World.setCell]
  clear hs hchain hKl
  go_enter Tryz.func49, Tryz.ntmps49
  go_upto_region 4 with fail
  generalize W.setCell ⟨g, 3, none⟩ (.int .i64 t) = W1 at h1 hone1 hsz ⊢
  have HH := Lib.hid (fun V (hb : Below W1.heap.size W1 V) => h1.below hb)
  have HO1 := Lib.hid hone1
  have HSz := Lib.hid hsz
  clear h h1 hone1 s3 sf hsz
  go_wp2_with fail
  go_loopw [5, 6] (fun vv iv wr => ∃ (j : Nat) (L : List KI), j ≤ K.length ∧ iv = .int .i64 (j : Int) ∧ Hid (L.map (·.k) = sweepK (s.k.take j) t) ∧ Hid (wr.ownsRow W1.heap.size 170 2 vv L.length (L.flatMap kcs)) ∧ Hid (∀ x ∈ L, KOwn wr W1.heap.size x) ∧ Hid (Below W1.heap.size W1 wr)) (fun _ iv _ => K.length - (intOf iv).toNat)
  case atStart => exact ⟨0, [], Nat.zero_le _, rfl, Lib.hid rfl, Lib.hid (World.ownsRow_nil _ _ _ _), Lib.hid (by simp), Lib.hid (Below.refl _ _)⟩
  case round =>
    obtain ⟨j, L, hj, rfl, hlm, hown, hkow, hb⟩ := hrel
    have hR := HH.out _ hb.out
    have s0 := hR.cel.cell (i := 0) rfl
    by_cases hlt : j < K.length
    · have pj : (j : Int) < (K.length : Int) := by omega
      obtain ⟨ad, rfl, x0, x1⟩ := hR.key hlt
      have hkv := hR.kv _ (List.getElem_mem hlt)
      have hok := HCh.out j hlt
      have hjs : j < s.k.length := by rw [← HKl.out]; exact hlt
      have hkj : s.k.take (j + 1) = s.k.take j ++ [K[j].k] := by
        rw [List.take_succ_eq_append_getElem hjs]
        congr 2
        have := HEk.out
        simp only [← this, List.getElem_map]
      have HKj := Lib.hid (show sweepK (s.k.take (j + 1)) t = _ by rw [hkj, sweepR_snoc])
      have hLl : L.length ≤ j := by
        have := congrArg List.length hlm.out
        rw [List.length_map] at this
        rw [this]
        refine Nat.le_trans (sweep_len _ _) ?_
        rw [List.length_take]; omega
      obtain ⟨X, hX⟩ : ∃ X, K[j] = X := ⟨_, rfl⟩
      rw [hX] at x0 x1 hkv hok HKj
      have HX := Lib.hid hX
      clear hX
      obtain ⟨⟨nm, l⟩, A5, c5⟩ := X
      simp only at x0 x1 hkv hok HKj
      have hsw : sweepP l t = (sweepL l t, 0) := by unfold sweepP; rw [if_neg (by rw [chk_zero hok]; simp)]
      have hrs := fun V (hv : VrsAt V A5 l) => Ch.rsweep_any A5 c5 l t V hv (chain32 hok) (ok_rng hok) hkv.nil hkv.le hkv.cap
      rw [hsw] at hrs
      have HRs := Lib.hid hrs
      have HVr := Lib.hid hkv.vrs
      have hSl : (sweepL l t).length ≤ 1024 := Nat.le_trans (sweep_sub t).length_le hok.len
      obtain ⟨S, hS⟩ : ∃ S, sweepL l t = S := ⟨_, rfl⟩
      rw [hS] at HRs HKj hSl
      clear hR hkv hok hkj hsw hrs hS
      go_wp2_with fail
      refine (HRs.out _ HVr.out).mono ?_
      rintro e2 w2 ⟨v2, rfl, ho2, hb2⟩
      have HB2 := Lib.hid (hb.out.trans (hb2.mono hb.out.size))
      have HOw2 := Lib.hid (st_keep hown.out hb2)
      have HKo2 := Lib.hid (fun x hx => (hkow.out x hx).below hb2)
      obtain ⟨A6, c6, rfl, -, hlc6, -, -⟩ := vrs_own ho2 rfl
      have HO2 := Lib.hid (Ch.own_base ho2 hb.out.size)
      have hSi : (S.length : Int) ≤ 1024 := by omega
      clear hb2 ho2 hlc6 hown hkow HRs HVr x0 x1 s0
      by_cases hz : S.length = 0
      · have pz : ¬ (S.length : Int) > 0 := by omega
        have HKz := Lib.hid (show sweepK (s.k.take (j + 1)) t = sweepK (s.k.take j) t by rw [HKj.out, if_pos (by rw [List.eq_nil_of_length_eq_zero hz]; rfl)])
        have HLm := Lib.hid (show L.map (·.k) = sweepK (s.k.take (j + 1)) t by rw [HKz.out]; exact hlm.out)
        clear hz HKj hlm HKz
        go_wp2_with fail
        go_roundw
        case rel => exact ⟨j + 1, L, by omega, by go_num, HLm, HOw2, HKo2, HB2⟩
        case measure => simp [intOf]; omega
      · have pz : (S.length : Int) > 0 := by omega
        have HKz := Lib.hid (show sweepK (s.k.take (j + 1)) t = sweepK (s.k.take j) t ++ [⟨nm, S⟩] by rw [HKj.out, if_neg (by cases S with | nil => exact absurd rfl hz | cons _ _ => simp)])
        have HLm := Lib.hid (show (L ++ [(⟨⟨nm, S⟩, A6, c6⟩ : KI)]).map (·.k) = sweepK (s.k.take (j + 1)) t by rw [HKz.out, List.map_append, hlm.out]; rfl)
        have hR2 := HH.out _ HB2.out
        have s0 := hR2.cel.cell (i := 0) rfl
        obtain ⟨ad', hae, y0, y1⟩ := hR2.key hlt
        obtain rfl := Option.some.inj hae
        have hnm : K[j].k.name = nm := by rw [HX.out]
        rw [hnm] at y0
        clear hR2 hz HKj hlm HKz y1 hnm
        have hl1024 := HKi.out
        go_wp2_with (at_builtin; refine wpList_append_own_at _ rfl _ _ 30 rfl W1.heap.size 170 i1 (.agg #[.string ⟨#[]⟩, .slice none 0 0]) 2 40 Tryz.underlying30 hi hz0 hz1 hz2 rfl (by decide) _ L.length _ rfl (HOw2.out.alloc _) ⟨w2.heap.size, 0, none⟩ 1 1 (kcs ⟨⟨nm, S⟩, A6, c6⟩) rfl rfl ?d1 ?d2 ?d3 ?d4 ?d5 ?_)
        case d1 => exact fun j u hu => by rw [addr_head]; exact blk_cell (blk1 w2 _).2 (by rw [List.getElem?_toArray]; exact hu)
        case d2 => exact fun u hu => kcs_one [⟨⟨nm, S⟩, A6, c6⟩] u (by simpa using hu)
        case d3 => unfold maxLen; omega
        case d4 => omega
        case d5 => have := HB2.out.size; simp; omega
        intro v5 w5 ho5 hg5 _ hat5
        have hbe := (Below.refl w2.heap.size w2).alloc (Nat.le_refl _) (.cells #[.string nm, .slice A6 S.length c6] 170)
        have HKo5 := Lib.hid (show ∀ x ∈ L ++ [(⟨⟨nm, S⟩, A6, c6⟩ : KI)], KOwn w5 W1.heap.size x from fun x hx => by
          rcases List.mem_append.1 hx with hx | hx
          · exact rgrow2 (st_keep (HKo2.out x hx) hbe) (HOw2.out.alloc _) (by decide) hg5
          · rw [List.mem_singleton.1 hx]
            exact rgrow2 (st_keep HO2.out hbe) (HOw2.out.alloc _) (by decide) hg5)
        have HB5 := Lib.hid ((HB2.out.alloc HB2.out.size _).grown hg5 (by have := HB2.out.size; simp; omega) (fun k hk => (HOw2.out.lt k hk).1))
        have hl5 : (L ++ [(⟨⟨nm, S⟩, A6, c6⟩ : KI)]).length = L.length + 1 := by simp
        have HO5 := Lib.hid (show w5.ownsRow W1.heap.size 170 2 v5 (L ++ [(⟨⟨nm, S⟩, A6, c6⟩ : KI)]).length ((L ++ [(⟨⟨nm, S⟩, A6, c6⟩ : KI)]).flatMap kcs) by rw [hl5, List.flatMap_append]; simpa using ho5)
        clear ho5 hg5 hat5 hbe hl5 y0 s0
        go_wp2_with fail
        go_roundw
        case rel => exact ⟨j + 1, _, by omega, by go_num, HLm, HO5, HKo5, HB5⟩
        case measure => simp [intOf]; omega
    · obtain rfl : j = K.length := by omega
      have hall : s.k.take K.length = s.k := List.take_of_length_le (by rw [HKl.out]; exact Nat.le_refl _)
      rw [hall] at hlm
      obtain ⟨A8, c8, hv8, hr8, hlc8, hcm8, hn8⟩ := own_rowF (F := G F g) hown.out (flatN_len kcs_len L) (fun k hk => by rw [HSz.out]; exact HG.out k hk)
      subst hv8
      have hfin := hR.setK hr8 hn8 ⟨hlc8, hcm8⟩ (fun x hx => by
        obtain ⟨q1, q2, q3, q4⟩ := own_row_at (F := G F g) (hkow.out x hx) (vrV_len _) (fun k hk => by rw [HSz.out]; exact HG.out k hk)
        exact ⟨q1, q4, q2, q3⟩)
      rw [hlm.out] at hfin
      have hone := (HO1.out.then hb.out).set (i := 0) (.slice A8 L.length c8)
      have sf := fun i => hR.cel.free (i := i)
      have HFin := Lib.hid hfin
      have HOne := Lib.hid hone
      clear hR hall hr8 hlc8 hcm8 hn8 hfin hone hkow hown hlm
      go_wp2_with fail
      go_ret
      exact ⟨by rw [E.out]; rfl, ⟨_, _, _, by rw [E.out]; exact HFin.out⟩, HOne.out⟩
end
end Sh
end Go.Proofs.YtbkanoblcojdfaaGreat
