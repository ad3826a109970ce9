/- Parts of the proof, joined: ShL20, ShSortS, ShL21; their conditions stand with each. -/
import Derived.Shelf.SlIter.Nil
import Derived.Shelf.SortM.Plain
import Derived.Shelf.SortM.SortNone
import Derived.Test.YtiobhbagjokpcaaGreatM0
import Derived.Test.YtiobhbagjokpcaaGreatM7
import Derived.Test.YtiobhbagjokpcaaGreatM36
import Derived.Test.YtiobhbagjokpcaaGreatM42

/- The landed shelf: Apply, New; contracts; no condition but the range. -/
namespace Go.Proofs.YtiobhbagjokpcaaGreat
namespace Sh
open Go.RowKit Bk Ch Lt Rc Tr

attribute [local go_sem ↓] Go.wp_at_zero Go.wp_at_succ
attribute [local go_sem] floatUpon pick

theorem may_one {r : Rec} (h : RecOk r) (hk : r.kind = 3) : MayW r.ts [⟨r.key, r.text, r.dead⟩] ∧ vrOk ⟨r.ts, r.text, r.dead⟩ := by
  obtain ⟨_, _, _, h1, h2, h3, h4⟩ := (kind_3 hk).1 h.2
  have h5 := h.1.2.1
  unfold stampOk at h5
  have h6 : ¬ (r.dead = true ∧ r.text ≠ ⟨#[]⟩) := fun hc => by
    rcases h4 with h4 | h4
    · rw [h4] at hc; cases hc.1
    · exact hc.2 h4
  exact ⟨⟨by omega, fun x hx => by rw [List.mem_singleton.1 hx]; exact ⟨h2, h3, h6⟩, List.pairwise_singleton ..⟩, by show 1 ≤ r.ts; omega, by show r.ts ≤ _; omega, h3, h6⟩

theorem one_wr (W : World) (k t : ByteArray) (d : Bool) : WrsAt (W.alloc (.cells #[.string k, .string t, .bool d] 45)) (some ⟨W.heap.size, 0, none⟩) [⟨k, t, d⟩] := fun _ => by
  refine ⟨_, rfl, by simp, fun i hi => ?_⟩
  obtain rfl : i = 0 := by simp at hi; omega
  have hc : Cel (W.alloc (.cells #[.string k, .string t, .bool d] 45)) W.heap.size 45 [.string k, .string t, .bool d] := (blk1 W _).2
  exact ⟨hc.cell (i := 0) rfl, hc.cell (i := 1) rfl, hc.cell (i := 2) rfl⟩

theorem LRep.more {W : World} {F F' : Nat → Prop} {g : Nat} {s : Shf} (h : LRep W F g s) (hF : ∀ k, F k → F' k) (hl : ∀ k, F' k → k < W.heap.size) : LRep W F' g s := by
  obtain ⟨bc, bp, v, K, P, h⟩ := h
  exact ⟨bc, bp, v, K, P, h.more hF hl⟩

theorem gr_later {W V w' : World} {F : Nat → Prop} (h : W.heap.size ≤ V.heap.size) : ∀ k, Gr F V w' k → Gr F W w' k := fun _ hk => hk.elim .inl (fun h2 => .inr ⟨Nat.le_trans h h2.1, h2.2⟩)

section
variable {W : World} {F : Nat → Prop} {g bc bp : Nat} {v : Value} {K : List KI} {P : List RI} {s : Shf}

set_option maxRecDepth 20000 in
set_option maxHeartbeats 8000000 in
theorem lapply_any (h : LAt W F g bc bp v K P s) (hs : ShOk s) (x : RI) (hv : RecVal W x.A x.B x.c x.d x.l) :
    Calls Tryz.prog 10 #[.pointer (some ⟨g, 0, none⟩), .agg (rcs x).toArray] W fun e w' => e = .returned (.int .i64 (applyP s x.l).2) ∧ LRep w' (Gr F W w') g (applyP s x.l).1 ∧ Far F W w' := by
  have HF := Lib.hid h.fl
  have HLat := Lib.hid (show ∀ V w' s', Below W.heap.size W V → LRep w' (Gr F V w') g s' → Far F V w' → LRep w' (Gr F W w') g s' ∧ Far F W w' from fun V w' s' hb hl ha => by
    have haw := (Far.of (F := F) hb).trans ha
    exact ⟨hl.more (gr_later hb.size) (gr_lt h.fl haw.size), haw⟩)
  have HCk := Lib.hid (fun V (hb : Below W.heap.size W V) => lcheckAll x.A x.B x.c x.d x.l V (hv.below hb))
  have HPr := Lib.hid (fun V (hb : Below W.heap.size W V) (hr : RecOk x.l) (hk : x.l.kind = 1) => lprepare_any (h.below hb) hs x (hv.below hb) hr hk)
  have HDo := Lib.hid (fun V (hb : Below W.heap.size W V) (hr : RecOk x.l) (hk : x.l.kind = 2) => lend_any (h.below hb) hs x.l.txn x.l.ts (by
    have h1 := ((kind_2 hk).1 hr.2).2
    rcases hr.1.1 with h2 | h2
    · exact absurd h2 h1
    · exact h2) hr.1.2.1)
  have HWr := Lib.hid (fun V (hb : Below W.heap.size W V) (hr : RecOk x.l) (hk : x.l.kind = 3) => lwrite_any (h.below (hb.trans (((Below.refl _ V).alloc (Nat.le_refl _) (.cells #[.string x.l.key, .string x.l.text, .bool x.l.dead] 45)).mono hb.size))) hs (may_one hr hk).1 (some ⟨V.heap.size, 0, none⟩) 1 (one_wr V x.l.key x.l.text x.l.dead) (fun _ ad e hm => by
    obtain rfl := Option.some.inj e
    have h1 : V.heap.size < W.heap.size := h.mu_lt _ hm
    have := hb.size
    omega) (by simp))
  have HSw := Lib.hid (fun V (hb : Below W.heap.size W V) => lsweeps_any (h.below hb) hs x.l.ts)
  have HOld := Lib.hid (show ∀ V, Below W.heap.size W V → ∀ e, applyP s x.l = (s, e) → LRep V (Gr F W V) g (applyP s x.l).1 ∧ Far F W V from fun V hb e he => by
    rw [he]
    exact ⟨⟨bc, bp, v, K, P, h.gr hb.size (h.below hb)⟩, Far.of hb⟩)
  have H0 := Lib.hid (fun (hr : ¬ RecOk x.l) => show applyP s x.l = (s, 80) by unfold applyP; rw [if_pos hr])
  have H1 := Lib.hid (fun (hr : RecOk x.l) (hk : x.l.kind = 1) => show applyP s x.l = prepareP s x.l by unfold applyP; rw [if_neg (by simpa using hr), if_pos hk])
  have H2 := Lib.hid (fun (hr : RecOk x.l) (hk : x.l.kind = 2) => show applyP s x.l = doP s x.l.txn x.l.ts by unfold applyP; rw [if_neg (by simpa using hr), if_neg (by omega), if_pos hk])
  have H3 := Lib.hid (fun (hr : RecOk x.l) (hk : x.l.kind = 3) => show applyP s x.l = writeP s x.l.ts [⟨x.l.key, x.l.text, x.l.dead⟩] by rw [← ver_write hs (v := ⟨x.l.ts, x.l.text, x.l.dead⟩) (may_one hr hk).2]; unfold applyP; rw [if_neg (by simpa using hr), if_neg (by omega), if_neg (by omega), if_pos hk])
  have H4 := Lib.hid (fun (hr : RecOk x.l) (hk : x.l.kind = 4) => show applyP s x.l = sweepS s x.l.ts by unfold applyP; rw [if_neg (by simpa using hr), if_neg (by omega), if_neg (by omega), if_neg (by omega), if_pos hk])
  have H5 := Lib.hid (fun (hr : RecOk x.l) (h1 : x.l.kind ≠ 1) (h2 : x.l.kind ≠ 2) (h3 : x.l.kind ≠ 3) (h4 : x.l.kind ≠ 4) => show applyP s x.l = (s, 80) by unfold applyP; rw [if_neg (by simpa using hr), if_neg h1, if_neg h2, if_neg h3, if_neg h4])
  obtain ⟨r, A1, B1, c1, d1⟩ := x
  try simp only at HOld
  try simp only at H0
  try simp only at H1
  try simp only at H2
  try simp only at H3
  try simp only at H4
  try simp only at H5
  try simp only at HDo
  try simp only at HSw
  try simp only at HWr
  have HPr2 : Hid (∀ V, Below W.heap.size W V → RecOk r → r.kind = 1 → Calls Tryz.prog 29 #[.pointer (some ⟨g, 0, none⟩), .agg #[.int .i64 r.kind, .int .i64 r.txn, .int .i64 r.ts, .int .i64 r.coord, .string r.key, .string r.text, .bool r.dead, .slice A1 r.keys.length c1, .slice B1 r.ws.length d1]] V fun e w' => e = .returned (.int .i64 (prepareP s r).2) ∧ LRep w' (Gr F V w') g (prepareP s r).1 ∧ Far F V w') := HPr
  have HCk2 : Hid (∀ V, Below W.heap.size W V → Calls Tryz.prog 28 #[.agg #[.int .i64 r.kind, .int .i64 r.txn, .int .i64 r.ts, .int .i64 r.coord, .string r.key, .string r.text, .bool r.dead, .slice A1 r.keys.length c1, .slice B1 r.ws.length d1]] V fun e w' => e = .returned (.int .i64 (ckN r : Int)) ∧ Below V.heap.size V w') := HCk
  have hc1 : Cel (W.alloc (.cells (c9 r (.slice A1 r.keys.length c1) (.slice B1 r.ws.length d1)).toArray 37)) W.heap.size 37 (c9 r (.slice A1 r.keys.length c1) (.slice B1 r.ws.length d1)) := (blk1 W _).2
  have hb1 : Below W.heap.size W (W.alloc (.cells (c9 r (.slice A1 r.keys.length c1) (.slice B1 r.ws.length d1)).toArray 37)) := (Below.refl _ W).alloc (Nat.le_refl _) _
  clear h hs hv HPr HCk
  show Calls _ _ #[_, .agg #[.int .i64 r.kind, .int .i64 r.txn, .int .i64 r.ts, .int .i64 r.coord, .string r.key, .string r.text, .bool r.dead, .slice A1 r.keys.length c1, .slice B1 r.ws.length d1]] _ _
  go_enter Tryz.func10, Tryz.ntmps10
  go_upto_region 1 with fail
  generalize W.alloc (.cells #[.int .i64 r.kind, .int .i64 r.txn, .int .i64 r.ts, .int .i64 r.coord, .string r.key, .string r.text, .bool r.dead, .slice A1 r.keys.length c1, .slice B1 r.ws.length d1] 37) = W1 at hc1 hb1 ⊢
  have HC1 := Lib.hid hc1
  have HB1 := Lib.hid hb1
  have q0 := hc1.cell (i := 0) rfl
  have q1 := hc1.cell (i := 1) rfl
  have q2 := hc1.cell (i := 2) rfl
  have q3 := hc1.cell (i := 3) rfl
  have q4 := hc1.cell (i := 4) rfl
  have q5 := hc1.cell (i := 5) rfl
  have q6 := hc1.cell (i := 6) rfl
  have q7 := hc1.cell (i := 7) rfl
  have q8 := hc1.cell (i := 8) rfl
  clear hc1 hb1
  go_wp2_with fail
  refine (HCk2.out _ HB1.out).mono ?_
  rintro e1 w1 ⟨rfl, hb⟩
  have HB2 := Lib.hid (HB1.out.trans (hb.mono HB1.out.size))
  have hc2 := HC1.out.below hb
  clear q0 q1 q2 q3 q4 q5 q6 q7 q8 hb HC1 HCk2 HB1
  by_cases hok : RecOk r
  case neg =>
    have E := Lib.hid (H0.out hok)
    rw [ckN_not hok]
    clear hc2 hok
    go_wp2_with fail
    go_ret
    exact ⟨(by rw [E.out]; first | done | rfl), HOld.out _ HB2.out _ E.out⟩
  rw [ckN_of hok]
  have q0 := hc2.cell (i := 0) rfl
  have q1 := hc2.cell (i := 1) rfl
  have q2 := hc2.cell (i := 2) rfl
  have q3 := hc2.cell (i := 3) rfl
  have q4 := hc2.cell (i := 4) rfl
  have q5 := hc2.cell (i := 5) rfl
  have q6 := hc2.cell (i := 6) rfl
  have q7 := hc2.cell (i := 7) rfl
  have q8 := hc2.cell (i := 8) rfl
  have HC2 := Lib.hid hc2
  clear hc2
  have HOk := Lib.hid hok
  by_cases k1 : r.kind = 1
  · have E := Lib.hid (H1.out hok k1)
    have HR := Lib.hid (HPr2.out _ HB2.out hok k1)
    rw [k1] at HR
    clear H0 H1 H2 H3 H4 H5 hok HOld HPr2 HDo HWr HSw
    go_wp2_with fail
    refine HR.out.mono ?_
    rintro e2 w2 ⟨rfl, hl, ha⟩
    have HR2 := Lib.hid (HLat.out _ _ _ HB2.out hl ha)
    clear hl ha HR
    go_wp2_with fail
    go_ret
    exact ⟨(by rw [E.out]; first | done | rfl), by rw [E.out]; exact HR2.out.1, HR2.out.2⟩
  by_cases k2 : r.kind = 2
  · have E := Lib.hid (H2.out hok k2)
    have HR := Lib.hid (HDo.out _ HB2.out hok k2)
    clear H0 H1 H2 H3 H4 H5 hok HOld HPr2 HDo HWr HSw
    go_wp2_with fail
    refine HR.out.mono ?_
    rintro e2 w2 ⟨rfl, hl, ha⟩
    have HR2 := Lib.hid (HLat.out _ _ _ HB2.out hl ha)
    clear hl ha HR
    go_wp2_with fail
    go_ret
    exact ⟨(by rw [E.out]; first | done | rfl), by rw [E.out]; exact HR2.out.1, HR2.out.2⟩
  by_cases k3 : r.kind = 3
  · have E := Lib.hid (H3.out hok k3)
    have HR := Lib.hid (HWr.out _ HB2.out hok k3)
    have HB3 := Lib.hid (HB2.out.trans (((Below.refl _ w1).alloc (Nat.le_refl _) (.cells #[.string r.key, .string r.text, .bool r.dead] 45)).mono HB2.out.size))
    simp only [List.length_cons, List.length_nil, Nat.zero_add] at HR
    clear H0 H1 H2 H3 H4 H5 hok HOld HPr2 HDo HWr HSw
    go_wp2_with fail
    refine HR.out.mono ?_
    rintro e2 w2 ⟨rfl, ⟨K', hl⟩, ha⟩
    have HR2 := Lib.hid (HLat.out _ _ _ HB3.out ⟨_, _, _, _, _, hl⟩ ha)
    clear hl ha HR
    go_wp2_with fail
    go_ret
    exact ⟨(by rw [E.out]; first | done | rfl), by rw [E.out]; exact HR2.out.1, HR2.out.2⟩
  by_cases k4 : r.kind = 4
  · have E := Lib.hid (H4.out hok k4)
    have HR := Lib.hid (HSw.out _ HB2.out)
    clear H0 H1 H2 H3 H4 H5 hok HOld HPr2 HDo HWr HSw
    go_wp2_with fail
    refine HR.out.mono ?_
    rintro e2 w2 ⟨rfl, hl, ha⟩
    have HR2 := Lib.hid (HLat.out _ _ _ HB2.out hl ha)
    clear hl ha HR
    go_wp2_with fail
    go_ret
    exact ⟨(by rw [E.out]; first | done | rfl), by rw [E.out]; exact HR2.out.1, HR2.out.2⟩
  have E := Lib.hid (H5.out hok k1 k2 k3 k4)
  clear H0 H1 H2 H3 H4 H5 hok HPr2 HDo HWr HSw
  go_wp2_with fail
  go_ret
  exact ⟨(by rw [E.out]; first | done | rfl), HOld.out _ HB2.out _ E.out⟩

end

set_option maxRecDepth 20000 in
set_option maxHeartbeats 4000000 in
theorem lnew_any (W : World) : Calls Tryz.prog 6 #[] W fun e w' => ∃ g F, e = .returned (.pointer (some ⟨g, 0, none⟩)) ∧ LRep w' F g empty ∧ (∀ k, F k → W.heap.size ≤ k) ∧ Below W.heap.size W w' := by
  have hmm := @run_makeMap Tryz.prog
  go_enter Tryz.func6, Tryz.ntmps6
  go_wp2_with fail
  go_ret
  have n1 : (W.alloc (.map #[] 0)).heap.size = W.heap.size + 1 := Array.size_push ..
  have n2 : ((W.alloc (.map #[] 0)).alloc (.map #[] 0)).heap.size = W.heap.size + 1 + 1 := by exact (Array.size_push ..).trans (by rw [n1])
  have b1 : Below W.heap.size W (W.alloc (.map #[] 0)) := (Below.refl _ W).alloc (Nat.le_refl _) _
  have b2 := (Below.refl _ (W.alloc (.map #[] 0))).alloc (Nat.le_refl _) (.map #[] 0)
  have b3 := (Below.refl _ ((W.alloc (.map #[] 0)).alloc (.map #[] 0))).alloc (Nat.le_refl _) (.cells #[.map (some W.heap.size), .map (some (W.heap.size + 1)), .slice none 0 0, .int .i64 0] 63)
  have m1 := mapIs_made strQ W
  have m2 := mapIs_made intQ (W.alloc (.map #[] 0))
  have c1 := (blk1 ((W.alloc (.map #[] 0)).alloc (.map #[] 0)) (.cells #[.map (some W.heap.size), .map (some (W.heap.size + 1)), .slice none 0 0, .int .i64 0] 63)).2
  rw [n1] at m2 b2
  rw [n2] at c1 b3
  refine ⟨_, Mu (W.heap.size + 1 + 1) W.heap.size (W.heap.size + 1) (.slice none 0 0), rfl, ⟨_, _, _, [], [], c1, ?_, ?_, ⟨rfl, .inl ?_⟩, fun _ => rfl, by simp, by simp, rfl, rfl, by omega, fun _ h => h, by simp, by simp, ?_⟩, ?_, ?_⟩
  · exact (m1.kept (b2.block _ (by omega))).kept (b3.block _ (by omega))
  · exact m2.kept (b3.block _ (by omega))
  · exact ⟨rfl, rfl⟩
  · rintro k (h | h | h | h)
    · have n3 : (((W.alloc (.map #[] 0)).alloc (.map #[] 0)).alloc (.cells #[.map (some W.heap.size), .map (some (W.heap.size + 1)), .slice none 0 0, .int .i64 0] 63)).heap.size = W.heap.size + 1 + 1 + 1 := (Array.size_push ..).trans (by rw [n2])
      omega
    · have n3 : (((W.alloc (.map #[] 0)).alloc (.map #[] 0)).alloc (.cells #[.map (some W.heap.size), .map (some (W.heap.size + 1)), .slice none 0 0, .int .i64 0] 63)).heap.size = W.heap.size + 1 + 1 + 1 := (Array.size_push ..).trans (by rw [n2])
      omega
    · have n3 : (((W.alloc (.map #[] 0)).alloc (.map #[] 0)).alloc (.cells #[.map (some W.heap.size), .map (some (W.heap.size + 1)), .slice none 0 0, .int .i64 0] 63)).heap.size = W.heap.size + 1 + 1 + 1 := (Array.size_push ..).trans (by rw [n2])
      omega
    · cases h
  · rintro k (h | h | h | h)
    · omega
    · omega
    · omega
    · cases h
  · exact b1.trans ((b2.mono (by omega)).trans (b3.mono (by omega)))

end Sh
end Go.Proofs.YtiobhbagjokpcaaGreat

/- The library's slices.Sorted(maps.Keys(m)) at texts, laid at this program: they come rising; no condition but the sizes. -/
namespace Go.Proofs.YtiobhbagjokpcaaGreat
namespace Sh
open Go.RowKit Go.Maps Go.Sort Go.Shelf Bk

def keysS_ren : Go.Shelf.Ren := ⟨fun | 7 => 52 | 10 => 83 | n => n, fun | 23 => 59 | 26 => 9 | 3 => 66 | 28 => 85 | 0 => 0 | 27 => 84 | 33 => 105 | 4 => 4 | n => n, fun | n => n⟩
theorem keysS : Go.Proofs.SlLaysZ.n7 Tryz.prog keysS_ren := {
  mixed := by kernel_rfl
  f7 := ⟨Tryz.f52.name, by decide, Tryz.func52.trans (congrArg some (by kernel_rfl))⟩
  f10 := ⟨Tryz.f83.name, by decide, Tryz.func83.trans (congrArg some (by kernel_rfl))⟩
  t0 := Tryz.underlying0
  a0 := Tryz.isAgg0
  z0 := Tryz.sizeOf0
  v0 := Tryz.zeroValue0
  t4 := Tryz.underlying4
  a4 := Tryz.isAgg4
  z4 := Tryz.sizeOf4
  v4 := Tryz.zeroValue4
  t23 := Tryz.underlying59
  a23 := Tryz.isAgg59
  z23 := Tryz.sizeOf59
  v23 := Tryz.zeroValue59
  t26 := Tryz.underlying9
  a26 := Tryz.isAgg9
  z26 := Tryz.sizeOf9
  v26 := Tryz.zeroValue9
  t27 := Tryz.underlying84
  a27 := Tryz.isAgg84
  z27 := Tryz.sizeOf84
  v27 := Tryz.zeroValue84
  t28 := Tryz.underlying85
  a28 := Tryz.isAgg85
  z28 := Tryz.sizeOf85
  v28 := Tryz.zeroValue85
  t33 := Tryz.underlying105
  a33 := Tryz.isAgg105
  z33 := Tryz.sizeOf105
  v33 := Tryz.zeroValue105
}

def sortedS_ren : Go.Shelf.Ren := ⟨fun | 6 => 51 | 8 => 81 | 9 => 82 | 11 => 107 | 13 => 109 | 12 => 108 | 23 => 131 | 24 => 132 | 14 => 123 | 15 => 124 | 16 => 125 | 17 => 126 | 18 => 127 | 19 => 128 | 20 => 121 | 21 => 129 | 22 => 130 | 25 => 146 | 26 => 147 | 27 => 148 | 28 => 149 | 29 => 150 | 30 => 145 | 31 => 156 | n => n, fun | 26 => 9 | 28 => 85 | 24 => 23 | 0 => 0 | 3 => 3 | 37 => 141 | 48 => 159 | 50 => 161 | 4 => 4 | 40 => 153 | 39 => 152 | 45 => 107 | 5 => 5 | 9 => 9 | 51 => 172 | 55 => 176 | 57 => 181 | 58 => 64 | 33 => 105 | n => n, fun | n => n⟩
theorem sortedS : Go.Proofs.SlLaysZ.n6 Tryz.prog sortedS_ren := {
  mixed := by kernel_rfl
  f6 := ⟨Tryz.f51.name, by decide, Tryz.func51.trans (congrArg some (by kernel_rfl))⟩
  f8 := ⟨Tryz.f81.name, by decide, Tryz.func81.trans (congrArg some (by kernel_rfl))⟩
  f11 := ⟨Tryz.f107.name, by decide, Tryz.func107.trans (congrArg some (by kernel_rfl))⟩
  t0 := Tryz.underlying0
  a0 := Tryz.isAgg0
  z0 := Tryz.sizeOf0
  v0 := Tryz.zeroValue0
  t24 := Tryz.underlying23
  a24 := Tryz.isAgg23
  z24 := Tryz.sizeOf23
  v24 := Tryz.zeroValue23
  t26 := Tryz.underlying9
  a26 := Tryz.isAgg9
  z26 := Tryz.sizeOf9
  v26 := Tryz.zeroValue9
  t28 := Tryz.underlying85
  a28 := Tryz.isAgg85
  z28 := Tryz.sizeOf85
  v28 := Tryz.zeroValue85
  i26 := by kernel_rfl
}

def sortS_ren : Go.Shelf.Ren := ⟨fun | 6 => 82 | 8 => 109 | 9 => 108 | 19 => 131 | 20 => 132 | 21 => 123 | 22 => 124 | 23 => 125 | 24 => 126 | 25 => 127 | 26 => 128 | 27 => 121 | 28 => 129 | 29 => 130 | 36 => 146 | 31 => 147 | 32 => 148 | 37 => 149 | 38 => 150 | 39 => 145 | 41 => 156 | n => n, fun | 27 => 23 | 29 => 9 | 3 => 3 | 32 => 141 | 26 => 23 | 0 => 0 | 44 => 159 | 46 => 161 | 4 => 4 | 36 => 153 | 35 => 152 | 41 => 107 | 5 => 5 | 9 => 9 | 53 => 172 | 57 => 176 | 63 => 181 | 64 => 64 | n => n, fun | n => n⟩
theorem sortS : Go.Proofs.SlLaysM.n6 Tryz.prog sortS_ren := {
  mixed := by kernel_rfl
  f6 := ⟨Tryz.f82.name, by decide, Tryz.func82.trans (congrArg some (by kernel_rfl))⟩
  f9 := ⟨Tryz.f108.name, by decide, Tryz.func108.trans (congrArg some (by kernel_rfl))⟩
  f8 := Tryz.func109.trans (congrArg some (by kernel_rfl))
  f21 := ⟨Tryz.f123.name, by decide, Tryz.func123.trans (congrArg some (by kernel_rfl))⟩
  f22 := ⟨Tryz.f124.name, by decide, Tryz.func124.trans (congrArg some (by kernel_rfl))⟩
  f23 := ⟨Tryz.f125.name, by decide, Tryz.func125.trans (congrArg some (by kernel_rfl))⟩
  f24 := ⟨Tryz.f126.name, by decide, Tryz.func126.trans (congrArg some (by kernel_rfl))⟩
  f25 := ⟨Tryz.f127.name, by decide, Tryz.func127.trans (congrArg some (by kernel_rfl))⟩
  f26 := ⟨Tryz.f128.name, by decide, Tryz.func128.trans (congrArg some (by kernel_rfl))⟩
  f27 := ⟨Tryz.f121.name, by decide, Tryz.func121.trans (congrArg some (by kernel_rfl))⟩
  f28 := ⟨Tryz.f129.name, by decide, Tryz.func129.trans (congrArg some (by kernel_rfl))⟩
  f29 := ⟨Tryz.f130.name, by decide, Tryz.func130.trans (congrArg some (by kernel_rfl))⟩
  f19 := Tryz.func131.trans (congrArg some (by kernel_rfl))
  f20 := Tryz.func132.trans (congrArg some (by kernel_rfl))
  f36 := ⟨Tryz.f146.name, by decide, Tryz.func146.trans (congrArg some (by kernel_rfl))⟩
  f31 := Tryz.func147.trans (congrArg some (by kernel_rfl))
  f32 := Tryz.func148.trans (congrArg some (by kernel_rfl))
  f37 := ⟨Tryz.f149.name, by decide, Tryz.func149.trans (congrArg some (by kernel_rfl))⟩
  f38 := ⟨Tryz.f150.name, by decide, Tryz.func150.trans (congrArg some (by kernel_rfl))⟩
  f39 := ⟨Tryz.f145.name, by decide, Tryz.func145.trans (congrArg some (by kernel_rfl))⟩
  f41 := ⟨Tryz.f156.name, by decide, Tryz.func156.trans (congrArg some (by kernel_rfl))⟩
  t0 := Tryz.underlying0
  a0 := Tryz.isAgg0
  z0 := Tryz.sizeOf0
  v0 := Tryz.zeroValue0
  t3 := Tryz.underlying3
  a3 := Tryz.isAgg3
  z3 := Tryz.sizeOf3
  v3 := Tryz.zeroValue3
  t4 := Tryz.underlying4
  a4 := Tryz.isAgg4
  z4 := Tryz.sizeOf4
  v4 := Tryz.zeroValue4
  t5 := Tryz.underlying5
  a5 := Tryz.isAgg5
  z5 := Tryz.sizeOf5
  v5 := Tryz.zeroValue5
  t9 := Tryz.underlying9
  a9 := Tryz.isAgg9
  z9 := Tryz.sizeOf9
  v9 := Tryz.zeroValue9
  t26 := Tryz.underlying23
  a26 := Tryz.isAgg23
  z26 := Tryz.sizeOf23
  v26 := Tryz.zeroValue23
  t27 := Tryz.underlying23
  a27 := Tryz.isAgg23
  z27 := Tryz.sizeOf23
  v27 := Tryz.zeroValue23
  t29 := Tryz.underlying9
  a29 := Tryz.isAgg9
  z29 := Tryz.sizeOf9
  v29 := Tryz.zeroValue9
  t32 := Tryz.underlying141
  a32 := Tryz.isAgg141
  z32 := Tryz.sizeOf141
  v32 := Tryz.zeroValue141
  t35 := Tryz.underlying152
  a35 := Tryz.isAgg152
  z35 := Tryz.sizeOf152
  v35 := Tryz.zeroValue152
  t36 := Tryz.underlying153
  a36 := Tryz.isAgg153
  z36 := Tryz.sizeOf153
  v36 := Tryz.zeroValue153
  t41 := Tryz.underlying107
  a41 := Tryz.isAgg107
  z41 := Tryz.sizeOf107
  v41 := Tryz.zeroValue107
  t44 := Tryz.underlying159
  a44 := Tryz.isAgg159
  z44 := Tryz.sizeOf159
  v44 := Tryz.zeroValue159
  t46 := Tryz.underlying161
  a46 := Tryz.isAgg161
  z46 := Tryz.sizeOf161
  v46 := Tryz.zeroValue161
  t53 := Tryz.underlying172
  a53 := Tryz.isAgg172
  z53 := Tryz.sizeOf172
  v53 := Tryz.zeroValue172
  t57 := Tryz.underlying176
  a57 := Tryz.isAgg176
  z57 := Tryz.sizeOf176
  v57 := Tryz.zeroValue176
  t63 := Tryz.underlying181
  a63 := Tryz.isAgg181
  z63 := Tryz.sizeOf181
  v63 := Tryz.zeroValue181
  t64 := Tryz.underlying64
  a64 := Tryz.isAgg64
  z64 := Tryz.sizeOf64
  v64 := Tryz.zeroValue64
}

/-- the sort's two contracts at this program, at the fence that asks nothing -/
theorem sortsS (m : Nat) : AnyZ.SortsIn Tryz.prog sortedS_ren Fence.wide m :=
  ⟨fun blk off cap ss W hH hblk hsz => callsIn_wide.2 (AnyM.slices_Sort_string sortS blk off cap ss W hH hblk hsz),
   fun p cap W => callsIn_wide.2 (AnyM.slices_Sort_string_none sortS p cap W)⟩

/-- what goes over a map's texts: a function value, and a block that holds the map -/
theorem skeys_call (mb : Option Nat) (W : World) : Calls Tryz.prog 52 #[.map mb] W fun e w' =>
    e = .returned (.func (.func 83) #[] #[.pointer (some ⟨W.heap.size, 0, none⟩)]) ∧ w' = W.alloc (.cells #[.map mb] 59) :=
  (callsIn_wide (n := 5)).1 (AnyZ.keys_in keysS Fence.wide 5 trivial rfl mb W)

set_option maxHeartbeats 1000000 in
theorem ssorted_call {H : Type} (b nn : Nat) (D0 : DataW H) (R : Value → Option (DataW H × List MemPlace)) (w : World) (hown : w.ownsMap Tryz.prog 9 R b nn D0) (hmax : Maps.size D0 ≤ maxLen) (hbytes : Maps.size D0 * 16 ≤ 140737488355328) :
    Calls Tryz.prog 51 #[.func (.func 83) #[] #[.pointer (some ⟨w.heap.size, 0, none⟩)]] (w.alloc (.cells #[.map (some b)] 59)) fun e w' =>
      ∃ (v : Value) (ss : List (List UInt8)), e = .returned v ∧ ss.Perm (strKeys D0) ∧
      w'.ownsRow (w.alloc (.cells #[.map (some b)] 59)).heap.size 9 1 v ss.length ((ss.mergeSort (fun x y => decide (x ≤ y))).map encStr) ∧ (v = .slice none 0 0 ↔ ss = []) ∧ Below (w.alloc (.cells #[.map (some b)] 59)).heap.size (w.alloc (.cells #[.map (some b)] 59)) w' := by
  have hbl := hown.lt
  have hseq : SeqGives Fence.wide 2 Tryz.prog 83 #[.pointer (some ⟨w.heap.size, 0, none⟩)] encStr (fun ss => ss.Perm (strKeys D0)) (Maps.size D0) (w.alloc (.cells #[.map (some b)] 59)) :=
    AnyZ.keys_gives (ρ := keysS_ren) { keysS with } Fence.wide _ trivial rfl (by omega) w.heap.size b nn D0 _ (by simp) (by simp) (by
      obtain ⟨es, clock, hb, Ft, hs, hD⟩ := hown
      exact ⟨es, clock, (Below.heap_alloc _ _ b hbl).trans hb, Ft, hs, hD⟩)
  have cS := AnyZ.sorted_in sortedS Fence.wide 5 trivial trivial trivial trivial rfl (by omega) (sortsS _) (enters_of Tryz.func82 (by kernel_rfl) rfl) 83 #[.pointer (some ⟨w.heap.size, 0, none⟩)] trivial (enters_of Tryz.func83 (by kernel_rfl) rfl) _ _ hmax hbytes _ hseq
  exact (callsIn_wide (n := 5)).1 cS

end Sh
end Go.Proofs.YtiobhbagjokpcaaGreat

/- The landed shelf: its keys, rising; contract; no condition but the range. -/
namespace Go.Proofs.YtiobhbagjokpcaaGreat
namespace Sh
open Go.RowKit Go.Maps Go.Sort Bk Ch Lt Rc Tr

theorem less_le : ∀ x y : List UInt8, Op.bytesLess x y = true → x ≤ y
  | [], _, _ => List.nil_le _
  | _ :: _, [], h => by rw [bytesLess_nil2] at h; cases h
  | a :: x, b :: y, h => by
    unfold Op.bytesLess at h
    simp only [Bool.or_eq_true, Bool.and_eq_true, decide_eq_true_eq, beq_iff_eq] at h
    rw [List.cons_le_cons_iff]
    rcases h with h | ⟨h1, h2⟩
    · exact .inl h
    · exact .inr ⟨h1, less_le x y h2⟩

theorem lt_le {a b : ByteArray} (h : ltK a b = true) : a.data.toList ≤ b.data.toList := by
  have h1 := less_le _ _ h
  rwa [ByteArray.toList_eq, ByteArray.toList_eq] at h1

/-- the texts that a map's datum has -/
theorem str_keys {w : World} {b n : Nat} {D : DataW Value} {m : List (ByteArray × Value)} (h : w.ownsMap Tryz.prog 9 rdV b n D) (hs : MSays strQ D m) : (m.map (fun p => p.1.data.toList)).Perm (strKeys D) := by
  obtain ⟨es, hD, hpw, _⟩ := h.entries strQ.keyed
  obtain ⟨es', hD', hko⟩ := h.keysOf
  obtain rfl : es = es' := by rw [hD] at hD'; simpa using hD'
  subst hD
  have inj : ∀ x y : ByteArray, x.data.toList = y.data.toList → x = y := fun x y e => by
    obtain ⟨a⟩ := x
    obtain ⟨b⟩ := y
    congr 1
    exact Array.toList_inj.1 e
  refine perm_strKeys hpw (fun p hp => by
    obtain ⟨v, hv⟩ := hko p hp
    obtain ⟨s, _, e, _⟩ := WideMaps.string_of_keyOf Tryz.underlying9 hv
    exact ⟨_, e⟩) ?_ (fun x => ?_)
  · have h1 := hs.nodup
    rw [show (m.map fun p => p.1.data.toList) = (m.map (·.1)).map (fun k => k.data.toList) by rw [List.map_map]; rfl]
    exact List.pairwise_map.2 (h1.imp fun hne e => hne (inj _ _ e))
  · have h1 := hs.has ⟨x.toArray⟩
    have e : strQ.kl ⟨x.toArray⟩ = .string x := rfl
    rw [e] at h1
    rw [h1]
    constructor
    · intro hm
      obtain ⟨p, hp, rfl⟩ := List.mem_map.1 hm
      exact List.mem_map.2 ⟨p, hp, rfl⟩
    · intro hm
      obtain ⟨p, hp, e2⟩ := List.mem_map.1 hm
      exact List.mem_map.2 ⟨p, hp, by rw [e2]⟩

theorem enc_str (l : List ByteArray) : (l.map (fun k => k.data.toList)).map encStr = strV l := by
  unfold strV
  rw [List.map_map]
  exact List.map_congr_left fun k _ => rfl

/-- the library's texts of a map, rising -/
theorem sorted_strs {w : World} {b : Nat} {m : List (ByteArray × Value)} (h : MapIs strQ w b m) {l : List ByteArray} (hl : l.Pairwise (fun x y => ltK x y = true)) (hp : (m.map (·.1)).Perm l) (hn : m.length ≤ 2048) :
    Calls Tryz.prog 51 #[.func (.func 83) #[] #[.pointer (some ⟨w.heap.size, 0, none⟩)]] (w.alloc (.cells #[.map (some b)] 59)) fun e w' =>
      ∃ v : Value, e = .returned v ∧ w'.ownsRow w.heap.size 9 1 v l.length (strV l) ∧ Below w.heap.size w w' := by
  obtain ⟨D, hown, hsays⟩ := h
  have hsz := says_size hown hsays
  have hml : m.length = l.length := by have := hp.length_eq; rwa [List.length_map] at this
  refine (ssorted_call b m.length D rdV w hown (by unfold maxLen; omega) (by omega)).mono ?_
  rintro e w' ⟨v, ss, rfl, hpp, hrow, _, hb⟩
  have hp2 : (m.map (fun p => p.1.data.toList)).Perm (l.map (fun k => k.data.toList)) := by
    rw [show (m.map fun p => p.1.data.toList) = (m.map (·.1)).map (fun k => k.data.toList) by rw [List.map_map]; rfl]
    exact hp.map _
  have hperm : ss.Perm (l.map (fun k => k.data.toList)) := hpp.trans ((str_keys hown hsays).symm.trans hp2)
  have hsort : ss.mergeSort (fun x y => decide (x ≤ y)) = l.map (fun k => k.data.toList) := by
    have h1 := mergeSort_of_perm hperm
    have h2 : (l.map (fun k => k.data.toList)).mergeSort leB = l.map (fun k => k.data.toList) := List.mergeSort_of_pairwise (List.pairwise_map.2 (hl.imp fun {a b} hab => by simp only [leB, decide_eq_true_eq]; exact lt_le hab))
    exact h1.trans h2
  have hlen : ss.length = l.length := by have := hperm.length_eq; rwa [List.length_map] at this
  rw [hsort, enc_str, hlen] at hrow
  exact ⟨v, rfl, own_base hrow (by simp), ((Below.refl _ w).alloc (Nat.le_refl _) _).trans (hb.mono (by simp))⟩

end Sh
end Go.Proofs.YtiobhbagjokpcaaGreat
