/- Parts of the proof, joined: ShL7, ShSortI, ShL8; their conditions stand with each. -/
import Derived.Shelf.SlIterI.Nil
import Derived.Shelf.SortM.Plain
import Derived.Shelf.SortM.SortNone
import Derived.Test.YtiobhbagjokpcaaGreatM0
import Derived.Test.YtiobhbagjokpcaaGreatM7
import Derived.Test.YtiobhbagjokpcaaGreatM14
import Derived.Test.YtiobhbagjokpcaaGreatM28

/- The landed shelf: Prep, Read, Last, Swept; contracts; no condition but the range. -/
namespace Go.Proofs.YtiobhbagjokpcaaGreat
namespace Sh
open Go.RowKit Bk Ch Lt Rc Tr

attribute [local go_sem ↓] Go.wp_at_zero Go.wp_at_succ
attribute [local go_sem] floatUpon pick

/-- the value is this record, in memory from X on -/
def RecN (W : World) (X : Nat) (r : Rec) (v : Value) : Prop := ∃ y : RI, v = .agg (rcs y).toArray ∧ y.l = r ∧ RecVal W y.A y.B y.c y.d y.l ∧ (0 < r.keys.length → ∀ ad, y.A = some ad → X ≤ ad.block) ∧ (0 < r.ws.length → ∀ ad, y.B = some ad → X ≤ ad.block)

section
variable {W : World} {F : Nat → Prop} {g bc bp : Nat} {v : Value} {K : List KI} {P : List RI} {s : Shf}

/-- the record of a transaction, as the map answers it -/
theorem LAt.recd (h : LAt W F g bc bp v K P s) (hs : ShOk s) {txn : Int} (ht1 : -9223372036854775808 ≤ txn) (ht2 : txn ≤ 9223372036854775807) : ∃ x : RI, x.l = (prepR s txn).1 ∧ x.l.keys.length ≤ 1024 ∧ x.l.ws.length ≤ 1024 ∧ (∀ V, Below W.heap.size W V → RecVal V x.A x.B x.c x.d x.l) ∧
    ∀ V, Below W.heap.size W V → (Instr.lookup 60 (.map (some bp)) (.int .i64 txn) true).run Tryz.prog V = .ok (.tuple #[.agg (rcs x).toArray, .bool (prepR s txn).2]) V := by
  cases hp : prepOf s.p txn with
  | none =>
    have e : prepR s txn = (noRec, false) := by unfold prepR; rw [hp]
    refine ⟨⟨noRec, none, none, 0, 0⟩, by rw [e], Nat.zero_le _, Nat.zero_le _, fun V _ => (no_pval V (fun _ => False)).val, fun V hV => ?_⟩
    rw [e]
    exact (h.below hV).mp.look2_no Tryz.underlying60 (Tryz.zeroRec V) (x := txn) (intQ_ok ht1 ht2) ((h.below hV).prep_out hp)
  | some r =>
    have e : prepR s txn = (r, true) := by unfold prepR; rw [hp]
    obtain ⟨x, hx, rfl, hm⟩ := h.prep_in hp
    have hr := hs.po x.l (prep_mem hp).1
    have hu := ups_of hr.1 hr.2
    refine ⟨x, by rw [e], hu.kl, hu.wl, fun V hV => ((h.below hV).pv x hx).val, fun V hV => ?_⟩
    rw [e]
    exact (h.below hV).mp.look2 Tryz.underlying60 (Tryz.zeroRec V) (x := txn) hm

set_option maxRecDepth 20000 in
set_option maxHeartbeats 8000000 in
theorem lprep_any (h : LAt W F g bc bp v K P s) (hs : ShOk s) (txn : Int) (ht1 : -9223372036854775808 ≤ txn) (ht2 : txn ≤ 9223372036854775807) :
    Calls Tryz.prog 44 #[.pointer (some ⟨g, 0, none⟩), .int .i64 txn] W fun e w' => ∃ u, e = .returned (.tuple #[u, .bool (prepR s txn).2]) ∧ RecN w' W.heap.size (prepR s txn).1 u ∧ Below W.heap.size W w' := by
  obtain ⟨x, hxl, hkl, hwl, hval, hlk⟩ := h.recd hs ht1 ht2
  have HCp := Lib.hid (fun V (hb : Below W.heap.size W V) => copied_any x V (hval V hb) hkl hwl)
  have HH := Lib.hid (fun V (hb : Below W.heap.size W V) => h.below hb)
  obtain ⟨bb, hbb⟩ : ∃ b, (prepR s txn).2 = b := ⟨_, rfl⟩
  obtain ⟨rr, hrr⟩ : ∃ b, (prepR s txn).1 = b := ⟨_, rfl⟩
  rw [hbb] at hlk ⊢
  rw [hrr] at hxl ⊢
  obtain ⟨r, A, B, c, d⟩ := x
  simp only at hxl
  subst hxl
  have HLk : Hid (∀ V, Below W.heap.size W V → (Instr.lookup 60 (.map (some bp)) (.int .i64 txn) true).run Tryz.prog V = .ok (.tuple #[.agg #[.int .i64 r.kind, .int .i64 r.txn, .int .i64 r.ts, .int .i64 r.coord, .string r.key, .string r.text, .bool r.dead, .slice A r.keys.length c, .slice B r.ws.length d], .bool bb]) V) := Lib.hid hlk
  clear hlk hval hkl hwl hbb hrr h hs ht1 ht2
  go_enter Tryz.func44, Tryz.ntmps44
  go_upto_region 1 with fail
  have hR0 : Cel (W.alloc (.cells #[.int .i64 0, .int .i64 0, .int .i64 0, .int .i64 0, .string ⟨#[]⟩, .string ⟨#[]⟩, .bool false, .slice none 0 0, .slice none 0 0] 37)) W.heap.size 37 zero9 := (blk1 W _).2
  have hB0 : Below W.heap.size W (W.alloc (.cells #[.int .i64 0, .int .i64 0, .int .i64 0, .int .i64 0, .string ⟨#[]⟩, .string ⟨#[]⟩, .bool false, .slice none 0 0, .slice none 0 0] 37)) := (Below.refl _ W).alloc (Nat.le_refl _) _
  generalize hW0 : W.alloc (.cells #[.int .i64 0, .int .i64 0, .int .i64 0, .int .i64 0, .string ⟨#[]⟩, .string ⟨#[]⟩, .bool false, .slice none 0 0, .slice none 0 0] 37) = W0 at hR0 hB0 ⊢
  clear hW0
  have HB0 := Lib.hid hB0
  have HR0 := Lib.hid hR0
  have s1 := (HH.out _ hB0).cel.cell (i := 1) rfl
  have l0 := HLk.out _ hB0
  have zq := fun i => hR0.free (i := i)
  have t0 := hR0.cell (i := 0) rfl
  have t1 := hR0.cell (i := 1) rfl
  have t2 := hR0.cell (i := 2) rfl
  have t3 := hR0.cell (i := 3) rfl
  have t4 := hR0.cell (i := 4) rfl
  have t5 := hR0.cell (i := 5) rfl
  have t6 := hR0.cell (i := 6) rfl
  have t7 := hR0.cell (i := 7) rfl
  have t8 := hR0.cell (i := 8) rfl
  clear hR0 hB0
  go_upto_region 2 with fail
  clear zq t0 t1 t2 t3 t4 t5 t6 t7 t8 s1 l0
  obtain ⟨W2, hW2⟩ : ∃ W2, set9 W0 W.heap.size (.int .i64 r.kind) (.int .i64 r.txn) (.int .i64 r.ts) (.int .i64 r.coord) (.string r.key) (.string r.text) (.bool r.dead) (.slice A r.keys.length c) (.slice B r.ws.length d) = W2 := ⟨_, rfl⟩
  have hR2 := set9_cel (v0 := .int .i64 r.kind) (v1 := .int .i64 r.txn) (v2 := .int .i64 r.ts) (v3 := .int .i64 r.coord) (v4 := .string r.key) (v5 := .string r.text) (v6 := .bool r.dead) (v7 := .slice A r.keys.length c) (v8 := .slice B r.ws.length d) HR0.out
  have hB2 := set9_below (R := W.heap.size) (v0 := .int .i64 r.kind) (v1 := .int .i64 r.txn) (v2 := .int .i64 r.ts) (v3 := .int .i64 r.coord) (v4 := .string r.key) (v5 := .string r.text) (v6 := .bool r.dead) (v7 := .slice A r.keys.length c) (v8 := .slice B r.ws.length d) HB0.out (Nat.le_refl _)
  rw [hW2] at hR2 hB2
  have hW3 := hW2
  unfold set9 at hW3
  rw [hW3]
  clear hW2 hW3 HB0 HR0
  have HB2 := Lib.hid hB2
  have q0 := hR2.cell (i := 0) rfl
  have q1 := hR2.cell (i := 1) rfl
  have q2 := hR2.cell (i := 2) rfl
  have q3 := hR2.cell (i := 3) rfl
  have q4 := hR2.cell (i := 4) rfl
  have q5 := hR2.cell (i := 5) rfl
  have q6 := hR2.cell (i := 6) rfl
  have q7 := hR2.cell (i := 7) rfl
  have q8 := hR2.cell (i := 8) rfl
  have HR2 := Lib.hid hR2
  clear hR2 hB2
  go_wp2_with fail
  refine (HCp.out W2 HB2.out).mono ?_
  rintro e w3 ⟨⟨y, A', B', c', d'⟩, rfl, hyl, hval, hA, hB, hb⟩
  simp only at hyl hval hA hB
  obtain rfl : r = y := hyl.symm
  have hR3 := HR2.out.below hb
  have HB3 := Lib.hid (HB2.out.trans (hb.mono HB2.out.size))
  have HV := Lib.hid hval
  have HA := Lib.hid (fun (h : 0 < r.keys.length) ad e => Nat.le_trans HB2.out.size (hA h ad e))
  have HBb := Lib.hid (fun (h : 0 < r.ws.length) ad e => Nat.le_trans HB2.out.size (hB h ad e))
  have HN7 := Lib.hid (fun (h : 0 < r.keys.length) ad (e : A' = some ad) => show ad.block ≠ W.heap.size from fun e2 => by have := hA h ad e; have := HR2.out.lt; omega)
  have HN8 := Lib.hid (fun (h : 0 < r.ws.length) ad (e : B' = some ad) => show ad.block ≠ W.heap.size from fun e2 => by have := hB h ad e; have := HR2.out.lt; omega)
  clear q0 q1 q2 q3 q4 q5 q6 q7 q8 hval hA hB hb HCp HR2 hyl
  have zq := fun i => hR3.free (i := i)
  have q0 := hR3.cell (i := 0) rfl
  have q1 := hR3.cell (i := 1) rfl
  have q2 := hR3.cell (i := 2) rfl
  have q3 := hR3.cell (i := 3) rfl
  have q4 := hR3.cell (i := 4) rfl
  have q5 := hR3.cell (i := 5) rfl
  have q6 := hR3.cell (i := 6) rfl
  have q7 := hR3.cell (i := 7) rfl
  have q8 := hR3.cell (i := 8) rfl
  have HR3 := Lib.hid hR3
  clear hR3
  simp only [rcs]
  go_wp2_with fail
  have HF := Lib.hid (set9_cel (v0 := .int .i64 r.kind) (v1 := .int .i64 r.txn) (v2 := .int .i64 r.ts) (v3 := .int .i64 r.coord) (v4 := .string r.key) (v5 := .string r.text) (v6 := .bool r.dead) (v7 := .slice A' r.keys.length c') (v8 := .slice B' r.ws.length d') HR3.out)
  have HBF := set9_below (R := W.heap.size) (v0 := .int .i64 r.kind) (v1 := .int .i64 r.txn) (v2 := .int .i64 r.ts) (v3 := .int .i64 r.coord) (v4 := .string r.key) (v5 := .string r.text) (v6 := .bool r.dead) (v7 := .slice A' r.keys.length c') (v8 := .slice B' r.ws.length d') HB3.out (Nat.le_refl _)
  have z0 := HF.out.cell (i := 0) rfl
  have z1 := HF.out.cell (i := 1) rfl
  have z2 := HF.out.cell (i := 2) rfl
  have z3 := HF.out.cell (i := 3) rfl
  have z4 := HF.out.cell (i := 4) rfl
  have z5 := HF.out.cell (i := 5) rfl
  have z6 := HF.out.cell (i := 6) rfl
  have z7 := HF.out.cell (i := 7) rfl
  have z8 := HF.out.cell (i := 8) rfl
  have hk9 : ∀ k, k ≠ W.heap.size → (set9 w3 W.heap.size (.int .i64 r.kind) (.int .i64 r.txn) (.int .i64 r.ts) (.int .i64 r.coord) (.string r.key) (.string r.text) (.bool r.dead) (.slice A' r.keys.length c') (.slice B' r.ws.length d')).heap[k]? = w3.heap[k]? := fun k hk => by
    have e : ∀ (V : World) (i : Nat) (v : Value), (V.setCell ⟨W.heap.size, i, none⟩ v).heap[k]? = V.heap[k]? := fun V i v => Below.heap_setCell V ⟨W.heap.size, i, none⟩ v k hk
    unfold set9
    rw [e, e, e, e, e, e, e, e, e]
  have hs9 : w3.heap.size ≤ (set9 w3 W.heap.size (.int .i64 r.kind) (.int .i64 r.txn) (.int .i64 r.ts) (.int .i64 r.coord) (.string r.key) (.string r.text) (.bool r.dead) (.slice A' r.keys.length c') (.slice B' r.ws.length d')).heap.size := by rw [set9_size]; exact Nat.le_refl _
  have HV2 := Lib.hid (show RecVal (set9 w3 W.heap.size (.int .i64 r.kind) (.int .i64 r.txn) (.int .i64 r.ts) (.int .i64 r.coord) (.string r.key) (.string r.text) (.bool r.dead) (.slice A' r.keys.length c') (.slice B' r.ws.length d')) A' B' c' d' r from ⟨strs_in (F := fun k => k ≠ W.heap.size) HV.out.ks (fun h ad e => HN7.out h ad e) hs9 hk9, wrs_in (F := fun k => k ≠ W.heap.size) HV.out.ws (fun h ad e => HN8.out h ad e) hs9 hk9, HV.out.rng, HV.out.kn, HV.out.wn⟩)
  unfold set9 at z0 z1 z2 z3 z4 z5 z6 z7 z8
  exact bodyPost_ret (v := .tuple #[.agg (rcs ⟨r, A', B', c', d'⟩).toArray, .bool bb]) (by simp [results, Tryz.results44, go_sem, rcs, z0, z1, z2, z3, z4, z5, z6, z7, z8]) rfl ⟨_, rfl, ⟨⟨r, A', B', c', d'⟩, rfl, rfl, HV2.out, fun h ad e => HA.out h ad e, fun h ad e => HBb.out h ad e⟩, HBF⟩

end

end Sh
end Go.Proofs.YtiobhbagjokpcaaGreat

/- The library's slices.Sorted(maps.Keys(m)) at numbers, laid at this program: they come rising; no condition but the sizes. -/
namespace Go.Proofs.YtiobhbagjokpcaaGreat
namespace Sh
open Go.RowKit Go.Maps Go.Sort Go.Shelf Bk

def keysA_ren : Go.Shelf.Ren := ⟨fun | 7 => 54 | 10 => 86 | n => n, fun | 23 => 60 | 26 => 3 | 3 => 37 | 28 => 89 | 0 => 0 | 27 => 88 | 33 => 102 | 4 => 4 | n => n, fun | n => n⟩
theorem keysA : Go.Proofs.SlLaysZI.n7 Tryz.prog keysA_ren := {
  mixed := by kernel_rfl
  f7 := ⟨Tryz.f54.name, by decide, Tryz.func54.trans (congrArg some (by kernel_rfl))⟩
  f10 := ⟨Tryz.f86.name, by decide, Tryz.func86.trans (congrArg some (by kernel_rfl))⟩
  t0 := Tryz.underlying0
  a0 := Tryz.isAgg0
  z0 := Tryz.sizeOf0
  v0 := Tryz.zeroValue0
  t4 := Tryz.underlying4
  a4 := Tryz.isAgg4
  z4 := Tryz.sizeOf4
  v4 := Tryz.zeroValue4
  t23 := Tryz.underlying60
  a23 := Tryz.isAgg60
  z23 := Tryz.sizeOf60
  v23 := Tryz.zeroValue60
  t26 := Tryz.underlying3
  a26 := Tryz.isAgg3
  z26 := Tryz.sizeOf3
  v26 := Tryz.zeroValue3
  t27 := Tryz.underlying88
  a27 := Tryz.isAgg88
  z27 := Tryz.sizeOf88
  v27 := Tryz.zeroValue88
  t28 := Tryz.underlying89
  a28 := Tryz.isAgg89
  z28 := Tryz.sizeOf89
  v28 := Tryz.zeroValue89
  t33 := Tryz.underlying102
  a33 := Tryz.isAgg102
  z33 := Tryz.sizeOf102
  v33 := Tryz.zeroValue102
}

def sortedA_ren : Go.Shelf.Ren := ⟨fun | 6 => 53 | 8 => 84 | 9 => 85 | 11 => 110 | 13 => 109 | 12 => 111 | 23 => 131 | 24 => 132 | 14 => 133 | 15 => 134 | 16 => 135 | 17 => 136 | 18 => 137 | 19 => 138 | 20 => 139 | 21 => 140 | 22 => 141 | 25 => 151 | 26 => 147 | 27 => 148 | 28 => 152 | 29 => 153 | 30 => 154 | 31 => 157 | n => n, fun | 26 => 3 | 28 => 89 | 24 => 24 | 0 => 0 | 3 => 3 | 37 => 141 | 48 => 159 | 50 => 161 | 4 => 4 | 40 => 153 | 39 => 152 | 45 => 107 | 5 => 5 | 9 => 9 | 51 => 172 | 55 => 176 | 57 => 181 | 58 => 64 | 33 => 102 | n => n, fun | n => n⟩
theorem sortedA : Go.Proofs.SlLaysZI.n6 Tryz.prog sortedA_ren := {
  mixed := by kernel_rfl
  f6 := ⟨Tryz.f53.name, by decide, Tryz.func53.trans (congrArg some (by kernel_rfl))⟩
  f8 := ⟨Tryz.f84.name, by decide, Tryz.func84.trans (congrArg some (by kernel_rfl))⟩
  f11 := ⟨Tryz.f110.name, by decide, Tryz.func110.trans (congrArg some (by kernel_rfl))⟩
  t0 := Tryz.underlying0
  a0 := Tryz.isAgg0
  z0 := Tryz.sizeOf0
  v0 := Tryz.zeroValue0
  t24 := Tryz.underlying24
  a24 := Tryz.isAgg24
  z24 := Tryz.sizeOf24
  v24 := Tryz.zeroValue24
  t26 := Tryz.underlying3
  a26 := Tryz.isAgg3
  z26 := Tryz.sizeOf3
  v26 := Tryz.zeroValue3
  t28 := Tryz.underlying89
  a28 := Tryz.isAgg89
  z28 := Tryz.sizeOf89
  v28 := Tryz.zeroValue89
  i26 := by kernel_rfl
}

def sortA_ren : Go.Shelf.Ren := ⟨fun | 5 => 85 | 8 => 109 | 7 => 111 | 19 => 131 | 20 => 132 | 10 => 133 | 11 => 134 | 12 => 135 | 13 => 136 | 14 => 137 | 15 => 138 | 16 => 139 | 17 => 140 | 18 => 141 | 30 => 151 | 31 => 147 | 32 => 148 | 33 => 152 | 34 => 153 | 35 => 154 | 40 => 157 | n => n, fun | 23 => 24 | 25 => 3 | 3 => 3 | 32 => 141 | 22 => 24 | 0 => 0 | 44 => 159 | 46 => 161 | 4 => 4 | 36 => 153 | 35 => 152 | 41 => 107 | 5 => 5 | 9 => 9 | 53 => 172 | 57 => 176 | 63 => 181 | 64 => 64 | n => n, fun | n => n⟩
theorem sortA : Go.Proofs.SlLaysM.n5 Tryz.prog sortA_ren := {
  mixed := by kernel_rfl
  f5 := ⟨Tryz.f85.name, by decide, Tryz.func85.trans (congrArg some (by kernel_rfl))⟩
  f7 := ⟨Tryz.f111.name, by decide, Tryz.func111.trans (congrArg some (by kernel_rfl))⟩
  f8 := Tryz.func109.trans (congrArg some (by kernel_rfl))
  f10 := ⟨Tryz.f133.name, by decide, Tryz.func133.trans (congrArg some (by kernel_rfl))⟩
  f11 := ⟨Tryz.f134.name, by decide, Tryz.func134.trans (congrArg some (by kernel_rfl))⟩
  f12 := ⟨Tryz.f135.name, by decide, Tryz.func135.trans (congrArg some (by kernel_rfl))⟩
  f13 := ⟨Tryz.f136.name, by decide, Tryz.func136.trans (congrArg some (by kernel_rfl))⟩
  f14 := ⟨Tryz.f137.name, by decide, Tryz.func137.trans (congrArg some (by kernel_rfl))⟩
  f15 := ⟨Tryz.f138.name, by decide, Tryz.func138.trans (congrArg some (by kernel_rfl))⟩
  f16 := ⟨Tryz.f139.name, by decide, Tryz.func139.trans (congrArg some (by kernel_rfl))⟩
  f17 := ⟨Tryz.f140.name, by decide, Tryz.func140.trans (congrArg some (by kernel_rfl))⟩
  f18 := ⟨Tryz.f141.name, by decide, Tryz.func141.trans (congrArg some (by kernel_rfl))⟩
  f19 := Tryz.func131.trans (congrArg some (by kernel_rfl))
  f20 := Tryz.func132.trans (congrArg some (by kernel_rfl))
  f30 := ⟨Tryz.f151.name, by decide, Tryz.func151.trans (congrArg some (by kernel_rfl))⟩
  f31 := Tryz.func147.trans (congrArg some (by kernel_rfl))
  f32 := Tryz.func148.trans (congrArg some (by kernel_rfl))
  f33 := ⟨Tryz.f152.name, by decide, Tryz.func152.trans (congrArg some (by kernel_rfl))⟩
  f34 := ⟨Tryz.f153.name, by decide, Tryz.func153.trans (congrArg some (by kernel_rfl))⟩
  f35 := ⟨Tryz.f154.name, by decide, Tryz.func154.trans (congrArg some (by kernel_rfl))⟩
  f40 := ⟨Tryz.f157.name, by decide, Tryz.func157.trans (congrArg some (by kernel_rfl))⟩
  t0 := Tryz.underlying0
  a0 := Tryz.isAgg0
  z0 := Tryz.sizeOf0
  v0 := Tryz.zeroValue0
  t3 := Tryz.underlying3
  a3 := Tryz.isAgg3
  z3 := Tryz.sizeOf3
  v3 := Tryz.zeroValue3
  t4 := Tryz.underlying4
  a4 := Tryz.isAgg4
  z4 := Tryz.sizeOf4
  v4 := Tryz.zeroValue4
  t5 := Tryz.underlying5
  a5 := Tryz.isAgg5
  z5 := Tryz.sizeOf5
  v5 := Tryz.zeroValue5
  t9 := Tryz.underlying9
  a9 := Tryz.isAgg9
  z9 := Tryz.sizeOf9
  v9 := Tryz.zeroValue9
  t22 := Tryz.underlying24
  a22 := Tryz.isAgg24
  z22 := Tryz.sizeOf24
  v22 := Tryz.zeroValue24
  t23 := Tryz.underlying24
  a23 := Tryz.isAgg24
  z23 := Tryz.sizeOf24
  v23 := Tryz.zeroValue24
  t25 := Tryz.underlying3
  a25 := Tryz.isAgg3
  z25 := Tryz.sizeOf3
  v25 := Tryz.zeroValue3
  t32 := Tryz.underlying141
  a32 := Tryz.isAgg141
  z32 := Tryz.sizeOf141
  v32 := Tryz.zeroValue141
  t35 := Tryz.underlying152
  a35 := Tryz.isAgg152
  z35 := Tryz.sizeOf152
  v35 := Tryz.zeroValue152
  t36 := Tryz.underlying153
  a36 := Tryz.isAgg153
  z36 := Tryz.sizeOf153
  v36 := Tryz.zeroValue153
  t41 := Tryz.underlying107
  a41 := Tryz.isAgg107
  z41 := Tryz.sizeOf107
  v41 := Tryz.zeroValue107
  t44 := Tryz.underlying159
  a44 := Tryz.isAgg159
  z44 := Tryz.sizeOf159
  v44 := Tryz.zeroValue159
  t46 := Tryz.underlying161
  a46 := Tryz.isAgg161
  z46 := Tryz.sizeOf161
  v46 := Tryz.zeroValue161
  t53 := Tryz.underlying172
  a53 := Tryz.isAgg172
  z53 := Tryz.sizeOf172
  v53 := Tryz.zeroValue172
  t57 := Tryz.underlying176
  a57 := Tryz.isAgg176
  z57 := Tryz.sizeOf176
  v57 := Tryz.zeroValue176
  t63 := Tryz.underlying181
  a63 := Tryz.isAgg181
  z63 := Tryz.sizeOf181
  v63 := Tryz.zeroValue181
  t64 := Tryz.underlying64
  a64 := Tryz.isAgg64
  z64 := Tryz.sizeOf64
  v64 := Tryz.zeroValue64
}

/-- the sort's two contracts at this program, at the fence that asks nothing -/
theorem sortsA (m : Nat) : AnyZI.SortsIn Tryz.prog sortedA_ren Fence.wide m :=
  ⟨fun blk off cap ss W hH hblk hsz => callsIn_wide.2 (AnyM.slices_Sort_int sortA blk off cap ss W hH hblk hsz),
   fun p cap W => callsIn_wide.2 (AnyM.slices_Sort_int_none sortA p cap W)⟩

/-- what goes over a map's numbers: a function value, and a block that holds the map -/
theorem keys_call (mb : Option Nat) (W : World) : Calls Tryz.prog 54 #[.map mb] W fun e w' =>
    e = .returned (.func (.func 86) #[] #[.pointer (some ⟨W.heap.size, 0, none⟩)]) ∧ w' = W.alloc (.cells #[.map mb] 60) :=
  (callsIn_wide (n := 5)).1 (AnyZI.keys_in keysA Fence.wide 5 trivial rfl mb W)

set_option maxHeartbeats 1000000 in
theorem sorted_call {H : Type} (b nn : Nat) (D0 : DataW H) (R : Value → Option (DataW H × List MemPlace)) (w : World) (hown : w.ownsMap Tryz.prog 3 R b nn D0) (hmax : Maps.size D0 ≤ maxLen) (hbytes : Maps.size D0 * 8 ≤ 140737488355328) :
    Calls Tryz.prog 53 #[.func (.func 86) #[] #[.pointer (some ⟨w.heap.size, 0, none⟩)]] (w.alloc (.cells #[.map (some b)] 60)) fun e w' =>
      ∃ (v : Value) (ss : List Int), e = .returned v ∧ ss.Perm (intKeys D0) ∧
      w'.ownsRow (w.alloc (.cells #[.map (some b)] 60)).heap.size 3 1 v ss.length ((ss.mergeSort (fun x y => decide (x ≤ y))).map encZ) ∧ (v = .slice none 0 0 ↔ ss = []) ∧ Below (w.alloc (.cells #[.map (some b)] 60)).heap.size (w.alloc (.cells #[.map (some b)] 60)) w' := by
  have hbl := hown.lt
  have hseq : SeqGives Fence.wide 2 Tryz.prog 86 #[.pointer (some ⟨w.heap.size, 0, none⟩)] encZ (fun ss => ss.Perm (intKeys D0)) (Maps.size D0) (w.alloc (.cells #[.map (some b)] 60)) :=
    AnyZI.keys_gives (ρ := keysA_ren) { keysA with } Fence.wide _ trivial rfl (by omega) w.heap.size b nn D0 _ (by simp) (by simp) (by
      obtain ⟨es, clock, hb, Ft, hs, hD⟩ := hown
      exact ⟨es, clock, (Below.heap_alloc _ _ b hbl).trans hb, Ft, hs, hD⟩)
  have cS := AnyZI.sorted_in sortedA Fence.wide 5 trivial trivial trivial trivial rfl (by omega) (sortsA _) (enters_of Tryz.func85 (by kernel_rfl) rfl) 86 #[.pointer (some ⟨w.heap.size, 0, none⟩)] trivial (enters_of Tryz.func86 (by kernel_rfl) rfl) _ _ hmax hbytes _ hseq
  exact (callsIn_wide (n := 5)).1 cS

end Sh
end Go.Proofs.YtiobhbagjokpcaaGreat

/- The landed shelf: Read, Last, Swept, Open; contracts; no condition but the range. -/
namespace Go.Proofs.YtiobhbagjokpcaaGreat
namespace Sh
open Go.RowKit Bk Ch Lt Rc Tr

attribute [local go_sem ↓] Go.wp_at_zero Go.wp_at_succ
attribute [local go_sem] floatUpon pick

theorem ok32 {l : List Vr} (h : ChOk l) : l.length * 32 ≤ 140737488351232 := by have := h.len; omega

theorem okRng {l : List Vr} (h : ChOk l) : ∀ x ∈ l, VrRng x := fun x hx => by
  obtain ⟨h1, h2, h3, _⟩ := h.each x hx
  exact ⟨by omega, by unfold reachBytes; omega⟩

theorem okChk {l : List Vr} (h : ChOk l) : (chkP l).2 = 0 := chk_ok.2 h

section
variable {W : World} {F : Nat → Prop} {g bc bp : Nat} {v : Value} {K : List KI} {P : List RI} {s : Shf}

set_option maxRecDepth 20000 in
set_option maxHeartbeats 8000000 in
theorem lread_any (h : LAt W F g bc bp v K P s) (hs : ShOk s) (key : ByteArray) (t : Int) (hk : key.size ≤ maxLen) :
    Calls Tryz.prog 22 #[.pointer (some ⟨g, 0, none⟩), .string key, .int .i64 t] W fun e w' => e = .returned (.tuple #[.int .i64 (readP s key t).1, .agg (vcs (readP s key t).2).toArray]) ∧ Below W.heap.size W w' := by
  have HHe := Lib.hid (fun V (hb : Below W.heap.size W V) => lheld_any (h.below hb) hs key false)
  have HH := Lib.hid (fun V (hb : Below W.heap.size W V) => h.below hb)
  obtain ⟨x, hxl, hkv, _, hlk⟩ := h.chain hk
  have HLk := Lib.hid (fun V (hb : Below W.heap.size W V) => hlk V (h.below hb))
  have hok := hs.kok.chain key
  have hat : atP (chainK s.k key) t = ((atV (chainK s.k key) t).1, (atV (chainK s.k key) t).2, 0) := by unfold atP; rw [if_neg (by rw [okChk hok]; simp)]
  have HE := Lib.hid (show readP s key t = if t < s.over then (4, noVr) else if heldB s key false = true then (3, noVr) else if (atV (chainK s.k key) t).2 = false then (0, noVr) else if (atV (chainK s.k key) t).1.dead = true then (2, (atV (chainK s.k key) t).1) else (1, (atV (chainK s.k key) t).1) from rfl)
  rw [← hxl] at hok hat HE
  have hT := fun V (hb : Below W.heap.size W V) => lat_any x.A x.c x.k.l t V (hkv.row.vrs.below hb) (ok32 hok) (okRng hok) hkv.le
  obtain ⟨⟨xt, xs, xd⟩, bb, hx⟩ : ∃ x1 b, atV x.k.l t = (x1, b) := ⟨_, _, rfl⟩
  rw [hat, hx] at hT
  rw [hx] at HE
  have HT : Hid (∀ V, Below W.heap.size W V → Calls Tryz.prog 55 #[.slice x.A x.k.l.length x.c, .int .i64 t] V fun e' w' => e' = .returned (.tuple #[.agg #[.int .i64 xt, .string xs, .bool xd], .bool bb, .int .i64 0]) ∧ Below V.heap.size V w') := Lib.hid hT
  generalize heldB s key false = hh at HHe HE
  generalize x.k.l.length = xn at HT HLk
  generalize x.A = xA at HT HLk
  generalize x.c = xc at HT HLk
  clear h hs hok hat hT hx hlk hkv hxl
  go_enter Tryz.func22, Tryz.ntmps22
  go_upto_region 1 with fail
  have hR0 : Cel (W.alloc (.cells #[.int .i64 0, .string ⟨#[]⟩, .bool false] 55)) W.heap.size 55 [.int .i64 0, .string ⟨#[]⟩, .bool false] := (blk1 W _).2
  have hB0 : Below W.heap.size W (W.alloc (.cells #[.int .i64 0, .string ⟨#[]⟩, .bool false] 55)) := (Below.refl _ W).alloc (Nat.le_refl _) _
  generalize hW0 : W.alloc (.cells #[.int .i64 0, .string ⟨#[]⟩, .bool false] 55) = W0 at hR0 hB0 ⊢
  clear hW0
  have HR0 := Lib.hid hR0
  have HB0 := Lib.hid hB0
  have s3 := (HH.out _ hB0).cel.cell (i := 3) rfl
  clear hR0 hB0
  by_cases ho : t < s.over
  · have E := Lib.hid (show readP s key t = (4, noVr) by rw [HE.out, if_pos ho])
    have zq := fun i => HR0.out.free (i := i)
    have q0 := HR0.out.cell (i := 0) rfl
    have q1 := HR0.out.cell (i := 1) rfl
    have q2 := HR0.out.cell (i := 2) rfl
    clear HE
    go_wp2_with fail
    have HF := Lib.hid (set3_cel (v0 := .int .i64 0) (v1 := .string ⟨#[]⟩) (v2 := .bool false) HR0.out)
    have z0 := HF.out.cell (i := 0) rfl
    have z1 := HF.out.cell (i := 1) rfl
    have z2 := HF.out.cell (i := 2) rfl
    unfold set3 at z0 z1 z2
    exact bodyPost_ret (v := .tuple #[.int .i64 4, .agg #[.int .i64 0, .string ⟨#[]⟩, .bool false]]) (by simp [results, Tryz.results22, go_sem, z0, z1, z2]) rfl ⟨by rw [E.out]; rfl, set3_below HB0.out (Nat.le_refl _)⟩
  have HE2 := Lib.hid (show readP s key t = if hh = true then (3, noVr) else if bb = false then (0, noVr) else if xd = true then (2, ⟨xt, xs, xd⟩) else (1, ⟨xt, xs, xd⟩) by rw [HE.out, if_neg ho])
  clear HE
  go_wp2_with fail
  refine (HHe.out _ HB0.out).mono ?_
  rintro e1 w1 ⟨rfl, hb⟩
  have HB1 := Lib.hid (HB0.out.trans (hb.mono HB0.out.size))
  have HR1 := Lib.hid (HR0.out.below hb)
  clear hb HHe s3 HB0 HR0
  have zq := fun i => HR1.out.free (i := i)
  have q0 := HR1.out.cell (i := 0) rfl
  have q1 := HR1.out.cell (i := 1) rfl
  have q2 := HR1.out.cell (i := 2) rfl
  cases hh with
  | true =>
    have E := Lib.hid (show readP s key t = (3, noVr) by rw [HE2.out, if_pos rfl])
    clear HE2
    go_wp2_with fail
    have HF := Lib.hid (set3_cel (v0 := .int .i64 0) (v1 := .string ⟨#[]⟩) (v2 := .bool false) HR1.out)
    have z0 := HF.out.cell (i := 0) rfl
    have z1 := HF.out.cell (i := 1) rfl
    have z2 := HF.out.cell (i := 2) rfl
    unfold set3 at z0 z1 z2
    exact bodyPost_ret (v := .tuple #[.int .i64 3, .agg #[.int .i64 0, .string ⟨#[]⟩, .bool false]]) (by simp [results, Tryz.results22, go_sem, z0, z1, z2]) rfl ⟨by rw [E.out]; rfl, set3_below HB1.out (Nat.le_refl _)⟩
  | false =>
    have HE3 := Lib.hid (show readP s key t = if bb = false then (0, noVr) else if xd = true then (2, ⟨xt, xs, xd⟩) else (1, ⟨xt, xs, xd⟩) by rw [HE2.out, if_neg (by simp)])
    have s0 := (HH.out _ HB1.out).cel.cell (i := 0) rfl
    have l0 := HLk.out _ HB1.out
    clear HE2 q0 q1 q2 zq
    go_wp2_with fail
    refine (HT.out _ HB1.out).mono ?_
    rintro e3 w3 ⟨rfl, hb⟩
    have HB3 := Lib.hid (HB1.out.trans (hb.mono HB1.out.size))
    have HR3 := Lib.hid (HR1.out.below hb)
    clear hb HT s0 l0 HLk HB1 HR1
    have zq := fun i => HR3.out.free (i := i)
    have q0 := HR3.out.cell (i := 0) rfl
    have q1 := HR3.out.cell (i := 1) rfl
    have q2 := HR3.out.cell (i := 2) rfl
    go_upto_region 6 with fail
    clear zq q0 q1 q2
    obtain ⟨W4, hW4⟩ : ∃ W4, set3 w3 W.heap.size (.int .i64 xt) (.string xs) (.bool xd) = W4 := ⟨_, rfl⟩
    have hR4 := set3_cel (v0 := .int .i64 xt) (v1 := .string xs) (v2 := .bool xd) HR3.out
    have hB4 := set3_below (R := W.heap.size) (v0 := .int .i64 xt) (v1 := .string xs) (v2 := .bool xd) HB3.out (Nat.le_refl _)
    rw [hW4] at hR4 hB4
    have hW5 := hW4
    unfold set3 at hW5
    rw [hW5]
    clear hW4 hW5 HB3 HR3
    have HB4 := Lib.hid hB4
    have HR4 := Lib.hid hR4
    clear hB4
    have zq := fun i => hR4.free (i := i)
    have q0 := hR4.cell (i := 0) rfl
    have q1 := hR4.cell (i := 1) rfl
    have q2 := hR4.cell (i := 2) rfl
    clear hR4
    cases bb with
    | false =>
      have E := Lib.hid (show readP s key t = (0, noVr) by rw [HE3.out, if_pos rfl])
      clear HE3
      go_wp2_with fail
      have HF := Lib.hid (set3_cel (v0 := .int .i64 0) (v1 := .string ⟨#[]⟩) (v2 := .bool false) HR4.out)
      have z0 := HF.out.cell (i := 0) rfl
      have z1 := HF.out.cell (i := 1) rfl
      have z2 := HF.out.cell (i := 2) rfl
      unfold set3 at z0 z1 z2
      exact bodyPost_ret (v := .tuple #[.int .i64 0, .agg #[.int .i64 0, .string ⟨#[]⟩, .bool false]]) (by simp [results, Tryz.results22, go_sem, z0, z1, z2]) rfl ⟨by rw [E.out]; rfl, set3_below HB4.out (Nat.le_refl _)⟩
    | true =>
      have HF := Lib.hid (set3_cel (v0 := .int .i64 xt) (v1 := .string xs) (v2 := .bool xd) HR4.out)
      have HBF := Lib.hid (set3_below (R := W.heap.size) (v0 := .int .i64 xt) (v1 := .string xs) (v2 := .bool xd) HB4.out (Nat.le_refl _))
      cases xd with
      | true =>
        have E := Lib.hid (show readP s key t = (2, ⟨xt, xs, true⟩) by rw [HE3.out, if_neg (by simp), if_pos rfl])
        clear HE3
        go_upto_region 9 with fail
        go_region
        all_goals
          go_wp2_with fail
          have z0 := HF.out.cell (i := 0) rfl
          have z1 := HF.out.cell (i := 1) rfl
          have z2 := HF.out.cell (i := 2) rfl
          unfold set3 at z0 z1 z2
          exact bodyPost_ret (v := .tuple #[.int .i64 2, .agg #[.int .i64 xt, .string xs, .bool true]]) (by simp [results, Tryz.results22, go_sem, z0, z1, z2]) rfl ⟨by rw [E.out]; rfl, (by first | exact HBF.out.drew | exact HBF.out)⟩
      | false =>
        have E := Lib.hid (show readP s key t = (1, ⟨xt, xs, false⟩) by rw [HE3.out, if_neg (by simp), if_neg (by simp)])
        clear HE3
        go_upto_region 10 with fail
        go_region
        all_goals
          go_wp2_with fail
          have z0 := HF.out.cell (i := 0) rfl
          have z1 := HF.out.cell (i := 1) rfl
          have z2 := HF.out.cell (i := 2) rfl
          unfold set3 at z0 z1 z2
          exact bodyPost_ret (v := .tuple #[.int .i64 1, .agg #[.int .i64 xt, .string xs, .bool false]]) (by simp [results, Tryz.results22, go_sem, z0, z1, z2]) rfl ⟨by rw [E.out]; rfl, (by first | exact HBF.out.drew | exact HBF.out)⟩

end

end Sh
end Go.Proofs.YtiobhbagjokpcaaGreat
