/- The walk of the law that any k unlike rows of a generator have an inverse; no condition but the form's reach. -/
import Derived.Test.YtlmcpnlnbjloaaaMatPicks
import Derived.Test.YtlmcpnlnbjloaaaMatLandInv
import Derived.Maps.AppendAt
import Derived.Deep.RegionHeldLaw
import Derived.Deep.AppendLies
namespace Go.Proofs.Ytlmcpnlnbjloaaa
open Go.RowKit

/-- an append, of nothing too, at a step of a region that draws its order -/
theorem step_append_at {P : Program} {ops : Array Oper} {o : Oper} {a : Act} {w : World} {K : Act → World → Prop} {Q : Exit → Act → World → Prop} {E : Prop} (hgd : o.guard = none) (s x : Operand) (t : TypeId)
    (ho : o.op = .call { callee := .builtin .append, args := #[s, x], argTypes := #[t, t] })
    (base : Nat) (e : TypeId) (i : TypeInfo) (z : Value) (size bytes : Nat) (ht : P.underlying t = some (.slice e)) (hi : P.info? e = some i) (hz : i.zero = some z)
    (hsize : i.size = size) (hby : i.bytes = bytes) (hzs : z.cells.size = size) (hsz : 0 < size) (v : Value) (n : Nat) (xs : List Value) (hs : a.eval s = v) (hown : w.ownsRow base e size v n xs)
    (ad : Addr) (m c : Nat) (news : List Value) (hx : a.eval x = .slice (some ad) m c) (hl : news.length = m * size) (hnews : ∀ j u, news[j]? = some u → w.cell? (ad.add j) = some u) (h1 : ∀ u ∈ news, u.oneCell' = true)
    (h63 : n + m ≤ maxLen) (hbytes : (n + m) * bytes ≤ 140737488355328) (hbase : base ≤ w.heap.size)
    (h : ∀ v' w', w'.ownsRow base e size v' (n + m) (xs ++ news) → w.grownBy w' v.ownBlock → K (a.put o.dst v') w') :
    if Region.wanted o (yielded ops a.tmps) = true then Oper.wp P o a w K Q else E := by
  have hw : Region.wanted o (yielded ops a.tmps) = true := by simp [Region.wanted, hgd]
  rw [if_pos hw]
  obtain ⟨v', w', hr, h2, h3, _, _⟩ := run_append_own_at (P := P) w base t o.type e i z size bytes ht hi hz hsize hby hzs hsz v n xs hown ad m c news hl hnews h1 h63 hbytes hbase
  unfold Oper.wp execOp
  simp only [ho, resolve, invoke, builtin, Sem.run_bind, Sem.run_pure, Result.andThen_ok, List.map_toArray, List.map_cons, List.map_nil, hs, hx, hr]
  exact h v' w' h2 h3

/-- whole numbers as values -/
def numV (R : List Nat) : List Value := R.map fun n : Nat => Value.int .i64 (n : Int)

theorem numV_at (R : List Nat) (j : Nat) (h : j < R.length) : (numV R)[j]? = some (.int .i64 ((R[j] : Nat) : Int)) := by
  unfold numV; rw [List.getElem?_map, List.getElem?_eq_getElem h]; rfl

theorem numV_one (R : List Nat) : ∀ u ∈ numV R, u.oneCell' = true := by
  intro u hu
  obtain ⟨q, _, rfl⟩ := List.mem_map.1 hu
  rfl

theorem slice_behind (g r cap t : Nat) (h1 : t + 1 ≤ r) (h3 : ¬ cap = t + 1) (l : Int) (hl : l = (t : Int) + 1) (W : World) :
    (Instr.slice 33 (.slice (some ⟨g, 0, none⟩) r cap) (some (.int .i64 l)) none none).run Try.prog W = .ok (.slice (some ⟨g, t + 1, none⟩) (r - (t + 1)) (cap - (t + 1))) W := by
  subst hl
  have e : ((t : Int) + 1).toNat = t + 1 := by omega
  rw [run_slice_l W 33 _ r cap (by kernel_rfl) .i64 _ (by omega) (by omega)]
  have hs : (sizeOf (Try.prog.elem 33)).run Try.prog W = .ok 1 W := by kernel_rfl
  rw [hs]
  simp only [Result.andThen, sliced, e, if_neg h3, Option.map_some, Nat.mul_one]
  rw [addr_head]

theorem slice_none (g r cap t : Nat) (h1 : t + 1 ≤ r) (h2 : r ≤ cap) (h3 : cap = t + 1) (l : Int) (hl : l = (t : Int) + 1) (W : World) :
    (Instr.slice 33 (.slice (some ⟨g, 0, none⟩) r cap) (some (.int .i64 l)) none none).run Try.prog W = .ok (.slice (some ⟨g, 0, none⟩) 0 0) W := by
  subst hl
  have e : ((t : Int) + 1).toNat = t + 1 := by omega
  rw [run_slice_l W 33 _ r cap (by kernel_rfl) .i64 _ (by omega) (by omega)]
  have hs : (sizeOf (Try.prog.elem 33)).run Try.prog W = .ok 1 W := by kernel_rfl
  rw [hs]
  simp only [Result.andThen, sliced, e, if_pos h3, Nat.mul_one]
  rw [show r - (t + 1) = 0 by omega, show cap - (t + 1) = 0 by omega]

theorem slice_head (g r cap t : Nat) (h1 : t ≤ r) (h2 : r ≤ cap) (hc : 0 < cap) (h : Int) (hh : h = (t : Int)) (W : World) :
    (Instr.slice 33 (.slice (some ⟨g, 0, none⟩) r cap) none (some (.int .i64 h)) none).run Try.prog W = .ok (.slice (some ⟨g, 0, none⟩) t cap) W := by
  subst hh
  rw [run_slice_h W 33 _ r cap (by kernel_rfl) .i64 _ (by omega) (by omega)]
  have hs : (sizeOf (Try.prog.elem 33)).run Try.prog W = .ok 1 W := by kernel_rfl
  rw [hs]
  simp only [Result.andThen, sliced, Int.toNat_natCast, Nat.sub_zero, Nat.zero_mul, Option.map_some]
  rw [addr_head, if_neg (by omega)]

theorem owns_lower {w : World} {H H' n : Nat} {v : Value} {e : TypeId} {xs : List Value} (h : w.ownsRow H e 1 v n xs) (hH : H' ≤ H) : w.ownsRow H' e 1 v n xs := by
  refine ⟨h.1, ?_⟩
  rcases h.2 with h' | ⟨g, cap, cur, hv, h1, h2, h3, h4, h5, h6⟩
  · exact .inl h'
  · exact .inr ⟨g, cap, cur, hv, Nat.le_trans hH h1, h2, h3, h4, h5, h6⟩

/-- the cells of some of the rows' numbers, where a slice of them begins -/
theorem news_at {w W : World} {g r : Nat} {R : List Nat} (hR : r = R.length) (hc : ∀ j, j < r → w.cell? ⟨g, j, none⟩ = (numV R)[j]?) (hg : g < w.heap.size) (hb : Below w.heap.size w W) (o k : Nat) (hk : o + k ≤ r) :
    ∀ j u, (numV ((R.drop o).take k))[j]? = some u → W.cell? ((⟨g, o, none⟩ : Addr).add j) = some u := by
  intro j u hu
  have hadd : (⟨g, o, none⟩ : Addr).add j = ⟨g, o + j, none⟩ := by unfold Addr.add; split <;> simp_all
  have hj : j < k := by
    have h := (List.getElem?_eq_some_iff.1 hu).1
    unfold numV at h
    rw [List.length_map, List.length_take] at h
    omega
  rw [hadd, hb.cell (p := ⟨g, o + j, none⟩) hg, hc (o + j) (by omega), ← hu]
  unfold numV
  rw [List.getElem?_map, List.getElem?_map, List.getElem?_take, if_pos hj, List.getElem?_drop]

/-- the step behind the fold: which row is dropped -/
def dropAt (d r : Int) : Nat := (d % 18446744073709551616 % r).toNat

theorem drop_conv (d : Int) (r : Nat) (hr : 1 ≤ r) (hr2 : r ≤ 20) : wrap64 ((IntKind.u64.wrap d).tmod (IntKind.u64.wrap (r : Int))) = ((dropAt d r : Nat) : Int) ∧ dropAt d r < r := by
  have e1 : IntKind.u64.wrap d = d % 18446744073709551616 := by simp [IntKind.wrap, IntKind.bits, IntKind.signed]
  have e2 : IntKind.u64.wrap (r : Int) = (r : Int) := by simp [IntKind.wrap, IntKind.bits, IntKind.signed]; omega
  have e0 : 0 ≤ d % 18446744073709551616 := by omega
  have e3 : (d % 18446744073709551616).tmod (r : Int) = d % 18446744073709551616 % (r : Int) := Int.tmod_eq_emod_of_nonneg e0
  have h1 : 0 ≤ d % 18446744073709551616 % (r : Int) := Int.emod_nonneg _ (by omega)
  have h2 : d % 18446744073709551616 % (r : Int) < (r : Int) := Int.emod_lt_of_pos _ (by omega)
  rw [e1, e2, e3]
  unfold dropAt
  refine ⟨?_, by omega⟩
  rw [IntWalk.wrap64_in _ ⟨by omega, by omega⟩]
  omega

theorem erase_split (R : List Nat) (k : Nat) : numV (R.take k) ++ numV (R.drop (k + 1)) = numV (R.eraseIdx k) := by
  unfold numV
  rw [← List.map_append, List.eraseIdx_eq_take_drop_succ]

theorem erased_owns {w : World} {B B' t c : Nat} {v : Value} {A C D : List Nat} (h : w.ownsRow B 3 1 v (0 + t + c) ([] ++ numV A ++ numV C)) (hA : numV A ++ numV C = numV D) (hl : 0 + t + c = D.length) (hB : B' ≤ B) : w.ownsRow B' 3 1 v D.length (numV D) := by
  rw [List.nil_append, hA, hl] at h
  exact owns_lower h hB

theorem erase_form (R : List Nat) (r t : Nat) (hr : r = R.length) : numV ((R.drop 0).take t) ++ numV ((R.drop (t + 1)).take (r - (t + 1))) = numV (R.eraseIdx t) := by
  rw [List.drop_zero, List.take_of_length_le (l := R.drop (t + 1)) (by rw [List.length_drop]; omega), erase_split]

theorem erase_last (R : List Nat) (r t : Nat) (hr : r = R.length) (h : r = t + 1) : numV ((R.drop 0).take t) ++ numV ((R.drop 0).take 0) = numV (R.eraseIdx t) := by
  rw [List.drop_zero, List.take_zero, ← erase_split, List.drop_of_length_le (by omega)]

theorem erase_len (R : List Nat) (r t : Nat) (hr : r = R.length) (h : t < r) : (R.eraseIdx t).length = r - 1 := by
  rw [List.length_eraseIdx, if_pos (by omega), ← hr]

theorem erase_all (R : List Nat) (k : Nat) (hR : R.Nodup) (b : Nat) (hb : ∀ x ∈ R, x < b) : (R.eraseIdx k).Nodup ∧ ∀ x ∈ R.eraseIdx k, x < b :=
  ⟨hR.sublist (List.eraseIdx_sublist R k), fun x hx => hb x ((List.eraseIdx_sublist R k).subset hx)⟩

theorem sing_congr {n : Nat} {M M' : Nat → Nat → UInt8} (h : GfU.Sing n M) (e : GfU.sq n M M') : GfU.Sing n M' := by
  obtain ⟨v, c, hc, hv, h0⟩ := h
  refine ⟨v, c, hc, hv, fun i hi => ?_⟩
  have e1 : GfU.sum n (fun k => GfU.ml (M' i k) (v k)) = GfU.sum n (fun k => GfU.ml (M i k) (v k)) := GfU.sum_congr n fun k hk => by rw [e i k hi hk]
  rw [e1]; exact h0 i hi

theorem picked_not_sing (k m : Nat) (R : List Nat) (hk : k + m ≤ 255) (hR : R.Nodup) (hl : R.length = k) (hm : ∀ x ∈ R, x < k + m) :
    ¬ GfU.Sing k (cel ⟨(tabL k k (pickF (R.map fun n : Nat => (n : Int)) (cel ⟨(tabL (k + m) k (GfU.gen k)).toArray⟩ k))).toArray⟩ k) := by
  intro h
  refine GfU.gen_not_sing k R hR hl (fun i hi => by have := hm i hi; omega) (by omega) (sing_congr h ?_)
  intro i j hi hj
  rw [cel_tab k k _ i j hi hj]
  unfold pickF
  have hi' : i < R.length := by omega
  rw [List.getD_eq_getElem?_getD, List.getElem?_map, List.getElem?_eq_getElem hi', Option.map_some, Option.getD_some, Int.toNat_natCast, cel_tab (k + m) k _ _ j (hm _ (List.getElem_mem hi')) hj]
  show _ = GfU.gen k (R.getD i 0) j
  rw [List.getD_eq_getElem?_getD, List.getElem?_eq_getElem hi', Option.getD_some]

set_option maxRecDepth 20000 in
set_option maxHeartbeats 4000000 in
theorem any_walk (k0 m0 : Int) (v : Value) (L : List Int) (w : World) (hv : SliceOf w v L) :
    Calls Try.prog 9 #[.int .i64 k0, .int .i64 m0, v] w fun e w' => e = .returned (.bool true) ∧ Below w.heap.size w w' := by
  obtain ⟨i0, hi, hz0, hz1, hz2⟩ := info_parts Try.infoInt
  obtain ⟨k, hk⟩ : ∃ k, k = sideV k0 := ⟨_, rfl⟩
  have sK := sideV_rng k0
  rw [← hk] at sK
  have HK := Lib.hid hk
  clear hk
  obtain ⟨m, hm, hm7⟩ : ∃ m : Nat, wrap64 ((IntKind.u64.wrap m0).tmod 8) = (m : Int) ∧ m < 8 := by
    have h := drop_conv m0 8 (by omega) (by omega)
    have e : IntKind.u64.wrap ((8 : Nat) : Int) = 8 := by simp [IntKind.wrap, IntKind.bits, IntKind.signed]
    rw [e] at h
    exact ⟨_, h.1, h.2⟩
  obtain ⟨ad, n, cp, hvv, hn8, hdr⟩ : ∃ (ad : Option Addr) (n cp : Nat), v = .slice ad n cp ∧ n * 8 ≤ 140737488351232 ∧ ∀ j, j < n → ∃ (a : Addr) (d : Int), ad = some a ∧ a.block < w.heap.size ∧ w.cell? (a.add j) = some (.int .i64 d) := by
    rcases hv with ⟨h1, _⟩ | ⟨a, cap, h1, h2, h3, h4⟩
    · exact ⟨none, 0, 0, h1, by omega, fun j hj => absurd hj (by omega)⟩
    · exact ⟨some a, L.length, cap, h1, h4, fun j hj => ⟨a, L[j], rfl, h2 (by omega), h3 j hj⟩⟩
  subst hvv
  have HV := Lib.hid hdr
  clear hv hdr
  go_enter Try.func9, Try.ntmps9
  go_wp2_with fail
  refine (works_true gen_example _).mono ?_
  rintro e w1 ⟨rfl, hb1⟩
  have B1 := Lib.hid hb1
  clear hb1
  go_wp2_with fail
  refine (side_any _ _).mono ?_
  rintro e w2 ⟨rfl, rfl⟩
  rw [← HK.out]
  go_wp2_with fail
  rw [hm]
  refine (gen_yes k m _ sK.1 (by omega)).mono ?_
  rintro e w3 ⟨rfl, hb3⟩
  have B3 : Hid (Below w.heap.size w w3) := B1.out.trans (hb3.mono B1.out.size)
  have B4 : Hid (Below w.heap.size w (w3.alloc (.cells #[.int .i64 ((k : Int) + (m : Int)), .int .i64 (k : Int), .string ⟨(tabL (k + m) k (GfU.gen k)).toArray⟩] 23))) := B3.out.alloc B3.out.size _
  have G4 := Lib.hid (matAt_new w3 ((k : Int) + (m : Int)) (k : Int) ⟨(tabL (k + m) k (GfU.gen k)).toArray⟩ 23)
  clear hb3 B3 B1 hm
  go_wp2_with fail
  generalize w3.heap.size = gb at G4 ⊢
  generalize (w3.alloc (.cells #[.int .i64 ((k : Int) + (m : Int)), .int .i64 (k : Int), .string ⟨(tabL (k + m) k (GfU.gen k)).toArray⟩] 23)) = w4 at G4 B4 ⊢
  go_loopw [9, 36] (fun u i wr => ∃ j : Nat, j ≤ k + m ∧ i = .int .i64 (j : Int) ∧ Hid (wr.ownsRow w4.heap.size 3 1 u j (numV (List.range j))) ∧ Hid (Below w4.heap.size w4 wr)) (fun _ i _ => k + m - (intOf i).toNat)
  case atStart => exact ⟨0, by omega, rfl, World.ownsRow_nil _ _ _ _, Below.refl _ _⟩
  case round =>
    obtain ⟨j, hj, rfl, hown, hbel⟩ := hrel
    by_cases hlt : j < k + m
    · go_wp2_with (at_builtin; refine wpList_append_own _ rfl _ _ 33 rfl w4.heap.size 3 i0 (.int .i64 0) 1 8 Try.underlying33 hi hz0 hz1 hz2 rfl (by decide) _ _ _ rfl (hown.out.alloc _) ⟨wr.heap.size, 0, none⟩ 1 1 [.int .i64 (j : Int)] rfl rfl ?c1 ?c2 ?c3 ?c4 ?c5 ?_)
      case c1 => exact cell_one_new _ _ _
      case c2 => intro q hq; simp at hq; subst hq; rfl
      case c3 => unfold maxLen; omega
      case c4 => omega
      case c5 => have := hbel.out.size; simp; omega
      intro v' w5 hown' hgrow _
      have HB := Lib.hid (below_append hown.out hbel.out (Nat.le_refl _) hgrow)
      rw [show numV (List.range j) ++ [.int .i64 (j : Int)] = numV (List.range (j + 1)) by unfold numV; rw [List.range_succ, List.map_append]; rfl] at hown'
      have HO := Lib.hid hown'
      clear hown' hgrow
      go_wp2_with fail
      go_roundw
      case rel => exact ⟨j + 1, by omega, by go_num, HO.out, HB.out⟩
      case measure => simp [intOf]; omega
    · obtain rfl : j = k + m := by omega
      have R0 : Hid (wr.ownsRow w4.heap.size 3 1 u9 (k + m) (numV (List.range (k + m)))) := hown.out
      have RB : Hid (Below w4.heap.size w4 wr) := hbel.out
      clear hown hbel
      go_wp2_with fail
      clear hlt hj
      generalize wr = w6 at R0 RB ⊢
      go_loopw [9, 11, 12] (fun u i _ wr => ∃ (R : List Nat) (j : Nat), i = .int .i64 (j : Int) ∧ j + R.length = k + m ∧ k ≤ R.length ∧ Hid R.Nodup ∧ Hid (∀ x ∈ R, x < k + m) ∧ Hid (wr.ownsRow w4.heap.size 3 1 u R.length (numV R)) ∧ Hid (Below w4.heap.size w4 wr)) (fun _ i _ _ => k + m - (intOf i).toNat)
      case atStart => exact ⟨List.range (k + m), 0, rfl, by simp, by simp, List.nodup_range, fun x hx => List.mem_range.1 hx, by rw [List.length_range]; exact R0.out, RB.out⟩
      case round =>
        obtain ⟨R, j, rfl, hjr, hkr, hnd, hlt, hown, hbel⟩ := hrel
        clear R0 RB
        obtain ⟨r, hr⟩ : ∃ r, r = R.length := ⟨_, rfl⟩
        rw [← hr] at hjr hkr hown
        have HR := Lib.hid hr
        clear hr
        obtain ⟨g, cap, rfl, hg1, hg2⟩ := hown.out.form (by omega)
        obtain ⟨hrc, hrm, hcells⟩ : r ≤ cap ∧ cap ≤ 9223372036854775807 ∧ ∀ j, j < r → wr.cell? ⟨g, j, none⟩ = (numV R)[j]? := by
          refine ⟨?_, ?_, fun j hj => hown.out.cellAt j (by omega)⟩
          · rcases hown.out.2 with ⟨h, _⟩ | ⟨g', cap', cur, h, _, _, h1, h2, _⟩
            · simp at h
            · simp only [Value.slice.injEq] at h; omega
          · rcases hown.out.2 with ⟨h, _⟩ | ⟨g', cap', cur, h, _, _, h1, h2, _⟩
            · simp at h
            · simp only [Value.slice.injEq] at h; unfold maxLen at h2; omega
        have HC := Lib.hid hcells
        have G6 := Lib.hid (matAt_below G4.out hbel.out)
        clear hcells
        by_cases hgt : k < r
        · by_cases hjn : j < n
          · obtain ⟨a, d, rfl, ha, hcell⟩ := HV.out j hjn
            have hcell6 := (cell_kept (B4.out.trans (hbel.out.mono B4.out.size)) (a.add j) (by rw [add_block]; exact ha)).trans hcell
            obtain ⟨hcv, htr⟩ := drop_conv d r (by omega) (by omega)
            have e2 : IntKind.u64.wrap (r : Int) = (r : Int) := by simp [IntKind.wrap, IntKind.bits, IntKind.signed]; omega
            rw [e2] at hcv
            have pj : (j : Int) < (n : Int) := by omega
            have hr0 : ((r : Int) == 0) = false := by simp; omega
            obtain ⟨t, ht⟩ : ∃ t, t = dropAt d r := ⟨_, rfl⟩
            rw [← ht] at hcv htr
            have hb1 : (t : Int) ≤ (cap : Int) := by omega
            have hb2 : (t : Int) + 1 ≤ (r : Int) := by omega
            clear hcell ht
            go_wp2_with fail
            try rw [hcv]
            clear hcell6 e2 hr0 hcv
            by_cases hc : cap = t + 1
            · subst hc
              have hc0 : ¬ t + 1 = 0 := by omega
              have hw1 : IntKind.i64.wrap ((t : Int) + 1) = (t : Int) + 1 := i64_wrap (by omega) (by omega)
              have hsl := slice_head g r (t + 1) t (by omega) (by omega) (by omega) ((t : Int)) (by omega)
              have hsl2 := slice_none g r (t + 1) t (by omega) (by omega) (by omega) ((t : Int) + 1) (by omega)
              have hE : (wr.drew.alloc (.cells #[] 3)).ownsRow wr.heap.size 3 1 (.slice (some ⟨wr.heap.size, 0, none⟩) 0 0) 0 [] := World.ownsRow_lit (base := wr.heap.size) (e := 3) (size := 1) wr.drew #[] 0 (Nat.le_refl _) (by unfold maxLen; omega) rfl
              have hbE : Below wr.heap.size wr (wr.drew.alloc (.cells #[] 3)) := (Below.refl _ wr).drew.alloc (Nat.le_refl _) _
              have hN1 := news_at (W := wr.drew.alloc (.cells #[] 3)) HR.out HC.out hg2 hbE 0 t (by omega)
              have hL1 : (numV ((R.drop 0).take t)).length = t * 1 := by unfold numV; rw [List.length_map, List.length_take, List.drop_zero, ← HR.out]; omega
              have hL2 : (numV ((R.drop 0).take 0)).length = 0 * 1 := by unfold numV; rw [List.length_map, List.length_take, List.length_drop, ← HR.out]; omega
              have HSL2 := Lib.hid hN1
              have HE2 := Lib.hid hE
              have HB2 := Lib.hid hbE
              clear hN1 hE hbE
              have hz1' : wr.heap.size ≤ (wr.drew.alloc (.cells #[] 3)).heap.size := by simp
              go_region_held_law (fun _ => True) (trivial)
                (first
                | (refine step_append_at (by rfl) _ _ 33 (by rfl) wr.heap.size 3 i0 (.int .i64 0) 1 8 Try.underlying33 hi hz0 hz1 hz2 rfl (by decide) _ 0 [] (by rfl) HE2.out ⟨g, 0, none⟩ t (t + 1) (numV ((R.drop 0).take t)) (by rfl) hL1 HSL2.out (numV_one _) (by unfold maxLen; omega) (by omega) hz1' ?_; intro v1 w7 hown7 hgrow7; have hb7 : Below wr.heap.size wr w7 := HB2.out.grown hgrow7 hz1' (fun q hq => by simp [Value.ownBlock] at hq; omega); have hz7 := hb7.size)
                | (refine step_append_at (by rfl) _ _ 33 (by rfl) wr.heap.size 3 i0 (.int .i64 0) 1 8 Try.underlying33 hi hz0 hz1 hz2 rfl (by decide) _ _ _ (by rfl) hown7 ⟨g, 0, none⟩ 0 0 (numV ((R.drop 0).take 0)) (by rfl) hL2 (news_at HR.out HC.out hg2 hb7 0 0 (by omega)) (numV_one _) (by unfold maxLen; omega) (by omega) hz7 ?_; intro v2 w8 hown8 hgrow8; have hb8 : Below wr.heap.size wr w8 := hb7.grown hgrow8 hz7 (fun q hq => (hown7.lt q hq).1)))
              have hln := erase_len R r t HR.out (by omega)
              have HO8 := Lib.hid (erased_owns hown8 (erase_last R r t HR.out (by omega)) (by rw [hln]; omega) hbel.out.size)
              have HB8 : Hid (Below w4.heap.size w4 w8) := hbel.out.trans (hb8.mono hbel.out.size)
              have HLN := Lib.hid hln
              clear hown7 hown8 hgrow7 hgrow8 hb7 hb8 hsl hsl2 hln
              go_wp2_with fail
              go_roundw
              case rel =>
                repeat (with_reducible apply Exists.intro (α := Value))
                refine ⟨?_, rfl⟩
                exact ⟨R.eraseIdx t, j + 1, by go_num, by rw [HLN.out]; omega, by rw [HLN.out]; omega, (erase_all R t hnd.out _ hlt.out).1, (erase_all R t hnd.out _ hlt.out).2, HO8.out, HB8.out⟩
              case measure => simp [intOf]; omega
            · skip
              have hc0 : ¬ cap = 0 := by omega
              have hw1 : IntKind.i64.wrap ((t : Int) + 1) = (t : Int) + 1 := i64_wrap (by omega) (by omega)
              have hsl := slice_head g r cap t (by omega) (by omega) (by omega) ((t : Int)) (by omega)
              have hsl2 := slice_behind g r cap t (by omega) (by omega) ((t : Int) + 1) (by omega)
              have hE : (wr.drew.alloc (.cells #[] 3)).ownsRow wr.heap.size 3 1 (.slice (some ⟨wr.heap.size, 0, none⟩) 0 0) 0 [] := World.ownsRow_lit (base := wr.heap.size) (e := 3) (size := 1) wr.drew #[] 0 (Nat.le_refl _) (by unfold maxLen; omega) rfl
              have hbE : Below wr.heap.size wr (wr.drew.alloc (.cells #[] 3)) := (Below.refl _ wr).drew.alloc (Nat.le_refl _) _
              have hN1 := news_at (W := wr.drew.alloc (.cells #[] 3)) HR.out HC.out hg2 hbE 0 t (by omega)
              have hL1 : (numV ((R.drop 0).take t)).length = t * 1 := by unfold numV; rw [List.length_map, List.length_take, List.drop_zero, ← HR.out]; omega
              have hL2 : (numV ((R.drop (t + 1)).take (r - (t + 1)))).length = (r - (t + 1)) * 1 := by unfold numV; rw [List.length_map, List.length_take, List.length_drop, ← HR.out]; omega
              have HSL2 := Lib.hid hN1
              have HE2 := Lib.hid hE
              have HB2 := Lib.hid hbE
              clear hN1 hE hbE
              have hz1' : wr.heap.size ≤ (wr.drew.alloc (.cells #[] 3)).heap.size := by simp
              go_region_held_law (fun _ => True) (trivial)
                (first
                | (refine step_append_at (by rfl) _ _ 33 (by rfl) wr.heap.size 3 i0 (.int .i64 0) 1 8 Try.underlying33 hi hz0 hz1 hz2 rfl (by decide) _ 0 [] (by rfl) HE2.out ⟨g, 0, none⟩ t cap (numV ((R.drop 0).take t)) (by rfl) hL1 HSL2.out (numV_one _) (by unfold maxLen; omega) (by omega) hz1' ?_; intro v1 w7 hown7 hgrow7; have hb7 : Below wr.heap.size wr w7 := HB2.out.grown hgrow7 hz1' (fun q hq => by simp [Value.ownBlock] at hq; omega); have hz7 := hb7.size)
                | (refine step_append_at (by rfl) _ _ 33 (by rfl) wr.heap.size 3 i0 (.int .i64 0) 1 8 Try.underlying33 hi hz0 hz1 hz2 rfl (by decide) _ _ _ (by rfl) hown7 ⟨g, t + 1, none⟩ (r - (t + 1)) (cap - (t + 1)) (numV ((R.drop (t + 1)).take (r - (t + 1)))) (by rfl) hL2 (news_at HR.out HC.out hg2 hb7 (t + 1) (r - (t + 1)) (by omega)) (numV_one _) (by unfold maxLen; omega) (by omega) hz7 ?_; intro v2 w8 hown8 hgrow8; have hb8 : Below wr.heap.size wr w8 := hb7.grown hgrow8 hz7 (fun q hq => (hown7.lt q hq).1)))
              have hln := erase_len R r t HR.out (by omega)
              have HO8 := Lib.hid (erased_owns hown8 (erase_form R r t HR.out) (by rw [hln]; omega) hbel.out.size)
              have HB8 : Hid (Below w4.heap.size w4 w8) := hbel.out.trans (hb8.mono hbel.out.size)
              have HLN := Lib.hid hln
              clear hown7 hown8 hgrow7 hgrow8 hb7 hb8 hsl hsl2 hln
              go_wp2_with fail
              go_roundw
              case rel =>
                repeat (with_reducible apply Exists.intro (α := Value))
                refine ⟨?_, rfl⟩
                exact ⟨R.eraseIdx t, j + 1, by go_num, by rw [HLN.out]; omega, by rw [HLN.out]; omega, (erase_all R t hnd.out _ hlt.out).1, (erase_all R t hnd.out _ hlt.out).2, HO8.out, HB8.out⟩
              case measure => simp [intOf]; omega
          · go_wp2_with fail
            have hc0 : ¬ cap = 0 := by omega
            have hc1 : ¬ cap = 1 := by omega
            have hw3 : IntKind.i64.wrap 1 = 1 := i64_wrap (by omega) (by omega)
            have hb2 : (1 : Int) ≤ (r : Int) := by omega
            have hb4 : 1 ≤ r := by omega
            have hsl := slice_head g r cap 0 (by omega) (by omega) (by omega) (0) (by omega)
            have hsl2 := slice_behind g r cap 0 (by omega) (by omega) (1) (by omega)
            have hE : (wr.drew.alloc (.cells #[] 3)).ownsRow wr.heap.size 3 1 (.slice (some ⟨wr.heap.size, 0, none⟩) 0 0) 0 [] := World.ownsRow_lit (base := wr.heap.size) (e := 3) (size := 1) wr.drew #[] 0 (Nat.le_refl _) (by unfold maxLen; omega) rfl
            have hbE : Below wr.heap.size wr (wr.drew.alloc (.cells #[] 3)) := (Below.refl _ wr).drew.alloc (Nat.le_refl _) _
            have hN1 := news_at (W := wr.drew.alloc (.cells #[] 3)) HR.out HC.out hg2 hbE 0 0 (by omega)
            have hL1 : (numV ((R.drop 0).take 0)).length = 0 * 1 := by unfold numV; rw [List.length_map, List.length_take, List.drop_zero, ← HR.out]; omega
            have hL2 : (numV ((R.drop (0 + 1)).take (r - (0 + 1)))).length = (r - (0 + 1)) * 1 := by unfold numV; rw [List.length_map, List.length_take, List.length_drop, ← HR.out]; omega
            have HSL2 := Lib.hid hN1
            have HE2 := Lib.hid hE
            have HB2 := Lib.hid hbE
            clear hN1 hE hbE
            have hz1' : wr.heap.size ≤ (wr.drew.alloc (.cells #[] 3)).heap.size := by simp
            go_region_held_law (fun _ => True) (trivial)
              (first
              | (refine step_append_at (by rfl) _ _ 33 (by rfl) wr.heap.size 3 i0 (.int .i64 0) 1 8 Try.underlying33 hi hz0 hz1 hz2 rfl (by decide) _ 0 [] (by rfl) HE2.out ⟨g, 0, none⟩ 0 cap (numV ((R.drop 0).take 0)) (by rfl) hL1 HSL2.out (numV_one _) (by unfold maxLen; omega) (by omega) hz1' ?_; intro v1 w7 hown7 hgrow7; have hb7 : Below wr.heap.size wr w7 := HB2.out.grown hgrow7 hz1' (fun q hq => by simp [Value.ownBlock] at hq; omega); have hz7 := hb7.size)
              | (refine step_append_at (by rfl) _ _ 33 (by rfl) wr.heap.size 3 i0 (.int .i64 0) 1 8 Try.underlying33 hi hz0 hz1 hz2 rfl (by decide) _ _ _ (by rfl) hown7 ⟨g, 0 + 1, none⟩ (r - (0 + 1)) (cap - (0 + 1)) (numV ((R.drop (0 + 1)).take (r - (0 + 1)))) (by rfl) hL2 (news_at HR.out HC.out hg2 hb7 (0 + 1) (r - (0 + 1)) (by omega)) (numV_one _) (by unfold maxLen; omega) (by omega) hz7 ?_; intro v2 w8 hown8 hgrow8; have hb8 : Below wr.heap.size wr w8 := hb7.grown hgrow8 hz7 (fun q hq => (hown7.lt q hq).1)))
            have hln := erase_len R r 0 HR.out (by omega)
            have HO8 := Lib.hid (erased_owns hown8 (erase_form R r 0 HR.out) (by rw [hln]; omega) hbel.out.size)
            have HB8 : Hid (Below w4.heap.size w4 w8) := hbel.out.trans (hb8.mono hbel.out.size)
            have HLN := Lib.hid hln
            clear hown7 hown8 hgrow7 hgrow8 hb7 hb8 hsl hsl2 hln
            go_wp2_with fail
            go_roundw
            case rel =>
              repeat (with_reducible apply Exists.intro (α := Value))
              refine ⟨?_, rfl⟩
              exact ⟨R.eraseIdx 0, j + 1, by go_num, by rw [HLN.out]; omega, by rw [HLN.out]; omega, (erase_all R 0 hnd.out _ hlt.out).1, (erase_all R 0 hnd.out _ hlt.out).2, HO8.out, HB8.out⟩
            case measure => simp [intOf]; omega
        · obtain rfl : r = k := by omega
          have hlen : (R.map fun n : Nat => (n : Int)).length = r := by rw [List.length_map, ← HR.out]
          have hp := pick_some (r + m) r ⟨(tabL (r + m) r (GfU.gen r)).toArray⟩ ⟨g, 0, none⟩ cap (R.map fun n : Nat => (n : Int)) wr (by omega) (by omega) sK.1 (by omega) (size_tab _ _ _) hg2 (fun i h => by
            rw [List.length_map] at h
            rw [addr_head, HC.out i (by rw [HR.out]; exact h), numV_at R i h, List.getElem_map]) (by omega)
          have hans : pickAns (r + m) r ⟨(tabL (r + m) r (GfU.gen r)).toArray⟩ (R.map fun n : Nat => (n : Int)) = .tuple #[.agg #[.int .i64 (r : Int), .int .i64 (r : Int), .string ⟨(tabL r r (pickF (R.map fun n : Nat => (n : Int)) (cel ⟨(tabL (r + m) r (GfU.gen r)).toArray⟩ r))).toArray⟩], .int .i64 0] := by
            unfold pickAns
            rw [if_pos, if_neg (by omega), if_neg (by omega), hlen]
            intro i h
            rw [List.length_map] at h
            have := hlt.out _ (List.getElem_mem h)
            rw [List.getElem_map]
            omega
          rw [hans, hlen] at hp
          have HP := Lib.hid hp
          have HNS := Lib.hid (picked_not_sing r m R (by omega) hnd.out HR.out.symm hlt.out)
          clear hp hans hlen
          obtain ⟨g0, g1, g2, _⟩ := G6.out
          go_wp2_with fail
          refine HP.out.mono ?_
          rintro e w7 ⟨rfl, hb7⟩
          have B7 : Hid (Below w.heap.size w w7) := (B4.out.trans (hbel.out.mono B4.out.size)).trans (hb7.mono (B4.out.trans (hbel.out.mono B4.out.size)).size)
          clear hb7 HP g0 g1 g2
          go_wp2_with fail
          refine (inv_yes r _ _ sK.1 (by omega) (size_tab _ _ _)).mono ?_
          rintro e w8 ⟨hres, hb8⟩
          have B8 : Hid (Below w.heap.size w w8) := (B7.out.alloc B7.out.size _).trans (hb8.mono (by have := B7.out.size; simp; omega))
          clear hb8 B7
          rcases hres with ⟨R', rfl, _, _⟩ | ⟨rfl, hs⟩
          · go_wp2_with fail
            go_ret
            exact ⟨rfl, B8.out.alloc B8.out.size _⟩
          · exact absurd hs HNS.out

end Go.Proofs.Ytlmcpnlnbjloaaa
