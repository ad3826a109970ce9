/- Parts of the proof, joined: MpSome, MpAny; their conditions stand with each. -/
import Derived.Deep.Cut
import Derived.Deep.CutRange
import Derived.Deep.DeepCutAuto
import Derived.Test.YtemcjnbgcecinaaA13
import Derived.Test.YtemcjnbgcecinaaA14
import Derived.Test.YtemcjnbgcecinaaA19

/- What the laws' own choice of shards answers; one contract; no condition but the range. -/
namespace Go.Proofs.Ytemcjnbgcecinaa
open Go.RowKit

attribute [local go_sem ↓] Go.wp_at_zero Go.wp_at_succ
attribute [local go_sem] floatUpon pick

/-- a row of whole numbers and a row of shards that the call owns, and that share no block -/
structure NumSh (H : Nat) (W : World) (v u : Value) (R : List Nat) (n : Nat) (S : List (Int × ByteArray)) : Prop where
  r0 : W.ownsRow H 3 1 v R.length (numV R)
  r1 : W.ownsRow H 50 2 u n (shV S)
  d : Unlike v u

theorem NumSh.below {H n : Nat} {W W' : World} {v u : Value} {R : List Nat} {S : List (Int × ByteArray)} (h : NumSh H W v u R n S) (hb : Below W.heap.size W W') : NumSh H W' v u R n S := ⟨st_keep h.r0 hb, st_keep h.r1 hb, h.d⟩

theorem NumSh.app {H n n' : Nat} {W W1 : World} {v u u' : Value} {R : List Nat} {S S' : List (Int × ByteArray)} (h : NumSh H W v u R n S) (ho : W1.ownsRow H 50 2 u' n' (shV S')) (hg : W.grownBy W1 u.ownBlock) (hat : u'.ownBlock = u.ownBlock ∨ u'.ownBlock = some W.heap.size) :
    NumSh H W1 v u' R n' S' := ⟨h.r0.kept hg h.d.ne, ho, h.d.next (fun j hj => (h.r0.lt j hj).2) hat (Nat.le_refl _)⟩

theorem NumSh.left {H n : Nat} {W W1 : World} {v u v' : Value} {R R' : List Nat} {S : List (Int × ByteArray)} (h : NumSh H W v u R n S) (ho : W1.ownsRow W.heap.size 3 1 v' R'.length (numV R')) (hH : H ≤ W.heap.size) (hb : Below W.heap.size W W1) : NumSh H W1 v' u R' n S :=
  ⟨owns_lower ho hH, st_keep h.r1 hb, fun j h1 h2 => by
    have l1 := (ho.lt j h1).1
    have l2 := (h.r1.lt j h2).2
    omega⟩

theorem shV_snoc (S : List (Int × ByteArray)) (x : Int) (s : ByteArray) : shV S ++ [.int .i64 x, .string s] = shV (S ++ [(x, s)]) := by
  unfold shV
  rw [List.flatMap_append]; rfl

theorem pickL_snoc (all : List ByteArray) (N : List Nat) (x : Nat) : pickL all N ++ [((x : Int), all.getD x ⟨#[]⟩)] = pickL all (N ++ [x]) := by
  unfold pickL
  rw [List.map_append]; rfl

/-- what is left, and what is taken -/
structure Taken (n : Nat) (R N : List Nat) : Prop where
  nd : R.Nodup
  ndN : N.Nodup
  lt : ∀ x ∈ R, x < n
  ltN : ∀ x ∈ N, x < n
  apart : ∀ x ∈ N, x ∉ R

theorem Taken.step {n t : Nat} {R N : List Nat} (h : Taken n R N) (ht : t < R.length) : Taken n (R.eraseIdx t) (N ++ [R[t]]) := by
  have hx : R[t] ∈ R := List.getElem_mem ht
  have hsub : ∀ y ∈ R.eraseIdx t, y ∈ R := fun y hy => (List.eraseIdx_sublist R t).subset hy
  have hno : R[t] ∉ R.eraseIdx t := by
    have h1 := h.nd
    have e : R = R.take t ++ R[t] :: R.drop (t + 1) := by rw [← List.drop_eq_getElem_cons ht, List.take_append_drop]
    rw [e] at h1
    have h2 := List.nodup_append.1 h1
    have h3 := List.nodup_cons.1 h2.2.1
    rw [List.eraseIdx_eq_take_drop_succ]
    intro hm
    rcases List.mem_append.1 hm with hm | hm
    · exact h2.2.2 _ hm R[t] (List.mem_cons_self ..) rfl
    · exact h3.1 hm
  refine ⟨h.nd.sublist (List.eraseIdx_sublist R t), ?_, fun y hy => h.lt y (hsub y hy), ?_, ?_⟩
  · refine List.nodup_append.2 ⟨h.ndN, by simp, ?_⟩
    intro a ha b hb e
    simp at hb
    subst hb
    subst e
    exact h.apart _ ha hx
  · intro y hy
    rcases List.mem_append.1 hy with hy | hy
    · exact h.ltN y hy
    · simp at hy; subst hy; exact h.lt _ hx
  · intro y hy
    rcases List.mem_append.1 hy with hy | hy
    · exact fun z => h.apart y hy (hsub y z)
    · simp at hy; subst hy; exact hno

theorem getD_nodup {N : List Nat} (h : N.Nodup) (i j : Nat) (hi : i < N.length) (hj : j < i) : N.getD j 0 ≠ N.getD i 0 := fun e => by
  have := GfU.nodup_getD h (by omega) hi e
  omega

theorem getD_lt {N : List Nat} {n : Nat} (h : ∀ x ∈ N, x < n) (i : Nat) (hi : i < N.length) : N.getD i 0 < n := h _ (GfU.getD_mem hi)

set_option maxRecDepth 20000 in
set_option maxHeartbeats 4000000 in
theorem some_any (A : Addr) (ac : Nat) (all : List ByteArray) (k pn pc : Nat) (pa : Option Addr) (w : World) (hA : StrsAt w (some A) all) (hk : 1 ≤ k) (hkn : k ≤ all.length) (hn : all.length ≤ 1000) (hpn : pn ≤ 1000000000000000000)
    (hp : ∀ j, j < pn → ∃ (a : Addr) (d : Int), pa = some a ∧ a.block < w.heap.size ∧ w.cell? (a.add j) = some (.int .i64 d)) :
    Calls Try.prog 26 #[.slice (some A) all.length ac, .int .i64 (k : Int), .slice pa pn pc] w fun e w' =>
      ∃ N g cap, e = .returned (.slice (some ⟨g, 0, none⟩) k cap) ∧ w'.ownsRow w.heap.size 50 2 (.slice (some ⟨g, 0, none⟩) k cap) k (shV (pickL all N)) ∧ N.length = k ∧ N.Nodup ∧ (∀ x ∈ N, x < all.length) ∧ Below w.heap.size w w' := by
  obtain ⟨i0, hi, hz0, hz1, hz2⟩ := info_parts Try.infoInt
  obtain ⟨i1, hi', hz0', hz1', hz2'⟩ := info_parts Try.infoShard
  obtain ⟨n, hnn⟩ : ∃ n, n = all.length := ⟨_, rfl⟩
  have HN := Lib.hid hnn
  rw [← hnn] at hkn hn ⊢
  have HA := Lib.hid hA
  have HP := Lib.hid hp
  clear hA hp hnn
  go_enter Try.func26, Try.ntmps26
  go_wp2_with fail
  go_loopw [7, 14] (fun u i wr => ∃ j : Nat, j ≤ n ∧ i = .int .i64 (j : Int) ∧ Hid (wr.ownsRow w.heap.size 3 1 u j (numV (List.range j))) ∧ Hid (Below w.heap.size w wr)) (fun _ i _ => n - (intOf i).toNat)
  case atStart => exact ⟨0, by omega, rfl, World.ownsRow_nil _ _ _ _, Below.refl _ _⟩
  case round =>
    obtain ⟨j, hj, rfl, hown, hbel⟩ := hrel
    by_cases hlt : j < n
    · have pj : (j : Int) < (n : Int) := by omega
      go_wp2_with (at_builtin; refine wpList_append_own _ rfl _ _ 43 rfl w.heap.size 3 i0 (.int .i64 0) 1 8 Try.underlying43 hi hz0 hz1 hz2 rfl (by decide) _ _ _ rfl (hown.out.alloc _) ⟨wr.heap.size, 0, none⟩ 1 1 [.int .i64 (j : Int)] rfl rfl ?c1 ?c2 ?c3 ?c4 ?c5 ?_)
      case c1 => exact cell_one_new _ _ _
      case c2 => intro q hq; simp at hq; subst hq; rfl
      case c3 => unfold maxLen; omega
      case c4 => omega
      case c5 => have := hbel.out.size; simp; omega
      intro v' w5 hown' hgrow _
      have HB := Lib.hid (below_append hown.out hbel.out (Nat.le_refl _) hgrow)
      rw [show numV (List.range j) ++ [.int .i64 (j : Int)] = numV (List.range (j + 1)) by unfold numV; rw [List.range_succ, List.map_append]; rfl] at hown'
      have HO := Lib.hid hown'
      clear hown' hgrow
      go_wp2_with fail
      go_roundw
      case rel => exact ⟨j + 1, by omega, by go_num, HO.out, HB.out⟩
      case measure => simp [intOf]; omega
    · obtain rfl : j = n := by omega
      have R0 := Lib.hid hown.out
      have RB := Lib.hid hbel.out
      clear hown hbel hlt hj
      go_wp2_with fail
      generalize wr = w6 at R0 RB ⊢
      go_loopw [7, 9, 23] (fun u s i wr => ∃ (R N : List Nat) (q : Nat), i = .int .i64 (q : Int) ∧ q ≤ k ∧ N.length = q ∧ q + R.length = j ∧ Hid (Taken j R N) ∧ Hid (NumSh w.heap.size wr u s R q (pickL all N)) ∧ Hid (Below w.heap.size w wr)) (fun _ _ i _ => k - (intOf i).toNat)
      case atStart => exact ⟨List.range j, [], 0, rfl, by omega, rfl, by simp, ⟨List.nodup_range, List.nodup_nil, fun x hx => List.mem_range.1 hx, fun x hx => by simp at hx, fun x hx => by simp at hx⟩, ⟨by rw [List.length_range]; exact R0.out, World.ownsRow_nil _ _ _ _, fun y _ z => by simp [Value.ownBlock] at z⟩, RB.out⟩
      case round =>
        obtain ⟨R, N, q, rfl, hqk, hNq, hqr, hT, hS, hbel⟩ := hrel
        clear R0 RB
        by_cases hlt : q < k
        · have pq : (q : Int) < (k : Int) := by omega
          obtain ⟨r, hr⟩ : ∃ r, r = R.length := ⟨_, rfl⟩
          have hown := hS.out.r0
          rw [← hr] at hqr hown
          have HR := Lib.hid hr
          clear hr
          obtain ⟨g, cap, rfl, hg1, hg2⟩ := hown.form (by omega)
          obtain ⟨hrc, hrm, hcells⟩ : r ≤ cap ∧ cap ≤ 9223372036854775807 ∧ ∀ j, j < r → wr.cell? ⟨g, j, none⟩ = (numV R)[j]? := by
            refine ⟨?_, ?_, fun j hj => hown.cellAt j (by omega)⟩
            · rcases hown.2 with ⟨h, _⟩ | ⟨g', cap', cur, h, _, _, h1, h2, _⟩
              · simp at h
              · simp only [Value.slice.injEq] at h; omega
            · rcases hown.2 with ⟨h, _⟩ | ⟨g', cap', cur, h, _, _, h1, h2, _⟩
              · simp at h
              · simp only [Value.slice.injEq] at h; unfold maxLen at h2; omega
          have HC := Lib.hid hcells
          have HO := Lib.hid hown
          clear hcells hown
          go_upto_if 29 with fail
          go_cut [11] (fun s11 wx => (∃ t : Nat, t < r ∧ s11 = .int .i64 (t : Int)) ∧ wx = wr)
          case first =>
            by_cases hpq : q < pn
            · have pqn : (q : Int) < (pn : Int) := by omega
              obtain ⟨a, d, rfl, ha, hcell⟩ := HP.out q hpq
              have hcell6 := (cell_kept hbel.out (a.add q) (by rw [add_block]; exact ha)).trans hcell
              clear hcell
              go_wp2_with fail
              refine (among_any d r _ (by omega) (by omega)).mono ?_
              rintro e w' ⟨rfl, rfl⟩
              go_wp2_with fail
              go_meet
              exact ⟨⟨amongV d r, amongV_lt d r (by omega), rfl⟩, rfl⟩
            · have pqn : (pn : Int) ≤ (q : Int) := by omega
              go_wp2_with fail
              go_meet
              exact ⟨⟨0, by omega, rfl⟩, rfl⟩
          case rest =>
            obtain ⟨⟨t, ht, rfl⟩, rfl⟩ := hcut
            obtain ⟨x, hx⟩ : ∃ x, x = R[t]'(by rw [← HR.out]; exact ht) := ⟨_, rfl⟩
            have hxj : x < j := by rw [hx]; exact hT.out.lt _ (List.getElem_mem _)
            have hct : wc.cell? ⟨g, t, none⟩ = some (.int .i64 (x : Int)) := by rw [HC.out t ht, numV_at R t (by rw [← HR.out]; exact ht), hx]
            have hca : wc.cell? (A.add x) = some (.string (all.getD x ⟨#[]⟩)) := strs_getD (HA.out.below hbel.out) (by rw [← HN.out]; exact hxj)
            have HT2 : Hid (Taken j (R.eraseIdx t) (N ++ [x])) := by rw [hx]; exact hT.out.step (by rw [← HR.out]; exact ht)
            have hab : (A.add x).block < wc.heap.size := World.block_lt_of_cell? wc _ hca
            have pt : (t : Int) < (r : Int) := by omega
            have px : (x : Int) < (j : Int) := by omega
            clear hx
            generalize hsx : all.getD x ⟨#[]⟩ = sx at hca
            have HSx := Lib.hid hsx
            clear hsx
            go_upto_region 14 with fail
            refine wp_region_said 14 [37, 38, 39, 40, 41, 42, 43, 44, 45, 46, 47, 48, 49, 50]
              [.is u9, .is (.slice (some ⟨g, 0, none⟩) r cap), .is (.int .i64 (t : Int)), .is (.pointer (some ⟨g, t, none⟩)), .is (.int .i64 (x : Int)), .is (.slice (some A) j ac), .is (.slice (some ⟨g, 0, none⟩) r cap), .is (.int .i64 (t : Int)), .is (.pointer (some ⟨g, t, none⟩)), .is (.int .i64 (x : Int)), .is (.pointer (some (A.add x))), .is (.string sx), .is (.agg #[.int .i64 (x : Int), .string sx]),
               .arr 50 #[.int .i64 (x : Int), .string sx] 1 1]
              (fun W => W.cell? ⟨g, t, none⟩ = some (.int .i64 (x : Int)) ∧ W.cell? (A.add x) = some (.string sx) ∧ g < W.heap.size ∧ (A.add x).block < W.heap.size) (by kernel_rfl) (by kernel_rfl) (by kernel_rfl) (by kernel_rfl) (by kernel_rfl)
              (fun W W' h hb => ⟨(hb.cell (p := ⟨g, t, none⟩) h.2.2.1).trans h.1, (cell_kept hb (A.add x) h.2.2.2).trans h.2.1, Nat.lt_of_lt_of_le h.2.2.1 hb.size, Nat.lt_of_lt_of_le h.2.2.2 hb.size⟩) ⟨hct, hca, hg2, hab⟩ ?steps ?last
            case steps =>
              simp only [List.take_succ_cons, List.take_zero]
              refine ⟨?_, ?_, ?_, ?_, ?_, ?_, ?_, ?_, ?_, ?_, ?_, ?_, ?_, ?_, trivial⟩
              all_goals
                intro vs W ρ hρ hc hf hg hI hH hd R' hR
                obtain ⟨d1, d2, _⟩ := hI
                have HR2 := Lib.hid hR
                simp [depsOf, Region.binds, sayAt, Say.holds] at hd
                clear hR
                go_simp
                first
                  | exact HR2.out _ _ (by simp [sayAt, Say.holds]) (Below.refl _ _) (by simp [sayAt, Say.isBlk])
                  | exact HR2.out _ _ ⟨_, hH, by simp, rfl, heap_alloc_new _ _⟩ ((Below.refl _ _).alloc (Nat.le_refl _) _) (fun h => by cases h)
                  | trace_state
            case last =>
              intro vs W hI hb hg hd
              have k0 := hg 0 (by omega)
              obtain ⟨p, hp1, hp2, k13, hpc⟩ := hg 13 (by omega)
              simp only [sayAt, Say.holds, List.getD_cons_zero] at k0
              simp only [List.take_succ_cons, List.take_zero, List.drop_succ_cons, List.drop_zero, putAll, Act.put, List.setIfInBounds_toArray, List.set_cons_succ, List.set_cons_zero, Nat.zero_add, Nat.reduceAdd]
              rw [k0, k13]
              have N1 := Lib.hid (hS.out.below hb)
              have B1 := Lib.hid (hbel.out.trans (hb.mono hbel.out.size))
              clear k0 k13 hg hd hI hct hca hab hS hbel
              refine wpList_append_own_at _ rfl (.tmp 37) (.tmp 50) 22 rfl w.heap.size 50 i1 (.agg #[.int .i64 0, .string ⟨#[]⟩]) 2 24 Try.underlying22 hi' hz0' hz1' hz2' rfl (by decide) _ _ _ rfl N1.out.r1 ⟨p, 0, none⟩ 1 1 [.int .i64 (x : Int), .string sx] rfl rfl ?c1 ?c2 ?c3 ?c4 B1.out.size ?_
              case c1 =>
                intro jj u hu
                rw [addr_head]
                exact blk_cell hpc (by rw [← hu]; match jj with | 0 => rfl | 1 => rfl | _ + 2 => rfl)
              case c2 => intro u hu; simp at hu; rcases hu with rfl | rfl <;> rfl
              case c3 => unfold maxLen; omega
              case c4 => omega
              intro v' w3 hown' hgrow _ hat
              have B3 : Hid (Below w.heap.size w w3) := B1.out.grown hgrow B1.out.size (fun kk hk => (N1.out.r1.lt kk hk).1)
              have hown2 : w3.ownsRow w.heap.size 50 2 v' (q + 1) (shV (pickL all (N ++ [x]))) := by
                rw [← pickL_snoc, ← shV_snoc, HSx.out]; exact hown'
              have N3 := Lib.hid (N1.out.app hown2 hgrow hat)
              have hown3 := N3.out.r0
              rw [← HR.out] at hown3
              have HC3 : Hid (∀ j, j < r → w3.cell? ⟨g, j, none⟩ = (numV R)[j]?) := fun j hj => World.ownsRow.cellAt hown3 j (by omega)
              have hg3 : g < w3.heap.size := (hown3.lt g rfl).2
              have hb1 : (t : Int) ≤ (cap : Int) := by omega
              have hb2 : (t : Int) + 1 ≤ (r : Int) := by omega
              clear hown' hgrow hat hown2 hown3 hpc N1 B1 hb HC HO
              go_upto_region 15 with fail
              by_cases hc : cap = t + 1
              · subst hc
                have hc0 : ¬ t + 1 = 0 := by omega
                have hw1 : IntKind.i64.wrap ((t : Int) + 1) = (t : Int) + 1 := i64_wrap (by omega) (by omega)
                have hsl := slice_head g r (t + 1) t (by omega) (by omega) (by omega) ((t : Int)) (by omega)
                have hsl2 := slice_none g r (t + 1) t (by omega) (by omega) (by omega) ((t : Int) + 1) (by omega)
                have hE : (w3.drew.alloc (.cells #[] 3)).ownsRow w3.heap.size 3 1 (.slice (some ⟨w3.heap.size, 0, none⟩) 0 0) 0 [] := World.ownsRow_lit (base := w3.heap.size) (e := 3) (size := 1) w3.drew #[] 0 (Nat.le_refl _) (by unfold maxLen; omega) rfl
                have hbE : Below w3.heap.size w3 (w3.drew.alloc (.cells #[] 3)) := (Below.refl _ w3).drew.alloc (Nat.le_refl _) _
                have hN1 := news_at (W := w3.drew.alloc (.cells #[] 3)) HR.out HC3.out hg3 hbE 0 t (by omega)
                have hL1 : (numV ((R.drop 0).take t)).length = t * 1 := by unfold numV; rw [List.length_map, List.length_take, List.drop_zero, ← HR.out]; omega
                have hL2 : (numV ((R.drop 0).take 0)).length = 0 * 1 := by unfold numV; rw [List.length_map, List.length_take, List.length_drop, ← HR.out]; omega
                have HSL2 := Lib.hid hN1
                have HE2 := Lib.hid hE
                have HB2 := Lib.hid hbE
                clear hN1 hE hbE
                have hz1' : w3.heap.size ≤ (w3.drew.alloc (.cells #[] 3)).heap.size := by simp
                go_region_held_law (fun _ => True) (trivial)
                  (first
                  | (refine step_append_at (by rfl) _ _ 43 (by rfl) w3.heap.size 3 i0 (.int .i64 0) 1 8 Try.underlying43 hi hz0 hz1 hz2 rfl (by decide) _ 0 [] (by rfl) HE2.out ⟨g, 0, none⟩ t (t + 1) (numV ((R.drop 0).take t)) (by rfl) hL1 HSL2.out (numV_one _) (by unfold maxLen; omega) (by omega) hz1' ?_; intro v1 w7 hown7 hgrow7; have hb7 : Below w3.heap.size w3 w7 := HB2.out.grown hgrow7 hz1' (fun q hq => by simp [Value.ownBlock] at hq; omega); have hz7 := hb7.size)
                  | (refine step_append_at (by rfl) _ _ 43 (by rfl) w3.heap.size 3 i0 (.int .i64 0) 1 8 Try.underlying43 hi hz0 hz1 hz2 rfl (by decide) _ _ _ (by rfl) hown7 ⟨g, 0, none⟩ 0 0 (numV ((R.drop 0).take 0)) (by rfl) hL2 (news_at HR.out HC3.out hg3 hb7 0 0 (by omega)) (numV_one _) (by unfold maxLen; omega) (by omega) hz7 ?_; intro v2 w8 hown8 hgrow8; have hb8 : Below w3.heap.size w3 w8 := hb7.grown hgrow8 hz7 (fun q hq => (hown7.lt q hq).1)))
                have hln := erase_len R r t HR.out (by omega)
                have HO8 := Lib.hid (N3.out.left (erased_owns hown8 (erase_last R r t HR.out (by omega)) (by rw [hln]; omega) (Nat.le_refl _)) B3.out.size hb8)
                have HB8 : Hid (Below w.heap.size w w8) := B3.out.trans (hb8.mono B3.out.size)
                have HLN := Lib.hid hln
                clear hown7 hown8 hgrow7 hgrow8 hb7 hb8 hsl hsl2 hln
                go_wp2_with fail
                go_roundw
                case rel =>
                  exact ⟨R.eraseIdx t, N ++ [x], q + 1, by go_num, by omega, by rw [List.length_append, hNq]; rfl, by rw [HLN.out]; omega, HT2.out, HO8.out, HB8.out⟩
                case measure => simp [intOf]; omega
              · skip
                have hc0 : ¬ cap = 0 := by omega
                have hw1 : IntKind.i64.wrap ((t : Int) + 1) = (t : Int) + 1 := i64_wrap (by omega) (by omega)
                have hsl := slice_head g r cap t (by omega) (by omega) (by omega) ((t : Int)) (by omega)
                have hsl2 := slice_behind g r cap t (by omega) (by omega) ((t : Int) + 1) (by omega)
                have hE : (w3.drew.alloc (.cells #[] 3)).ownsRow w3.heap.size 3 1 (.slice (some ⟨w3.heap.size, 0, none⟩) 0 0) 0 [] := World.ownsRow_lit (base := w3.heap.size) (e := 3) (size := 1) w3.drew #[] 0 (Nat.le_refl _) (by unfold maxLen; omega) rfl
                have hbE : Below w3.heap.size w3 (w3.drew.alloc (.cells #[] 3)) := (Below.refl _ w3).drew.alloc (Nat.le_refl _) _
                have hN1 := news_at (W := w3.drew.alloc (.cells #[] 3)) HR.out HC3.out hg3 hbE 0 t (by omega)
                have hL1 : (numV ((R.drop 0).take t)).length = t * 1 := by unfold numV; rw [List.length_map, List.length_take, List.drop_zero, ← HR.out]; omega
                have hL2 : (numV ((R.drop (t + 1)).take (r - (t + 1)))).length = (r - (t + 1)) * 1 := by unfold numV; rw [List.length_map, List.length_take, List.length_drop, ← HR.out]; omega
                have HSL2 := Lib.hid hN1
                have HE2 := Lib.hid hE
                have HB2 := Lib.hid hbE
                clear hN1 hE hbE
                have hz1' : w3.heap.size ≤ (w3.drew.alloc (.cells #[] 3)).heap.size := by simp
                go_region_held_law (fun _ => True) (trivial)
                  (first
                  | (refine step_append_at (by rfl) _ _ 43 (by rfl) w3.heap.size 3 i0 (.int .i64 0) 1 8 Try.underlying43 hi hz0 hz1 hz2 rfl (by decide) _ 0 [] (by rfl) HE2.out ⟨g, 0, none⟩ t cap (numV ((R.drop 0).take t)) (by rfl) hL1 HSL2.out (numV_one _) (by unfold maxLen; omega) (by omega) hz1' ?_; intro v1 w7 hown7 hgrow7; have hb7 : Below w3.heap.size w3 w7 := HB2.out.grown hgrow7 hz1' (fun q hq => by simp [Value.ownBlock] at hq; omega); have hz7 := hb7.size)
                  | (refine step_append_at (by rfl) _ _ 43 (by rfl) w3.heap.size 3 i0 (.int .i64 0) 1 8 Try.underlying43 hi hz0 hz1 hz2 rfl (by decide) _ _ _ (by rfl) hown7 ⟨g, t + 1, none⟩ (r - (t + 1)) (cap - (t + 1)) (numV ((R.drop (t + 1)).take (r - (t + 1)))) (by rfl) hL2 (news_at HR.out HC3.out hg3 hb7 (t + 1) (r - (t + 1)) (by omega)) (numV_one _) (by unfold maxLen; omega) (by omega) hz7 ?_; intro v2 w8 hown8 hgrow8; have hb8 : Below w3.heap.size w3 w8 := hb7.grown hgrow8 hz7 (fun q hq => (hown7.lt q hq).1)))
                have hln := erase_len R r t HR.out (by omega)
                have HO8 := Lib.hid (N3.out.left (erased_owns hown8 (erase_form R r t HR.out) (by rw [hln]; omega) (Nat.le_refl _)) B3.out.size hb8)
                have HB8 : Hid (Below w.heap.size w w8) := B3.out.trans (hb8.mono B3.out.size)
                have HLN := Lib.hid hln
                clear hown7 hown8 hgrow7 hgrow8 hb7 hb8 hsl hsl2 hln
                go_wp2_with fail
                go_roundw
                case rel =>
                  exact ⟨R.eraseIdx t, N ++ [x], q + 1, by go_num, by omega, by rw [List.length_append, hNq]; rfl, by rw [HLN.out]; omega, HT2.out, HO8.out, HB8.out⟩
                case measure => simp [intOf]; omega
        · obtain rfl : q = k := by omega
          obtain ⟨g, cap, rfl, _, _⟩ := World.ownsRow.form hS.out.r1 (by omega)
          have HR1 := Lib.hid hS.out.r1
          go_wp2_with fail
          go_ret
          exact ⟨N, g, cap, rfl, HR1.out, hNq, hT.out.ndN, hT.out.ltN, hbel.out⟩

end Go.Proofs.Ytemcjnbgcecinaa

/- The walk of the law that any k of an object's shards make it; no condition but the form's reach. -/
namespace Go.Proofs.Ytemcjnbgcecinaa
open Go.RowKit

attribute [local go_sem ↓] Go.wp_at_zero Go.wp_at_succ
attribute [local go_sem] floatUpon pick

/-- unlike numbers of an object's shards: nothing is wrong with any of them -/
theorem pick_good {k m : Nat} {s : ByteArray} {N : List Nat} (hk : 1 ≤ k) (hs : s.size ≤ 2048) (hr : ∀ x ∈ N, x < k + m) (hd : N.Nodup) :
    ∀ i, i < (pickL (allS k m s) N).length → badE ((k : Int) + (m : Int)) (pickL (allS k m s) N) i = 0 := fun i hi => by
  rw [pickL_len] at hi
  have h1 := getD_lt hr i hi
  refine bad_ok (by rw [pickL_I hi]; omega) (fun ⟨j, hj, e⟩ => ?_) ?_ ?_
  · rw [pickL_I hi, pickL_I (by omega)] at e
    exact getD_nodup hd i j hi hj (by omega)
  · rw [pickL_S hi, allS_size hk h1]
    have := St.sz_bound1 (n := s.size) hk hs
    omega
  · rw [pickL_S hi, pickL_S (by omega), allS_size hk h1, allS_size hk (getD_lt hr 0 (by omega))]

theorem pick_size {k m : Nat} {s : ByteArray} {N : List Nat} (hk : 1 ≤ k) (hs : s.size ≤ 2048) (hr : ∀ x ∈ N, x < k + m) : ∀ i, i < (pickL (allS k m s) N).length → (sS (pickL (allS k m s) N) i).size ≤ 9223372036854775807 := fun i hi => by
  rw [pickL_len] at hi
  rw [pickL_S hi, allS_size hk (getD_lt hr i hi)]
  have := St.sz_bound1 (n := s.size) hk hs
  omega

/-- k unlike shards of an object make each -/
theorem one_call {k m : Nat} {s : ByteArray} {N : List Nat} (hk : 1 ≤ k) (hkm : k + m ≤ 255) (hs : s.size ≤ 2048) (hl : k ≤ N.length) (hl2 : N.length ≤ 1000000) (hr : ∀ x ∈ N, x < k + m) (hd : N.Nodup) (i : Nat) (hi : i < k + m)
    (A : Option Addr) (c : Nat) (W : World) (h : ShardsAt W A (pickL (allS k m s) N)) (hc : N.length ≤ c) :
    Calls Try.prog 20 #[.int .i64 (k : Int), .int .i64 (m : Int), .slice A N.length c, .int .i64 (i : Int)] W fun e w' => e = .returned (.tuple #[.string ((allS k m s).getD i ⟨#[]⟩), .int .i64 0]) ∧ Below W.heap.size W w' := by
  obtain ⟨hck, hv⟩ := pick_ck (m := m) (s := s) hk hkm hs hl (getD_lt hr) (getD_nodup hd)
  have h1 := mone_any k m i A c (pickL (allS k m s) N) W h (by rw [pickL_len]; exact hc) (by rw [pickL_len]; omega) (pick_size hk hs hr)
  rw [pickL_len, one_ans hck (by rw [hv]) (pick_have hl) hi] at h1
  exact h1

/-- fewer are refused -/
theorem few_call {k m : Nat} {s : ByteArray} {N : List Nat} (hk : 1 ≤ k) (hkm : k + m ≤ 255) (hs : s.size ≤ 2048) (hl : N.length < k) (hr : ∀ x ∈ N, x < k + m) (hd : N.Nodup)
    (A : Option Addr) (c : Nat) (W : World) (h : ShardsAt W A (pickL (allS k m s) N)) (hc : N.length ≤ c) :
    Calls Try.prog 17 #[.int .i64 (k : Int), .int .i64 (m : Int), .slice A N.length c] W fun e w' => e = .returned (.tuple #[.string ⟨#[]⟩, .int .i64 40]) ∧ Below W.heap.size W w' := by
  have hv : ckV (k : Int) (m : Int) (pickL (allS k m s) N) = (-1, 40) := by
    rw [ck_none (codeB_yes hk hkm) (pick_good hk hs hr hd), pickL_len, if_pos (by omega)]
  have h1 := mobject_any k m A c (pickL (allS k m s) N) W h (by rw [pickL_len]; exact hc) (by rw [pickL_len]; omega) (pick_size hk hs hr)
  have e : objAns (k : Int) (m : Int) (pickL (allS k m s) N) = .tuple #[.string ⟨#[]⟩, .int .i64 40] := by
    unfold objAns
    rw [hv, if_neg (by decide)]
  rw [pickL_len, e] at h1
  exact h1

theorem pick_take {w : World} {A : Option Addr} {all : List ByteArray} {N : List Nat} (h : ShardsAt w A (pickL all N)) (n : Nat) (hn : n ≤ N.length) : ShardsAt w A (pickL all (N.take n)) := fun hp => by
  rw [pickL_len, List.length_take] at hp
  obtain ⟨ad, h1, h2, h3⟩ := h (by rw [pickL_len]; omega)
  refine ⟨ad, h1, h2, fun i hi => ?_⟩
  rw [pickL_len, List.length_take] at hi
  have h4 := h3 i (by rw [pickL_len]; omega)
  have e : (N.take n).getD i 0 = N.getD i 0 := by
    rw [List.getD_eq_getElem?_getD, List.getD_eq_getElem?_getD, List.getElem?_take, if_pos (by omega)]
  rw [pickL_I (by omega), pickL_S (by omega)] at h4
  rw [pickL_I (by rw [List.length_take]; omega), pickL_S (by rw [List.length_take]; omega), e]
  exact h4

theorem own_shards {w : World} {H g cap n : Nat} {L : List (Int × ByteArray)} (hn : n = L.length) (h : w.ownsRow H 50 2 (.slice (some ⟨g, 0, none⟩) n cap) n (shV L)) : ShardsAt w (some ⟨g, 0, none⟩) L ∧ n ≤ cap ∧ g < w.heap.size := by
  have hf := World.ownsRow.cellAt h
  refine ⟨fun hp => ⟨_, rfl, (h.lt g rfl).2, fun i hi => ?_⟩, ?_, (h.lt g rfl).2⟩
  · obtain ⟨h1, h2⟩ := shV_at L i hi
    rw [addr_head, addr_head]
    exact ⟨(hf (i * 2) (by omega)).trans h1, (hf (i * 2 + 1) (by omega)).trans h2⟩
  · rcases h.2 with ⟨h', _⟩ | ⟨g', cap', cur, h', _, _, hc, _⟩
    · simp at h'
    · simp only [Value.slice.injEq] at h'
      obtain ⟨-, -, rfl⟩ := h'
      exact hc

set_option maxRecDepth 20000 in
set_option maxHeartbeats 4000000 in
theorem any_whole (c1 c2 : Int) (s : ByteArray) (_hs : s.size ≤ reachBytes) (v : Value) (P : List Int) (w : World) (hv : SliceOf w v P) :
    Calls Try.prog 6 #[.agg #[.int .i64 c1, .int .i64 c2], .string s, v] w fun e w' => e = .returned (.bool true) ∧ Below w.heap.size w w' := by
  have hka := amongV_lt c1 6 (by omega)
  have hma := amongV_lt c2 5 (by omega)
  have HA1 := Lib.hid (fun w => among_any c1 6 w (by omega) (by omega))
  have HA2 := Lib.hid (fun w => among_any c2 5 w (by omega) (by omega))
  generalize amongV c1 6 = ka at *
  generalize amongV c2 5 = m at *
  obtain ⟨k, hk⟩ : ∃ k, k = 1 + ka := ⟨_, rfl⟩
  have k1 : 1 ≤ k := by omega
  have k2 : k ≤ 6 := by omega
  have HK : (1 : Int) + ((ka : Nat) : Int) = (k : Int) := by omega
  have hwk : IntKind.i64.wrap (k : Int) = (k : Int) := i64_wrap (by omega) (by omega)
  obtain ⟨pa, pn, pc, hvv, hn8, hdr⟩ : ∃ (ad : Option Addr) (n cp : Nat), v = .slice ad n cp ∧ n * 8 ≤ 140737488351232 ∧ ∀ j, j < n → ∃ (a : Addr) (d : Int), ad = some a ∧ a.block < w.heap.size ∧ w.cell? (a.add j) = some (.int .i64 d) := by
    rcases hv with ⟨h1, _⟩ | ⟨a, cap, h1, h2, h3, h4⟩
    · exact ⟨none, 0, 0, h1, by omega, fun j hj => absurd hj (by omega)⟩
    · exact ⟨some a, P.length, cap, h1, h4, fun j hj => ⟨a, P[j], rfl, h2 (by omega), h3 j hj⟩⟩
  subst hvv
  have HV := Lib.hid hdr
  clear hv hdr hk
  go_enter Try.func6, Try.ntmps6
  go_wp2_with fail
  obtain ⟨s0, bZ⟩ := blk1 w (.cells #[.int .i64 c1, .int .i64 c2] 31)
  have BW : Hid (Below w.heap.size w (w.alloc (.cells #[.int .i64 c1, .int .i64 c2] 31))) := (Below.refl _ w).alloc (Nat.le_refl _) _
  have P0 : Hid (PairAt (w.alloc (.cells #[.int .i64 c1, .int .i64 c2] 31)) w.heap.size c1 c2) := ⟨blk_cell (j := 0) bZ rfl, blk_cell (j := 1) bZ rfl, by omega⟩
  generalize w.alloc (.cells #[.int .i64 c1, .int .i64 c2] 31) = w0 at s0 bZ BW P0 ⊢
  refine (mdworks_true _).mono ?_
  rintro e w1 ⟨rfl, hb⟩
  have P1 := Lib.hid (P0.out.below hb)
  have B1 : Hid (Below w.heap.size w w1) := BW.out.trans (hb.mono BW.out.size)
  clear BW hb bZ s0 P0
  generalize hB : w.heap.size = B at P1 ⊢
  have HB := Lib.hid hB
  clear hB
  go_upto_region 3 with fail
  refine wp_region_said 9 [21, 22, 23, 24, 25, 26, 27, 7, 8]
    [.is (.pointer (some ⟨B, 0, none⟩)), .is (.int .i64 c1), .is (.int .i64 (ka : Int)), .is (.int .i64 (k : Int)), .is (.pointer (some ⟨B, 1, none⟩)), .is (.int .i64 c2), .is (.int .i64 (m : Int)), .is (.int .i64 (k : Int)), .is (.int .i64 (m : Int))]
    (fun W => PairAt W B c1 c2) (by kernel_rfl) (by kernel_rfl) (by kernel_rfl) (by kernel_rfl) (by kernel_rfl) (fun W W' h hb => h.below hb) P1.out ?steps ?last
  case steps =>
    simp only [List.take_succ_cons, List.take_zero]
    refine ⟨?_, ?_, ?_, ?_, ?_, ?_, ?_, ?_, ?_, trivial⟩
    all_goals
      intro vs W ρ hρ hc hf hg hI hH hd R' hR
      obtain ⟨d1, d2, _⟩ := hI
      have HR := Lib.hid hR
      simp [depsOf, Region.binds, sayAt, Say.holds] at hd
      clear hR
      go_simp
    · exact HR.out _ _ (by simp [sayAt, Say.holds]) (Below.refl _ _) (by simp [sayAt, Say.isBlk])
    · exact HR.out _ _ (by simp [sayAt, Say.holds]) (Below.refl _ _) (by simp [sayAt, Say.isBlk])
    · (refine (HA1.out _).mono ?_; rintro e w' ⟨rfl, rfl⟩; exact ⟨_, rfl, HR.out _ _ (by simp [sayAt, Say.holds]) (Below.refl _ _) (by simp [sayAt, Say.isBlk])⟩)
    · exact HR.out _ _ (by simp [sayAt, Say.holds]) (Below.refl _ _) (by simp [sayAt, Say.isBlk])
    · exact HR.out _ _ (by simp [sayAt, Say.holds]) (Below.refl _ _) (by simp [sayAt, Say.isBlk])
    · exact HR.out _ _ (by simp [sayAt, Say.holds]) (Below.refl _ _) (by simp [sayAt, Say.isBlk])
    · (refine (HA2.out _).mono ?_; rintro e w' ⟨rfl, rfl⟩; exact ⟨_, rfl, HR.out _ _ (by simp [sayAt, Say.holds]) (Below.refl _ _) (by simp [sayAt, Say.isBlk])⟩)
    · exact HR.out _ _ (by simp [sayAt, Say.holds]) (Below.refl _ _) (by simp [sayAt, Say.isBlk])
    · exact HR.out _ _ (by simp [sayAt, Say.holds]) (Below.refl _ _) (by simp [sayAt, Say.isBlk])
  case last =>
    intro vs W hI hb hg hd
    have g7 := hg 7 (by omega)
    have g8 := hg 8 (by omega)
    simp only [sayAt, Say.holds, List.getD_cons_succ, List.getD_cons_zero] at g7 g8
    simp only [List.take_succ_cons, List.take_zero, List.drop_succ_cons, List.drop_zero, putAll, Act.put, List.setIfInBounds_toArray, List.set_cons_succ, List.set_cons_zero, Nat.zero_add, Nat.reduceAdd]
    rw [g7, g8]
    have B2 := Lib.hid (B1.out.trans (hb.mono B1.out.size))
    clear g7 g8 hg hd hb hI P1 B1 HA1 HA2 hka HK
    by_cases hbig : 400 < s.size
    · have hbig' : (400 : Int) < (s.size : Int) := by omega
      go_wp2_with fail
      go_ret
      exact ⟨rfl, B2.out⟩
    · have hbig' : (s.size : Int) ≤ 400 := by omega
      have h400 : s.size ≤ 2048 := by omega
      clear hbig
      have hkm : k + m ≤ 255 := by omega
      have HEn := Lib.hid (fun W => encode_any (k : Int) (m : Int) s W (by omega))
      have HEy := Lib.hid (enc_yes (k := k) (m := m) (s := s) k1 hkm h400)
      have HLen := Lib.hid (allS_len k m s)
      go_wp2_with fail
      refine (HEn.out _).mono ?_
      rintro e w3 ⟨hans, hb⟩
      obtain ⟨g, cap, rfl, hown⟩ := HEy.out _ _ _ hans
      have hst : StrsAt w3 (some ⟨g, 0, none⟩) (allS k m s) := StrsAt.own hown HLen.out.symm
      have ST := Lib.hid hst
      have B3 := Lib.hid (B2.out.trans (hb.mono B2.out.size))
      clear hans hb hown hst HEn HEy
      have hso := some_any ⟨g, 0, none⟩ cap (allS k m s) k pn pc pa w3 ST.out k1 (by rw [HLen.out]; omega) (by rw [HLen.out]; omega) (by omega) (fun j hj => by
        obtain ⟨a, d, h1, h2, h3⟩ := HV.out j hj
        exact ⟨a, d, h1, Nat.lt_of_lt_of_le h2 B3.out.size, (cell_kept B3.out (a.add j) (by rw [add_block]; exact h2)).trans h3⟩)
      rw [HLen.out] at hso
      have HSo := Lib.hid hso
      clear hso HV
      go_wp2_with fail
      refine HSo.out.mono ?_
      rintro e w4 ⟨N, lg, lcap, rfl, hown, hN, hnd, hlt, hb⟩
      obtain ⟨hsh, hlc, hlg⟩ := own_shards (by rw [pickL_len, hN]) hown
      have SH4 := Lib.hid hsh
      have ST4 := Lib.hid (ST.out.below hb)
      have B4 := Lib.hid (B3.out.trans (hb.mono B3.out.size))
      have HNd := Lib.hid hnd
      have HLt := Lib.hid hlt
      have HNk := Lib.hid hN
      have hob := fun W h => obj_call (m := m) (s := s) (N := N) k1 hkm h400 (by omega) (by omega) (getD_lt hlt) (getD_nodup hnd) (some ⟨lg, 0, none⟩) lcap W h (by omega)
      rw [hN] at hob
      have HOb := Lib.hid hob
      have honc := fun i hi W h => one_call (m := m) (s := s) (N := N) k1 hkm h400 (by omega) (by omega) hlt hnd i hi (some ⟨lg, 0, none⟩) lcap W h (by omega)
      rw [hN] at honc
      have HOn := Lib.hid honc
      have qs := text_eq s
      clear hown hsh hb hnd hlt hN hob honc HSo ST B3
      go_wp2_with fail
      refine (HOb.out _ SH4.out).mono ?_
      rintro e w5 ⟨rfl, hb⟩
      have SH5 := Lib.hid (SH4.out.below hb)
      have ST5 := Lib.hid (ST4.out.below hb)
      have B5 := Lib.hid (B4.out.trans (hb.mono B4.out.size))
      clear hb SH4 ST4 B4 HOb
      go_wp2_with fail
      go_loopw [68] (fun u wr => ∃ i : Nat, i ≤ k + m ∧ u = .int .i64 (i : Int) ∧ Hid (Below w5.heap.size w5 wr)) (fun u _ => k + m - (intOf u).toNat)
      case atStart => exact ⟨0, by omega, rfl, Below.refl _ _⟩
      case round =>
        obtain ⟨i, hi, rfl, hbel⟩ := hrel
        by_cases hlt : i < k + m
        · have pi : (i : Int) < (k : Int) + (m : Int) := by omega
          have pi' : i < k + m := hlt
          go_wp2_with fail
          refine (HOn.out i hlt _ (SH5.out.below hbel.out)).mono ?_
          rintro e w6 ⟨rfl, hb⟩
          have B6 := Lib.hid (hbel.out.trans (hb.mono hbel.out.size))
          have hcx := strs_getD ((ST5.out.below B6.out)) (i := i) (by rw [HLen.out]; exact hlt)
          rw [addr_head] at hcx
          have qx := text_eq ((allS k m s).getD i ⟨#[]⟩)
          generalize (allS k m s).getD i ⟨#[]⟩ = xs at hcx qx ⊢
          clear hb hbel
          go_wp2_with fail
          go_roundw
          case rel => exact ⟨i + 1, by omega, by go_num, B6.out⟩
          case measure => simp [intOf]; omega
        · obtain rfl : i = k + m := by omega
          obtain ⟨kk, hkk⟩ : ∃ kk, k = kk + 1 := ⟨k - 1, by omega⟩
          have hkz : (k : Int) - 1 = (kk : Int) := by omega
          have hkc : (kk : Int) ≤ (lcap : Int) := by omega
          have hc0 : ¬ lcap = 0 := by omega
          have hfw := fun W h => few_call (m := m) (s := s) (N := N.take kk) k1 hkm h400 (by rw [List.length_take]; omega) (fun x hx => HLt.out x (List.mem_of_mem_take hx)) (HNd.out.sublist (List.take_sublist kk N)) (some ⟨lg, 0, none⟩) lcap W h (by rw [List.length_take]; omega)
          have hlk : (N.take kk).length = kk := by rw [List.length_take, HNk.out]; omega
          rw [hlk] at hfw
          have HFw := Lib.hid hfw
          have SH6 := Lib.hid (pick_take (SH5.out.below hbel.out) kk (by rw [HNk.out]; omega))
          have B6 := Lib.hid (B5.out.trans (hbel.out.mono B5.out.size))
          clear hfw hlk hkk hbel
          go_wp2_with fail
          refine (HFw.out _ SH6.out).mono ?_
          rintro e w7 ⟨rfl, hb⟩
          have B7 := Lib.hid (B6.out.trans (hb.mono B6.out.size))
          clear hb
          go_wp2_with fail
          go_ret
          exact ⟨rfl, B7.out⟩

end Go.Proofs.Ytemcjnbgcecinaa
