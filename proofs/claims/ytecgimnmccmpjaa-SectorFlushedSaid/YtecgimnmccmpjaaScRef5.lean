/- What the document's device is when it is made; contract; no condition but the range. -/
import Derived.Test.YtecgimnmccmpjaaScRef2
import Derived.Test.YtecgimnmccmpjaaBkAppend
import Derived.Maps.AppendAt
import Derived.Test.YtecgimnmccmpjaaBkStr
import Derived.Test.YtecgimnmccmpjaaBkGrow
namespace Go.Proofs.Ytecgimnmccmpjaa
namespace Sc
open Go.RowKit Bk

attribute [local go_sem ↓] Go.wp_at_zero Go.wp_at_succ
attribute [local go_sem] floatUpon pick

/-- a device under way in block g, with rows of its own from X on -/
structure MkEnv (w W : World) (X g : Nat) (v1 v2 : Value) (l1 l2 : List ByteArray) : Prop where
  cel : Cel W g 38 [v1, v2, .int .i64 0, .bool false]
  r0 : W.ownsRow X 9 1 v1 l1.length (strV l1)
  r1 : W.ownsRow X 9 1 v2 l2.length (strV l2)
  d : Unlike v1 v2
  n0 : v1.ownBlock ≠ some g
  n1 : v2.ownBlock ≠ some g
  gx : X ≤ g
  bel : Below X w W

theorem MkEnv.lt {w W : World} {X g : Nat} {v1 v2 : Value} {l1 l2 : List ByteArray} (h : MkEnv w W X g v1 v2 l1 l2) : X ≤ W.heap.size := Nat.le_of_lt (Nat.lt_of_le_of_lt h.gx h.cel.lt)

theorem MkEnv.step {w W W' : World} {X g : Nat} {v1 v2 : Value} {l1 l2 : List ByteArray} (h : MkEnv w W X g v1 v2 l1 l2) (hb : Below W.heap.size W W') : MkEnv w W' X g v1 v2 l1 l2 :=
  ⟨h.cel.below hb, st_keep h.r0 hb, st_keep h.r1 hb, h.d, h.n0, h.n1, h.gx, h.bel.trans (hb.mono h.lt)⟩

theorem own_ne {W : World} {v v' : Value} {g : Nat} (hn : v.ownBlock ≠ some g) (hg : g < W.heap.size) (hat : v'.ownBlock = v.ownBlock ∨ v'.ownBlock = some W.heap.size) : v'.ownBlock ≠ some g := by
  rcases hat with h | h
  · rw [h]; exact hn
  · rw [h]; intro e; simp only [Option.some.injEq] at e; omega

theorem MkEnv.grow1 {w W W1 : World} {X g n' : Nat} {v1 v2 v' : Value} {l1 l1' l2 : List ByteArray} (h : MkEnv w W X g v1 v2 l1 l2) (ho : W1.ownsRow X 9 1 v' n' (strV l1')) (hl : n' = l1'.length) (hg : W.grownBy W1 v1.ownBlock) (hat : v'.ownBlock = v1.ownBlock ∨ v'.ownBlock = some W.heap.size) :
    Cel W1 g 38 [v1, v2, .int .i64 0, .bool false] ∧ MkEnv w (W1.setCell ⟨g, 0, none⟩ v') X g v' v2 l1' l2 := by
  subst hl
  have hc : Cel W1 g 38 [v1, v2, .int .i64 0, .bool false] := (hg.block g h.cel.lt (fun e => h.n0 e.symm)).trans h.cel
  have h2 := h.r1.kept hg h.d.symm.ne
  have hn := own_ne h.n0 h.cel.lt hat
  exact ⟨hc, hc.set, ownsRow_setCell_other ho hn _, ownsRow_setCell_other h2 h.n1 _, (h.d.symm.next (fun j hj => (h.r1.lt j hj).2) hat (Nat.le_refl _)).symm, hn, h.n1, h.gx, (h.bel.grown hg h.lt (fun k hk => (h.r0.lt k hk).1)).setCell h.gx _⟩

theorem MkEnv.grow2 {w W W1 : World} {X g n' : Nat} {v1 v2 v' : Value} {l1 l2 l2' : List ByteArray} (h : MkEnv w W X g v1 v2 l1 l2) (ho : W1.ownsRow X 9 1 v' n' (strV l2')) (hl : n' = l2'.length) (hg : W.grownBy W1 v2.ownBlock) (hat : v'.ownBlock = v2.ownBlock ∨ v'.ownBlock = some W.heap.size) :
    Cel W1 g 38 [v1, v2, .int .i64 0, .bool false] ∧ MkEnv w (W1.setCell ⟨g, 1, none⟩ v') X g v1 v' l1 l2' := by
  subst hl
  have hc : Cel W1 g 38 [v1, v2, .int .i64 0, .bool false] := (hg.block g h.cel.lt (fun e => h.n1 e.symm)).trans h.cel
  have h2 := h.r0.kept hg h.d.ne
  have hn := own_ne h.n1 h.cel.lt hat
  exact ⟨hc, hc.set, ownsRow_setCell_other h2 h.n0 _, ownsRow_setCell_other ho hn _, h.d.next (fun j hj => (h.r0.lt j hj).2) hat (Nat.le_refl _), h.n0, hn, h.gx, (h.bel.grown hg h.lt (fun k hk => (h.r1.lt k hk).1)).setCell h.gx _⟩

/-- a row of the call's own, as a block that is known whole -/
theorem own_cel {w : World} {H n : Nat} {e : TypeId} {v : Value} {l : List ByteArray} (h : w.ownsRow H e 1 v n (strV l)) (hn : n = l.length) (h0 : 0 < n) : ∃ b cap sp, v = .slice (some ⟨b, 0, none⟩) n cap ∧ Cel w b e (strV l ++ sp) ∧ H ≤ b := by
  rcases h.2 with ⟨h1, h2⟩ | ⟨g, cap, cur, h1, hH, hg, _, _, hcs, htake⟩
  · omega
  · refine ⟨g, cap, cur.toList.drop (n * 1), h1, ?_, hH⟩
    have : cur = (strV l ++ cur.toList.drop (n * 1)).toArray := by
      rw [← htake, List.take_append_drop]
    unfold Cel
    rw [← this]; exact hg

theorem MkEnv.done {w W : World} {g n : Nat} {v1 v2 : Value} (h : MkEnv w W g g v1 v2 (List.replicate n zero64) (List.replicate n nil0)) (hn : 0 < n) :
    ∃ (ao an : Addr) (co cn : Nat) (so sn : List Value), RAt W g ao an co cn so sn (new0 n) ∧ (∀ k, RFoot g ao an k → g ≤ k) := by
  obtain ⟨b, c1, s1, e1, hc1, hb1⟩ := own_cel h.r0 rfl (by simpa using hn)
  obtain ⟨b2, c2, s2, e2, hc2, hb2⟩ := own_cel h.r1 rfl (by simpa using hn)
  have hc := h.cel
  have d1 := h.n0
  have d2 := h.n1
  have d3 := h.d
  rw [e1] at hc d1 d3
  rw [e2] at hc d2 d3
  refine ⟨⟨b, 0, none⟩, ⟨b2, 0, none⟩, c1, c2, s1, s2, ⟨hc, rfl, rfl, hc1, hc2, fun e => d1 (by rw [e]; rfl), fun e => d2 (by rw [e]; rfl), fun e => d3 b rfl (by
    have e' : b = b2 := e
    rw [e']; rfl)⟩, fun k hk => ?_⟩
  rcases hk with rfl | rfl | rfl
  · exact Nat.le_refl _
  · exact hb1
  · exact hb2

theorem MkEnv.grK {w W W' : World} {X g : Nat} {v1 v2 : Value} {l1 l2 : List ByteArray} {u : Value} (h : MkEnv w W X g v1 v2 l1 l2) (hk : GrK 9 v1.ownBlock (strV l1) u W W') : MkEnv w W' X g v1 v2 l1 l2 :=
  ⟨GrK.cel h.cel h.n0 hk, GrK.first h.r0 hk, h.r1.kept hk.grown h.d.symm.ne, h.d, h.n0, h.n1, h.gx, GrK.below h.bel h.lt (fun k hk => (h.r0.lt k hk).1) hk⟩

def TIs (u v : Value) (_ : World) : Prop := v = u
def TArr (t : TypeId) (r : Option Nat) (u v : Value) (W : World) : Prop := ∃ o, v = .slice (some ⟨o, 0, none⟩) 1 1 ∧ W.heap[o]? = some (.cells #[u] t (0, 0)) ∧ r ≠ some o
def TRow (t : TypeId) (X b : Nat) (r : Option Nat) (n : Nat) (xs : List Value) (v : Value) (W : World) : Prop := W.ownsRow X t 1 v n xs ∧ (v.ownBlock = r ∨ ∃ p, v.ownBlock = some p ∧ b ≤ p)

/-- what Make answers -/
def MakeAns (n : Int) (w : World) : Ending → World → Prop := fun e w' =>
  (1 ≤ n ∧ n ≤ 2048 ∧ ∃ (g : Nat) (ao an : Addr) (co cn : Nat) (so sn : List Value), e = .returned (.tuple #[.pointer (some ⟨g, 0, none⟩), .int .i64 0]) ∧ RAt w' g ao an co cn so sn (new0 n.toNat) ∧ (∀ k, RFoot g ao an k → w.heap.size ≤ k) ∧ Below w.heap.size w w') ∨
  (¬ (1 ≤ n ∧ n ≤ 2048) ∧ e = .returned (.tuple #[.pointer none, .int .i64 1]) ∧ w' = w)

set_option maxRecDepth 20000 in
set_option maxHeartbeats 4000000 in
theorem rmake_any (n : Int) (w : World) : Calls Try.prog 8 #[.int .i64 n] w (MakeAns n w) := by
  by_cases h0 : n < 1
  · have HMk : Hid (MakeAns n w (.returned (.tuple #[.pointer none, .int .i64 1])) w) := Lib.hid (.inr ⟨by omega, rfl, rfl⟩)
    go_enter Try.func8, Try.ntmps8
    go_wp2_with fail
    go_ret2
    exact HMk.out
  by_cases h1 : 2048 < n
  · have HMk : Hid (MakeAns n w (.returned (.tuple #[.pointer none, .int .i64 1])) w) := Lib.hid (.inr ⟨by omega, rfl, rfl⟩)
    go_enter Try.func8, Try.ntmps8
    go_wp2_with fail
    go_ret2
    exact HMk.out
  obtain ⟨m, rfl⟩ : ∃ m : Nat, n = (m : Int) := ⟨n.toNat, by omega⟩
  obtain ⟨i0, hi, hz0, hz1, hz2⟩ := info_parts Try.infoStr
  have HNo := Lib.hid (fun W => none_any W)
  have HMk : Hid (∀ w' v1 v2, MkEnv w w' w.heap.size w.heap.size v1 v2 (List.replicate m zero64) (List.replicate m nil0) → MakeAns (m : Int) w (.returned (.tuple #[.pointer (some ⟨w.heap.size, 0, none⟩), .int .i64 0])) w') := Lib.hid (fun w' v1 v2 h => by
    obtain ⟨ao, an, co, cn, so, sn, hr, hf⟩ := h.done (by omega)
    exact .inl ⟨by omega, by omega, w.heap.size, ao, an, co, cn, so, sn, rfl, by rw [Int.toNat_natCast]; exact hr, hf, h.bel⟩)
  have pm : (m : Int) ≤ 2048 := by omega
  have hE0 : MkEnv w (w.alloc (.cells #[.slice none 0 0, .slice none 0 0, .int .i64 0, .bool false] 38)) w.heap.size w.heap.size (.slice none 0 0) (.slice none 0 0) (List.replicate 0 zero64) (List.replicate 0 nil0) :=
    ⟨(blk1 w _).2, World.ownsRow_nil _ _ _ _, World.ownsRow_nil _ _ _ _, fun j h => by simp [Value.ownBlock] at h, by simp [Value.ownBlock], by simp [Value.ownBlock], Nat.le_refl _, (Below.refl _ w).alloc (Nat.le_refl _) _⟩
  have HE0 := Lib.hid hE0
  clear hE0
  go_enter Try.func8, Try.ntmps8
  go_upto_region 4 with fail
  generalize w.alloc (.cells #[.slice none 0 0, .slice none 0 0, .int .i64 0, .bool false] 38) = W1 at HE0 ⊢
  generalize w.heap.size = g at HE0 HMk ⊢
  go_wp2_with fail
  go_loopw [5] (fun i wr => ∃ (j : Nat) (v1 v2 : Value), j ≤ m ∧ i = .int .i64 (j : Int) ∧ Hid (MkEnv w wr g g v1 v2 (List.replicate j zero64) (List.replicate j nil0))) (fun i _ => m - (intOf i).toNat)
  case atStart => exact ⟨0, _, _, by omega, rfl, HE0.out⟩
  case round =>
    obtain ⟨j, v1, v2, hj, rfl, hr⟩ := hrel
    clear HE0
    by_cases hlt : j < m
    · have pj : (j : Int) < (m : Int) := by omega
      go_upto_region 7 with fail
      have hl1 : (List.replicate j zero64).length = j := List.length_replicate ..
      have hl2 : (List.replicate j nil0).length = j := List.length_replicate ..
      have hs1 : strV (List.replicate (j + 1) zero64) = strV (List.replicate j zero64) ++ [.string zero64] := by
        rw [List.replicate_succ']; unfold strV; rw [List.map_append]; rfl
      have hs2 : strV (List.replicate (j + 1) nil0) = strV (List.replicate j nil0) ++ [.string nil0] := by
        rw [List.replicate_succ']; unfold strV; rw [List.map_append]; rfl
      have hpre : (strV (List.replicate j zero64)).length = j := by rw [strV_len, hl1]
      have HS := Lib.hid (And.intro hs1 hs2)
      have HL := Lib.hid (And.intro hl1 (And.intro hl2 hpre))
      clear hs1 hs2 hl1 hl2 hpre
      generalize hbs : wr.heap.size = bs
      have HBs := Lib.hid hbs
      clear hbs
      refine wp_region_saidK 8 [19, 20, 21, 22, 23, 24, 25, 26]
        [TIs (.pointer (some ⟨g, 0, none⟩)), TIs (.pointer (some ⟨g, 0, none⟩)), TIs (.pointer (some ⟨g, 0, none⟩)), TIs (.pointer (some ⟨g, 0, none⟩)), TIs v1, TIs (.string zero64), TArr 9 v1.ownBlock (.string zero64), TRow 9 g bs v1.ownBlock (j + 1) (strV (List.replicate j zero64) ++ [.string zero64])]
        (fun W => MkEnv w W g g v1 v2 (List.replicate j zero64) (List.replicate j nil0) ∧ bs ≤ W.heap.size) (GrK 9 v1.ownBlock (strV (List.replicate j zero64)) (.string zero64)) (by kernel_rfl) (by kernel_rfl) (by kernel_rfl) (by kernel_rfl) (by kernel_rfl)
        (satK_of fun S hS v W W' h hk => by
          simp only [List.mem_cons, List.not_mem_nil, or_false] at hS
          rcases hS with rfl | rfl | rfl | rfl | rfl | rfl | rfl | rfl
          · exact h
          · exact h
          · exact h
          · exact h
          · exact h
          · exact h
          · obtain ⟨o, h1, h2, h3⟩ := h
            exact ⟨o, h1, GrK.blk h2 h3 hk, h3⟩
          · exact ⟨GrK.more h.1 hk, h.2⟩)
        (fun W W' h hk => ⟨h.1.grK hk, Nat.le_trans h.2 hk.size⟩) (fun W => .inl (Below.refl _ W).drew) ⟨hr.out, Nat.le_of_eq HBs.out.symm⟩ ?steps7 ?last7
      case steps7 =>
        simp only [List.take_succ_cons, List.take_zero]
        refine ⟨?_, ?_, ?_, ?_, ?_, ?_, ?_, ?_, trivial⟩
        all_goals
          intro vs W ρ hρ hc hf hg hI hd R' hR
          have z0 := hI.1.cel.cell (i := 0) rfl
          have HR := Lib.hid hR
          have HI := Lib.hid hI
          simp [depsOf, Region.binds, satK, TIs] at hd
          clear hR hI
        case refine_7 =>
          go_simp
          refine HR.out _ _ ⟨W.heap.size, rfl, heap_alloc_new W _, fun e => ?_⟩ (.inl ((Below.refl _ _).alloc (Nat.le_refl _) _))
          have := (HI.out.1.r0.lt _ e).2
          omega
        case refine_8 =>
          obtain ⟨hd1, ⟨o, hd2, hd3, hd4⟩, hd5⟩ := hd
          have hr0 := HI.out.1.r0
          have hpre := HL.out.2.2
          rw [show (List.replicate j zero64).length = (strV (List.replicate j zero64)).length from by rw [HL.out.1, hpre]] at hr0
          obtain ⟨v', w', hrun, h2, h3, h4⟩ := run_grow1 (P := Try.prog) (bytes := 16) (t := 36) (ty := 36) Try.underlying36 hi hz0 hz1 hz2 rfl hr0 rfl hd3 rfl (by rw [hpre]; unfold maxLen; omega) (by rw [hpre]; omega) HI.out.1.lt
          have e0 : ρ (.tmp 23) = v1 := by rw [hρ]; simp [pick, hd1]
          have e2 : ρ (.tmp 25) = .slice (some ⟨o, 0, none⟩) 1 1 := by rw [hρ]; simp [pick, hd2]
          rw [if_pos (by simp [Region.wanted])]
          unfold execOp
          simp only [resolve, invoke, builtin, Sem.run_bind, Sem.run_pure, Result.andThen_ok, List.map_toArray, List.map_cons, List.map_nil, e0, e2, hrun, floatUpon]
          refine HR.out _ _ ⟨by rw [hpre] at h2; exact h2, ?_⟩ h3
          rcases h4 with h | h
          · exact .inl h
          · exact .inr ⟨_, h, HI.out.2⟩
        all_goals
          go_simp
          first
            | exact HR.out _ _ (by simp [satK, TIs]) (.inl (Below.refl _ _))
            | (refine (HNo.out _).mono ?_; rintro e w' ⟨rfl, hb⟩; exact ⟨_, rfl, HR.out _ _ (by simp [satK, TIs]) (.inl hb)⟩)
            | trace_state
      case last7 =>
        intro vs W hI hg
        have e0 := hg 0 (by omega)
        have e7 := hg 7 (by omega)
        simp only [satK, TIs, List.getD_cons_succ, List.getD_cons_zero] at e0 e7
        simp only [List.take_succ_cons, List.take_zero, List.drop_succ_cons, List.drop_zero, putAll, Act.put, List.setIfInBounds_toArray, List.set_cons_succ, List.set_cons_zero, Nat.zero_add, Nat.reduceAdd]
        obtain ⟨hown', hat⟩ := e7
        rw [e0]
        rw [← HS.out.1] at hown'
        obtain ⟨gw, cw, hvv, _, _⟩ := World.ownsRow.form hown' (by omega)
        have hf1 := hI.1.cel.cell (i := 0) rfl
        have hf2 := hI.1.cel.free (i := 0)
        have hgl : g < bs := by have h1 := hr.out.cel.lt; have h2 := HBs.out; omega
        have HE : Hid (MkEnv w (W.setCell ⟨g, 0, none⟩ (vs 7)) g g (vs 7) v2 (List.replicate (j + 1) zero64) (List.replicate j nil0)) := Lib.hid (by
          have hn : (vs 7).ownBlock ≠ some g := by
            rcases hat with h | ⟨p, h, hp⟩
            · rw [h]; exact hI.1.n0
            · rw [h]; intro e; simp only [Option.some.injEq] at e; omega
          refine ⟨hI.1.cel.set, ?_, ownsRow_setCell_other hI.1.r1 hI.1.n1 _, ?_, hn, hI.1.n1, hI.1.gx, hI.1.bel.setCell hI.1.gx _⟩
          · rw [List.length_replicate]; exact ownsRow_setCell_other hown' hn _
          · intro k hk1 hk2
            rcases hat with h | ⟨p, h, hp⟩
            · rw [h] at hk1; exact hI.1.d k hk1 hk2
            · rw [h] at hk1
              simp only [Option.some.injEq] at hk1
              have h1 := (hr.out.r1.lt k hk2).2
              have h2 := HBs.out
              omega)
        clear hown' hat hI hg e0 hr hgl
        rw [hvv] at HE ⊢
        clear hvv
        go_upto_region 8 with fail
        obtain ⟨u1, hu1⟩ : ∃ u, u = Value.slice (some ⟨gw, 0, none⟩) (j + 1) cw := ⟨_, rfl⟩
        rw [← hu1] at HE ⊢
        generalize W.setCell ⟨g, 0, none⟩ u1 = W2 at HE ⊢
        clear hf1 hf2 hu1
        have k1 := HE.out.cel.cell (i := 1) rfl
        have hr2 := HE.out.r1
        rw [HL.out.2.1] at hr2
        have HR2 := Lib.hid hr2
        clear hr2
        go_wp2_with (at_builtin; refine wpList_append_own_at _ rfl _ _ 36 rfl g 9 i0 (.string ⟨#[]⟩) 1 16 Try.underlying36 hi hz0 hz1 hz2 rfl (by decide) _ _ _ rfl (st_keep HR2.out ((Below.refl _ W2).alloc (Nat.le_refl _) _)) ⟨W2.heap.size, 0, none⟩ 1 1 [.string ⟨#[]⟩] rfl rfl ?b1 ?b2 ?b3 ?b4 (Nat.le_trans HE.out.lt (by simp)) ?_)
        case b1 => exact str_one (heap_alloc_new _ _)
        case b2 => intro q hq; simp at hq; subst hq; rfl
        case b3 => unfold maxLen; omega
        case b4 => omega
        intro v2' w6 hown' hgrow _ hat
        have hS2 := HS.out.2
        unfold nil0 at hS2
        unfold nil0 at hown'
        rw [← hS2] at hown'
        obtain ⟨gw2, cw2, hvv, _, _⟩ := World.ownsRow.form hown' (by omega)
        have hst := HE.out.step ((Below.refl _ W2).alloc (Nat.le_refl _) (.cells #[.string ⟨#[]⟩] 9))
        obtain ⟨hce, hme⟩ := MkEnv.grow2 (l2' := List.replicate (j + 1) nil0) hst hown' (by simp) hgrow (by rcases hat with h | h; exact .inl h; exact .inr (by rw [h]; simp))
        have hf1 := hce.cell (i := 1) rfl
        have hf2 := hce.free (i := 1)
        have HE2 := Lib.hid hme
        subst hvv
        clear hown' hgrow hat hst hce hme HE HR2 k1 hS2
        go_upto_region 6 with fail
        obtain ⟨u2, hu2⟩ : ∃ u, u = Value.slice (some ⟨gw2, 0, none⟩) (j + 1) cw2 := ⟨_, rfl⟩
        rw [← hu2] at HE2 ⊢
        generalize w6.setCell ⟨g, 1, none⟩ u2 = W3 at HE2 ⊢
        clear hf1 hf2 hu2
        go_wp2_with fail
        go_roundw
        case rel => exact ⟨j + 1, u1, u2, by omega, by go_num, HE2.out⟩
        case measure => simp [intOf]; omega
    · obtain rfl : j = m := by omega
      have HE := hr
      clear hr
      go_wp2_with fail
      go_ret2
      exact HMk.out _ _ _ HE.out

end Sc
end Go.Proofs.Ytecgimnmccmpjaa
