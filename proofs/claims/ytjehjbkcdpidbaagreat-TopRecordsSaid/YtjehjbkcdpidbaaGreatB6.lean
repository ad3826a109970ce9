/- Parts of the proof, joined: ScRef5, RdRef1, ScView, RdRef2, RdLog, RdRoom, RdSet; their conditions stand with each. -/
import Derived.Maps.AppendAt
import Derived.Test.YtjehjbkcdpidbaaGreatB3
import Derived.Test.YtjehjbkcdpidbaaGreatB4
import Derived.Test.YtjehjbkcdpidbaaGreatB5

/- What the document's device is when it is made; contract; no condition but the range. -/
namespace Go.Proofs.YtjehjbkcdpidbaaGreat
namespace Sc
open Go.RowKit Bk

attribute [local go_sem ↓] Go.wp_at_zero Go.wp_at_succ
attribute [local go_sem] floatUpon pick

/-- a device under way in block g, with rows of its own from X on -/
structure MkEnv (w W : World) (X g : Nat) (v1 v2 : Value) (l1 l2 : List ByteArray) : Prop where
  cel : Cel W g 67 [v1, v2, .int .i64 0, .bool false]
  r0 : W.ownsRow X 9 1 v1 l1.length (strV l1)
  r1 : W.ownsRow X 9 1 v2 l2.length (strV l2)
  d : Unlike v1 v2
  n0 : v1.ownBlock ≠ some g
  n1 : v2.ownBlock ≠ some g
  gx : X ≤ g
  bel : Below X w W

theorem MkEnv.lt {w W : World} {X g : Nat} {v1 v2 : Value} {l1 l2 : List ByteArray} (h : MkEnv w W X g v1 v2 l1 l2) : X ≤ W.heap.size := Nat.le_of_lt (Nat.lt_of_le_of_lt h.gx h.cel.lt)

theorem MkEnv.step {w W W' : World} {X g : Nat} {v1 v2 : Value} {l1 l2 : List ByteArray} (h : MkEnv w W X g v1 v2 l1 l2) (hb : Below W.heap.size W W') : MkEnv w W' X g v1 v2 l1 l2 :=
  ⟨h.cel.below hb, st_keep h.r0 hb, st_keep h.r1 hb, h.d, h.n0, h.n1, h.gx, h.bel.trans (hb.mono h.lt)⟩

theorem own_ne {W : World} {v v' : Value} {g : Nat} (hn : v.ownBlock ≠ some g) (hg : g < W.heap.size) (hat : v'.ownBlock = v.ownBlock ∨ v'.ownBlock = some W.heap.size) : v'.ownBlock ≠ some g := by
  rcases hat with h | h
  · rw [h]; exact hn
  · rw [h]; intro e; simp only [Option.some.injEq] at e; omega

theorem MkEnv.grow1 {w W W1 : World} {X g n' : Nat} {v1 v2 v' : Value} {l1 l1' l2 : List ByteArray} (h : MkEnv w W X g v1 v2 l1 l2) (ho : W1.ownsRow X 9 1 v' n' (strV l1')) (hl : n' = l1'.length) (hg : W.grownBy W1 v1.ownBlock) (hat : v'.ownBlock = v1.ownBlock ∨ v'.ownBlock = some W.heap.size) :
    Cel W1 g 67 [v1, v2, .int .i64 0, .bool false] ∧ MkEnv w (W1.setCell ⟨g, 0, none⟩ v') X g v' v2 l1' l2 := by
  subst hl
  have hc : Cel W1 g 67 [v1, v2, .int .i64 0, .bool false] := (hg.block g h.cel.lt (fun e => h.n0 e.symm)).trans h.cel
  have h2 := h.r1.kept hg h.d.symm.ne
  have hn := own_ne h.n0 h.cel.lt hat
  exact ⟨hc, hc.set, ownsRow_setCell_other ho hn _, ownsRow_setCell_other h2 h.n1 _, (h.d.symm.next (fun j hj => (h.r1.lt j hj).2) hat (Nat.le_refl _)).symm, hn, h.n1, h.gx, (h.bel.grown hg h.lt (fun k hk => (h.r0.lt k hk).1)).setCell h.gx _⟩

theorem MkEnv.grow2 {w W W1 : World} {X g n' : Nat} {v1 v2 v' : Value} {l1 l2 l2' : List ByteArray} (h : MkEnv w W X g v1 v2 l1 l2) (ho : W1.ownsRow X 9 1 v' n' (strV l2')) (hl : n' = l2'.length) (hg : W.grownBy W1 v2.ownBlock) (hat : v'.ownBlock = v2.ownBlock ∨ v'.ownBlock = some W.heap.size) :
    Cel W1 g 67 [v1, v2, .int .i64 0, .bool false] ∧ MkEnv w (W1.setCell ⟨g, 1, none⟩ v') X g v1 v' l1 l2' := by
  subst hl
  have hc : Cel W1 g 67 [v1, v2, .int .i64 0, .bool false] := (hg.block g h.cel.lt (fun e => h.n1 e.symm)).trans h.cel
  have h2 := h.r0.kept hg h.d.ne
  have hn := own_ne h.n1 h.cel.lt hat
  exact ⟨hc, hc.set, ownsRow_setCell_other h2 h.n0 _, ownsRow_setCell_other ho hn _, h.d.next (fun j hj => (h.r0.lt j hj).2) hat (Nat.le_refl _), h.n0, hn, h.gx, (h.bel.grown hg h.lt (fun k hk => (h.r1.lt k hk).1)).setCell h.gx _⟩

/-- a row of the call's own, as a block that is known whole -/
theorem own_cel {w : World} {H n : Nat} {e : TypeId} {v : Value} {l : List ByteArray} (h : w.ownsRow H e 1 v n (strV l)) (hn : n = l.length) (h0 : 0 < n) : ∃ b cap sp, v = .slice (some ⟨b, 0, none⟩) n cap ∧ Cel w b e (strV l ++ sp) ∧ H ≤ b := by
  rcases h.2 with ⟨h1, h2⟩ | ⟨g, cap, cur, h1, hH, hg, _, _, hcs, htake⟩
  · omega
  · refine ⟨g, cap, cur.toList.drop (n * 1), h1, ?_, hH⟩
    have : cur = (strV l ++ cur.toList.drop (n * 1)).toArray := by
      rw [← htake, List.take_append_drop]
    unfold Cel
    rw [← this]; exact hg

theorem MkEnv.done {w W : World} {g n : Nat} {v1 v2 : Value} (h : MkEnv w W g g v1 v2 (List.replicate n zero64) (List.replicate n nil0)) (hn : 0 < n) :
    ∃ (ao an : Addr) (co cn : Nat) (so sn : List Value), RAt W g ao an co cn so sn (new0 n) ∧ (∀ k, RFoot g ao an k → g ≤ k) := by
  obtain ⟨b, c1, s1, e1, hc1, hb1⟩ := own_cel h.r0 rfl (by simpa using hn)
  obtain ⟨b2, c2, s2, e2, hc2, hb2⟩ := own_cel h.r1 rfl (by simpa using hn)
  have hc := h.cel
  have d1 := h.n0
  have d2 := h.n1
  have d3 := h.d
  rw [e1] at hc d1 d3
  rw [e2] at hc d2 d3
  refine ⟨⟨b, 0, none⟩, ⟨b2, 0, none⟩, c1, c2, s1, s2, ⟨hc, rfl, rfl, hc1, hc2, fun e => d1 (by rw [e]; rfl), fun e => d2 (by rw [e]; rfl), fun e => d3 b rfl (by
    have e' : b = b2 := e
    rw [e']; rfl)⟩, fun k hk => ?_⟩
  rcases hk with rfl | rfl | rfl
  · exact Nat.le_refl _
  · exact hb1
  · exact hb2

theorem MkEnv.grK {w W W' : World} {X g : Nat} {v1 v2 : Value} {l1 l2 : List ByteArray} {u : Value} (h : MkEnv w W X g v1 v2 l1 l2) (hk : GrK 9 v1.ownBlock (strV l1) u W W') : MkEnv w W' X g v1 v2 l1 l2 :=
  ⟨GrK.cel h.cel h.n0 hk, GrK.first h.r0 hk, h.r1.kept hk.grown h.d.symm.ne, h.d, h.n0, h.n1, h.gx, GrK.below h.bel h.lt (fun k hk => (h.r0.lt k hk).1) hk⟩

def TIs (u v : Value) (_ : World) : Prop := v = u
def TArr (t : TypeId) (r : Option Nat) (u v : Value) (W : World) : Prop := ∃ o, v = .slice (some ⟨o, 0, none⟩) 1 1 ∧ W.heap[o]? = some (.cells #[u] t (0, 0)) ∧ r ≠ some o
def TRow (t : TypeId) (X b : Nat) (r : Option Nat) (n : Nat) (xs : List Value) (v : Value) (W : World) : Prop := W.ownsRow X t 1 v n xs ∧ (v.ownBlock = r ∨ ∃ p, v.ownBlock = some p ∧ b ≤ p)

/-- what Make answers -/
def MakeAns (n : Int) (w : World) : Ending → World → Prop := fun e w' =>
  (1 ≤ n ∧ n ≤ 2048 ∧ ∃ (g : Nat) (ao an : Addr) (co cn : Nat) (so sn : List Value), e = .returned (.tuple #[.pointer (some ⟨g, 0, none⟩), .int .i64 0]) ∧ RAt w' g ao an co cn so sn (new0 n.toNat) ∧ (∀ k, RFoot g ao an k → w.heap.size ≤ k) ∧ Below w.heap.size w w') ∨
  (¬ (1 ≤ n ∧ n ≤ 2048) ∧ e = .returned (.tuple #[.pointer none, .int .i64 1]) ∧ w' = w)

set_option maxRecDepth 20000 in
set_option maxHeartbeats 4000000 in
theorem rmake_any (n : Int) (w : World) : Calls Tryz.prog 6 #[.int .i64 n] w (MakeAns n w) := by
  by_cases h0 : n < 1
  · have HMk : Hid (MakeAns n w (.returned (.tuple #[.pointer none, .int .i64 1])) w) := Lib.hid (.inr ⟨by omega, rfl, rfl⟩)
    go_enter Tryz.func6, Tryz.ntmps6
    go_wp2_with fail
    go_ret2
    exact HMk.out
  by_cases h1 : 2048 < n
  · have HMk : Hid (MakeAns n w (.returned (.tuple #[.pointer none, .int .i64 1])) w) := Lib.hid (.inr ⟨by omega, rfl, rfl⟩)
    go_enter Tryz.func6, Tryz.ntmps6
    go_wp2_with fail
    go_ret2
    exact HMk.out
  obtain ⟨m, rfl⟩ : ∃ m : Nat, n = (m : Int) := ⟨n.toNat, by omega⟩
  obtain ⟨i0, hi, hz0, hz1, hz2⟩ := info_parts Tryz.infoStr
  have HNo := Lib.hid (fun W => none_any W)
  have HMk : Hid (∀ w' v1 v2, MkEnv w w' w.heap.size w.heap.size v1 v2 (List.replicate m zero64) (List.replicate m nil0) → MakeAns (m : Int) w (.returned (.tuple #[.pointer (some ⟨w.heap.size, 0, none⟩), .int .i64 0])) w') := Lib.hid (fun w' v1 v2 h => by
    obtain ⟨ao, an, co, cn, so, sn, hr, hf⟩ := h.done (by omega)
    exact .inl ⟨by omega, by omega, w.heap.size, ao, an, co, cn, so, sn, rfl, by rw [Int.toNat_natCast]; exact hr, hf, h.bel⟩)
  have pm : (m : Int) ≤ 2048 := by omega
  have hE0 : MkEnv w (w.alloc (.cells #[.slice none 0 0, .slice none 0 0, .int .i64 0, .bool false] 67)) w.heap.size w.heap.size (.slice none 0 0) (.slice none 0 0) (List.replicate 0 zero64) (List.replicate 0 nil0) :=
    ⟨(blk1 w _).2, World.ownsRow_nil _ _ _ _, World.ownsRow_nil _ _ _ _, fun j h => by simp [Value.ownBlock] at h, by simp [Value.ownBlock], by simp [Value.ownBlock], Nat.le_refl _, (Below.refl _ w).alloc (Nat.le_refl _) _⟩
  have HE0 := Lib.hid hE0
  clear hE0
  go_enter Tryz.func6, Tryz.ntmps6
  go_upto_region 4 with fail
  generalize w.alloc (.cells #[.slice none 0 0, .slice none 0 0, .int .i64 0, .bool false] 67) = W1 at HE0 ⊢
  generalize w.heap.size = g at HE0 HMk ⊢
  go_wp2_with fail
  go_loopw [5] (fun i wr => ∃ (j : Nat) (v1 v2 : Value), j ≤ m ∧ i = .int .i64 (j : Int) ∧ Hid (MkEnv w wr g g v1 v2 (List.replicate j zero64) (List.replicate j nil0))) (fun i _ => m - (intOf i).toNat)
  case atStart => exact ⟨0, _, _, by omega, rfl, HE0.out⟩
  case round =>
    obtain ⟨j, v1, v2, hj, rfl, hr⟩ := hrel
    clear HE0
    by_cases hlt : j < m
    · have pj : (j : Int) < (m : Int) := by omega
      go_upto_region 7 with fail
      have hl1 : (List.replicate j zero64).length = j := List.length_replicate ..
      have hl2 : (List.replicate j nil0).length = j := List.length_replicate ..
      have hs1 : strV (List.replicate (j + 1) zero64) = strV (List.replicate j zero64) ++ [.string zero64] := by
        rw [List.replicate_succ']; unfold strV; rw [List.map_append]; rfl
      have hs2 : strV (List.replicate (j + 1) nil0) = strV (List.replicate j nil0) ++ [.string nil0] := by
        rw [List.replicate_succ']; unfold strV; rw [List.map_append]; rfl
      have hpre : (strV (List.replicate j zero64)).length = j := by rw [strV_len, hl1]
      have HS := Lib.hid (And.intro hs1 hs2)
      have HL := Lib.hid (And.intro hl1 (And.intro hl2 hpre))
      clear hs1 hs2 hl1 hl2 hpre
      generalize hbs : wr.heap.size = bs
      have HBs := Lib.hid hbs
      clear hbs
      refine wp_region_saidK 8 [19, 20, 21, 22, 23, 24, 25, 26]
        [TIs (.pointer (some ⟨g, 0, none⟩)), TIs (.pointer (some ⟨g, 0, none⟩)), TIs (.pointer (some ⟨g, 0, none⟩)), TIs (.pointer (some ⟨g, 0, none⟩)), TIs v1, TIs (.string zero64), TArr 9 v1.ownBlock (.string zero64), TRow 9 g bs v1.ownBlock (j + 1) (strV (List.replicate j zero64) ++ [.string zero64])]
        (fun W => MkEnv w W g g v1 v2 (List.replicate j zero64) (List.replicate j nil0) ∧ bs ≤ W.heap.size) (GrK 9 v1.ownBlock (strV (List.replicate j zero64)) (.string zero64)) (by kernel_rfl) (by kernel_rfl) (by kernel_rfl) (by kernel_rfl) (by kernel_rfl)
        (satK_of fun S hS v W W' h hk => by
          simp only [List.mem_cons, List.not_mem_nil, or_false] at hS
          rcases hS with rfl | rfl | rfl | rfl | rfl | rfl | rfl | rfl
          · exact h
          · exact h
          · exact h
          · exact h
          · exact h
          · exact h
          · obtain ⟨o, h1, h2, h3⟩ := h
            exact ⟨o, h1, GrK.blk h2 h3 hk, h3⟩
          · exact ⟨GrK.more h.1 hk, h.2⟩)
        (fun W W' h hk => ⟨h.1.grK hk, Nat.le_trans h.2 hk.size⟩) (fun W => .inl (Below.refl _ W).drew) ⟨hr.out, Nat.le_of_eq HBs.out.symm⟩ ?steps7 ?last7
      case steps7 =>
        simp only [List.take_succ_cons, List.take_zero]
        refine ⟨?_, ?_, ?_, ?_, ?_, ?_, ?_, ?_, trivial⟩
        all_goals
          intro vs W ρ hρ hc hf hg hI hd R' hR
          have z0 := hI.1.cel.cell (i := 0) rfl
          have HR := Lib.hid hR
          have HI := Lib.hid hI
          simp [depsOf, Region.binds, satK, TIs] at hd
          clear hR hI
        case refine_7 =>
          go_simp
          refine HR.out _ _ ⟨W.heap.size, rfl, heap_alloc_new W _, fun e => ?_⟩ (.inl ((Below.refl _ _).alloc (Nat.le_refl _) _))
          have := (HI.out.1.r0.lt _ e).2
          omega
        case refine_8 =>
          obtain ⟨hd1, ⟨o, hd2, hd3, hd4⟩, hd5⟩ := hd
          have hr0 := HI.out.1.r0
          have hpre := HL.out.2.2
          rw [show (List.replicate j zero64).length = (strV (List.replicate j zero64)).length from by rw [HL.out.1, hpre]] at hr0
          obtain ⟨v', w', hrun, h2, h3, h4⟩ := run_grow1 (P := Tryz.prog) (bytes := 16) (t := 37) (ty := 37) Tryz.underlying37 hi hz0 hz1 hz2 rfl hr0 rfl hd3 rfl (by rw [hpre]; unfold maxLen; omega) (by rw [hpre]; omega) HI.out.1.lt
          have e0 : ρ (.tmp 23) = v1 := by rw [hρ]; simp [pick, hd1]
          have e2 : ρ (.tmp 25) = .slice (some ⟨o, 0, none⟩) 1 1 := by rw [hρ]; simp [pick, hd2]
          rw [if_pos (by simp [Region.wanted])]
          unfold execOp
          simp only [resolve, invoke, builtin, Sem.run_bind, Sem.run_pure, Result.andThen_ok, List.map_toArray, List.map_cons, List.map_nil, e0, e2, hrun, floatUpon]
          refine HR.out _ _ ⟨by rw [hpre] at h2; exact h2, ?_⟩ h3
          rcases h4 with h | h
          · exact .inl h
          · exact .inr ⟨_, h, HI.out.2⟩
        all_goals
          go_simp
          first
            | exact HR.out _ _ (by simp [satK, TIs]) (.inl (Below.refl _ _))
            | (refine (HNo.out _).mono ?_; rintro e w' ⟨rfl, hb⟩; exact ⟨_, rfl, HR.out _ _ (by simp [satK, TIs]) (.inl hb)⟩)
            | trace_state
      case last7 =>
        intro vs W hI hg
        have e0 := hg 0 (by omega)
        have e7 := hg 7 (by omega)
        simp only [satK, TIs, List.getD_cons_succ, List.getD_cons_zero] at e0 e7
        simp only [List.take_succ_cons, List.take_zero, List.drop_succ_cons, List.drop_zero, putAll, Act.put, List.setIfInBounds_toArray, List.set_cons_succ, List.set_cons_zero, Nat.zero_add, Nat.reduceAdd]
        obtain ⟨hown', hat⟩ := e7
        rw [e0]
        rw [← HS.out.1] at hown'
        obtain ⟨gw, cw, hvv, _, _⟩ := World.ownsRow.form hown' (by omega)
        have hf1 := hI.1.cel.cell (i := 0) rfl
        have hf2 := hI.1.cel.free (i := 0)
        have hgl : g < bs := by have h1 := hr.out.cel.lt; have h2 := HBs.out; omega
        have HE : Hid (MkEnv w (W.setCell ⟨g, 0, none⟩ (vs 7)) g g (vs 7) v2 (List.replicate (j + 1) zero64) (List.replicate j nil0)) := Lib.hid (by
          have hn : (vs 7).ownBlock ≠ some g := by
            rcases hat with h | ⟨p, h, hp⟩
            · rw [h]; exact hI.1.n0
            · rw [h]; intro e; simp only [Option.some.injEq] at e; omega
          refine ⟨hI.1.cel.set, ?_, ownsRow_setCell_other hI.1.r1 hI.1.n1 _, ?_, hn, hI.1.n1, hI.1.gx, hI.1.bel.setCell hI.1.gx _⟩
          · rw [List.length_replicate]; exact ownsRow_setCell_other hown' hn _
          · intro k hk1 hk2
            rcases hat with h | ⟨p, h, hp⟩
            · rw [h] at hk1; exact hI.1.d k hk1 hk2
            · rw [h] at hk1
              simp only [Option.some.injEq] at hk1
              have h1 := (hr.out.r1.lt k hk2).2
              have h2 := HBs.out
              omega)
        clear hown' hat hI hg e0 hr hgl
        rw [hvv] at HE ⊢
        clear hvv
        go_upto_region 8 with fail
        obtain ⟨u1, hu1⟩ : ∃ u, u = Value.slice (some ⟨gw, 0, none⟩) (j + 1) cw := ⟨_, rfl⟩
        rw [← hu1] at HE ⊢
        generalize W.setCell ⟨g, 0, none⟩ u1 = W2 at HE ⊢
        clear hf1 hf2 hu1
        have k1 := HE.out.cel.cell (i := 1) rfl
        have hr2 := HE.out.r1
        rw [HL.out.2.1] at hr2
        have HR2 := Lib.hid hr2
        clear hr2
        go_wp2_with (at_builtin; refine wpList_append_own_at _ rfl _ _ 37 rfl g 9 i0 (.string ⟨#[]⟩) 1 16 Tryz.underlying37 hi hz0 hz1 hz2 rfl (by decide) _ _ _ rfl (st_keep HR2.out ((Below.refl _ W2).alloc (Nat.le_refl _) _)) ⟨W2.heap.size, 0, none⟩ 1 1 [.string ⟨#[]⟩] rfl rfl ?b1 ?b2 ?b3 ?b4 (Nat.le_trans HE.out.lt (by simp)) ?_)
        case b1 => exact str_one (heap_alloc_new _ _)
        case b2 => intro q hq; simp at hq; subst hq; rfl
        case b3 => unfold maxLen; omega
        case b4 => omega
        intro v2' w6 hown' hgrow _ hat
        have hS2 := HS.out.2
        unfold nil0 at hS2
        unfold nil0 at hown'
        rw [← hS2] at hown'
        obtain ⟨gw2, cw2, hvv, _, _⟩ := World.ownsRow.form hown' (by omega)
        have hst := HE.out.step ((Below.refl _ W2).alloc (Nat.le_refl _) (.cells #[.string ⟨#[]⟩] 9))
        obtain ⟨hce, hme⟩ := MkEnv.grow2 (l2' := List.replicate (j + 1) nil0) hst hown' (by simp) hgrow (by rcases hat with h | h; exact .inl h; exact .inr (by rw [h]; simp))
        have hf1 := hce.cell (i := 1) rfl
        have hf2 := hce.free (i := 1)
        have HE2 := Lib.hid hme
        subst hvv
        clear hown' hgrow hat hst hce hme HE HR2 k1 hS2
        go_upto_region 6 with fail
        obtain ⟨u2, hu2⟩ : ∃ u, u = Value.slice (some ⟨gw2, 0, none⟩) (j + 1) cw2 := ⟨_, rfl⟩
        rw [← hu2] at HE2 ⊢
        generalize w6.setCell ⟨g, 1, none⟩ u2 = W3 at HE2 ⊢
        clear hf1 hf2 hu2
        go_wp2_with fail
        go_roundw
        case rel => exact ⟨j + 1, u1, u2, by omega, by go_num, HE2.out⟩
        case measure => simp [intOf]; omega
    · obtain rfl : j = m := by omega
      have HE := hr
      clear hr
      go_wp2_with fail
      go_ret2
      exact HMk.out _ _ _ HE.out

end Sc
end Go.Proofs.YtjehjbkcdpidbaaGreat

/- What the document's own log reads of a sector, and of an area; contracts; no condition but the range. -/
namespace Go.Proofs.YtjehjbkcdpidbaaGreat
namespace Rd
open Go.RowKit Sc Bk

attribute [local go_sem ↓] Go.wp_at_zero Go.wp_at_succ
attribute [local go_sem] floatUpon pick

/-- how many bytes an area has -/
def areaN (D : Dev) : Nat := (D.on.length - 2) / 2 * 64

theorem wrap_num {x : Nat} (h : x < 256 ^ 8) : (IntKind.i64.wrap (x : Int) = (x : Int) ∧ x ≤ 9223372036854775807) ∨ (IntKind.i64.wrap (x : Int) < 0 ∧ 9223372036854775807 < x) := by
  simp only [IntKind.wrap, IntKind.bits, IntKind.signed]; simp; omega

section
variable {w : World} {g : Nat} {ao an : Addr} {co cn : Nat} {so sn : List Value} {D : Dev}

set_option maxRecDepth 20000 in
set_option maxHeartbeats 1000000 in
theorem rarea_any (h : RAt w g ao an co cn so sn D) (hok : DevOk D) (h2 : 2 ≤ D.on.length) :
    Calls Tryz.prog 66 #[.pointer (some ⟨g, 0, none⟩)] w fun e w' => e = .returned (.int .i64 (areaN D : Int)) ∧ w' = w := by
  have k0 := h.cel.cell (i := 0) rfl
  have hmx := hok.max
  obtain ⟨x, hx⟩ : ∃ x, x = (D.on.length - 2) / 2 := ⟨_, rfl⟩
  have e2 : ((D.on.length : Int) - 2).tdiv 2 = (x : Int) := by rw [Int.tdiv_eq_ediv_of_nonneg (by omega)]; omega
  have e3 : (x : Int) * 64 = (areaN D : Int) := by unfold areaN; omega
  have b1 : x ≤ 1024 := by omega
  clear hx
  go_enter Tryz.func66, Tryz.ntmps66
  go_wp2_with fail
  go_ret
  exact ⟨by rw [← e3]; rfl, rfl⟩

theorem results_tmp4 {fn : Func} {t u v x : Tmp} (h : fn.results = #[.tmp t, .tmp u, .tmp v, .tmp x]) (tmps : Array Value) (P : Program) (w : World) :
    (results fn tmps).run P w = .ok (.tuple #[tmps.getD t undef, tmps.getD u undef, tmps.getD v undef, tmps.getD x undef]) w := by
  simp [results, h]

theorem u8_i64 (b : UInt8) : IntKind.i64.wrap (b.toNat : Int) = (b.toNat : Int) := by
  have := b.toNat_lt
  exact i64_wrap (by omega) (by omega)

set_option maxRecDepth 20000 in
set_option maxHeartbeats 4000000 in
theorem rhd_any (h : RAt w g ao an co cn so sn D) (hok : DevOk D) (h2 : 2 ≤ D.on.length) (s : ByteArray) (hs : s.size = 64) :
    Calls Tryz.prog 59 #[.pointer (some ⟨g, 0, none⟩), .string s] w fun e w' => e = .returned (.tuple #[.int .i64 (IntKind.i64.wrap (cOf s.data.toList : Int)), .int .i64 (aOf s.data.toList : Int), .int .i64 (IntKind.i64.wrap (lOf s.data.toList : Int)), .bool (decide (okH (areaN D) s.data.toList))]) ∧ Below w.heap.size w w' := by
  have hsl : s.data.toList.length = 64 := by rw [Array.length_toList]; exact hs
  have HAr := Lib.hid (fun V (hv : RAt V g ao an co cn so sn D) => rarea_any hv hok h2)
  have hm1 := fun W => str_mid s 4 12 (by omega) (by omega) 4 12 rfl rfl W
  have hm2 := fun W => str_mid s 13 21 (by omega) (by omega) 13 21 rfl rfl W
  obtain ⟨b, hb⟩ : ∃ b, s.data.toList[12]? = some b := ⟨_, List.getElem?_eq_getElem (by omega)⟩
  have hix := fun W => str_at s 12 b hb 12 rfl W
  have hcl : cOf s.data.toList < 256 ^ 8 := numB_lt 8 _ (by rw [List.length_take, List.length_drop]; omega)
  have hll : lOf s.data.toList < 256 ^ 8 := numB_lt 8 _ (by rw [List.length_take, List.length_drop]; omega)
  have hab : areaN D ≤ 65536 := by have := hok.max; unfold areaN; omega
  have haO : aOf s.data.toList = b.toNat := by unfold aOf; rw [List.getD_eq_getElem?_getD, hb]; rfl
  have hn1 := fun W => rnumber_any ⟨((s.data.toList.drop 4).take (12 - 4)).toArray⟩ W (by rw [text_size, List.length_take, List.length_drop]; omega)
  have hn2 := fun W => rnumber_any ⟨((s.data.toList.drop 13).take (21 - 13)).toArray⟩ W (by rw [text_size, List.length_take, List.length_drop]; omega)
  have q1 : numB ((⟨((s.data.toList.drop 4).take (12 - 4)).toArray⟩ : ByteArray).data.toList) = cOf s.data.toList := rfl
  have q2 : numB ((⟨((s.data.toList.drop 13).take (21 - 13)).toArray⟩ : ByteArray).data.toList) = lOf s.data.toList := rfl
  rw [q1] at hn1
  rw [q2] at hn2
  have HOk := Lib.hid (show okH (areaN D) s.data.toList ↔ 1 ≤ cOf s.data.toList ∧ cOf s.data.toList ≤ 4611686018427387904 ∧ aOf s.data.toList ≤ 1 ∧ lOf s.data.toList ≤ areaN D ∧ s = headB (cOf s.data.toList) (aOf s.data.toList) (lOf s.data.toList) from by
    unfold okH
    have : s.data.toList = headL (cOf s.data.toList) (aOf s.data.toList) (lOf s.data.toList) ↔ s = headB (cOf s.data.toList) (aOf s.data.toList) (lOf s.data.toList) := by
      constructor
      · intro e
        unfold headB
        apply ByteArray.ext
        apply Array.toList_inj.1
        simpa using e
      · intro e
        have := congrArg (fun t : ByteArray => t.data.toList) e
        simpa [headB] using this
    rw [this])
  have hcw := wrap_num hcl
  have hlw := wrap_num hll
  have hbl := b.toNat_lt
  have hb8 := u8_i64 b
  obtain ⟨z, hz⟩ : ∃ z, z = decide (okH (areaN D) s.data.toList) := ⟨_, rfl⟩
  rw [← hz]
  have HZ := Lib.hid (show z = decide (1 ≤ cOf s.data.toList ∧ cOf s.data.toList ≤ 4611686018427387904 ∧ aOf s.data.toList ≤ 1 ∧ lOf s.data.toList ≤ areaN D ∧ s = headB (cOf s.data.toList) (aOf s.data.toList) (lOf s.data.toList)) from by rw [hz]; exact decide_eq_decide.2 HOk.out)
  clear HOk hz
  rw [haO] at HZ ⊢
  have HN1 := Lib.hid hn1
  have HN2 := Lib.hid hn2
  clear hn1 hn2 q1 q2 hb hcl hll haO
  generalize cOf s.data.toList = c at *
  generalize lOf s.data.toList = l at *
  generalize (⟨((s.data.toList.drop 4).take (12 - 4)).toArray⟩ : ByteArray) = S1 at hm1 HN1
  generalize (⟨((s.data.toList.drop 13).take (21 - 13)).toArray⟩ : ByteArray) = S2 at hm2 HN2
  generalize areaN D = ab at *
  generalize IntKind.i64.wrap (c : Int) = cI at hcw HN1 ⊢
  generalize IntKind.i64.wrap (l : Int) = lI at hlw HN2 ⊢
  have HCw := Lib.hid hcw
  have HLw := Lib.hid hlw
  have hbl2 : b.toNat ≤ 255 := by omega
  have HM := Lib.hid (And.intro hm1 (And.intro hm2 (And.intro hix hb8)))
  clear hcw hlw hbl hm1 hm2 hix hb8 hsl
  go_enter Tryz.func59, Tryz.ntmps59
  go_upto_region 1 with fail
  refine wp_region_said 12 [12, 13, 14, 15, 16, 17, 18, 19, 20, 8, 9, 10]
    [.is (.string s), .is (.string S1), .is (.int .i64 cI), .is (.string s), .is (.int .u8 (b.toNat : Int)), .is (.int .i64 (b.toNat : Int)), .is (.string s), .is (.string S2), .is (.int .i64 lI), .is (.int .i64 cI), .is (.int .i64 (b.toNat : Int)), .is (.int .i64 lI)]
    (fun W => RAt W g ao an co cn so sn D) (by kernel_rfl) (by kernel_rfl) (by kernel_rfl) (by kernel_rfl) (by kernel_rfl) (fun W W' hI hb => hI.step hb) h ?steps ?last
  case steps =>
    simp only [List.take_succ_cons, List.take_zero]
    refine ⟨?_, ?_, ?_, ?_, ?_, ?_, ?_, ?_, ?_, ?_, ?_, ?_, trivial⟩
    all_goals
      intro vs W ρ hρ hc hf hg hI hH hd R' hR
      obtain ⟨hm1, hm2, hix, hb8⟩ := HM.out
      have HR := Lib.hid hR
      simp [depsOf, Region.binds, sayAt, Say.holds] at hd
      clear hR
    case refine_3 =>
      go_simp
      refine (HN1.out _).mono ?_
      rintro e w' ⟨rfl, rfl⟩
      exact ⟨_, rfl, HR.out _ _ (by simp [sayAt, Say.holds]) (Below.refl _ _) (by simp [sayAt, Say.isBlk])⟩
    case refine_9 =>
      go_simp
      refine (HN2.out _).mono ?_
      rintro e w' ⟨rfl, rfl⟩
      exact ⟨_, rfl, HR.out _ _ (by simp [sayAt, Say.holds]) (Below.refl _ _) (by simp [sayAt, Say.isBlk])⟩
    all_goals
      go_simp
      first
        | exact HR.out _ _ (by simp [sayAt, Say.holds]) (Below.refl _ _) (by simp [sayAt, Say.isBlk])
        | trace_state
  case last =>
    intro vs W hI hb hg hd
    have g2 := hg 9 (by omega)
    have g5 := hg 10 (by omega)
    have g8 := hg 11 (by omega)
    simp only [sayAt, Say.holds, List.getD_cons_succ, List.getD_cons_zero] at g2 g5 g8
    simp only [List.take_succ_cons, List.take_zero, List.drop_succ_cons, List.drop_zero, putAll, Act.put, List.setIfInBounds_toArray, List.set_cons_succ, List.set_cons_zero, Nat.zero_add, Nat.reduceAdd]
    simp only [g2, g5, g8]
    have HB := Lib.hid hb
    have HI := Lib.hid hI
    clear g2 g5 g8 hg hd hb hI h HN1 HN2 HM
    go_upto_region 2 with fail
    by_cases c1 : 1 ≤ cI
    rotate_left
    · have hz : z = false := by
        rw [HZ.out]; refine decide_eq_false fun hh => ?_
        have q1 := HCw.out; have q2 := HLw.out
        omega
      subst hz
      go_wp2_with (first | (refine (HAr.out _ HI.out).mono ?_; rintro e w1 ⟨rfl, rfl⟩) | fail)
      (try simp only [Exit.inBlock, Exit.then])
      refine bodyPost_ret (results_tmp4 rfl _ _ _) rfl ?_
      exact ⟨rfl, HB.out⟩
    by_cases c2 : cI ≤ 4611686018427387904
    rotate_left
    · have hz : z = false := by
        rw [HZ.out]; refine decide_eq_false fun hh => ?_
        have q1 := HCw.out; have q2 := HLw.out
        omega
      subst hz
      go_wp2_with (first | (refine (HAr.out _ HI.out).mono ?_; rintro e w1 ⟨rfl, rfl⟩) | fail)
      (try simp only [Exit.inBlock, Exit.then])
      refine bodyPost_ret (results_tmp4 rfl _ _ _) rfl ?_
      exact ⟨rfl, HB.out⟩
    by_cases c3 : (b.toNat : Int) ≤ 1
    rotate_left
    · have hz : z = false := by
        rw [HZ.out]; refine decide_eq_false fun hh => ?_
        have q1 := HCw.out; have q2 := HLw.out
        omega
      subst hz
      go_wp2_with (first | (refine (HAr.out _ HI.out).mono ?_; rintro e w1 ⟨rfl, rfl⟩) | fail)
      (try simp only [Exit.inBlock, Exit.then])
      refine bodyPost_ret (results_tmp4 rfl _ _ _) rfl ?_
      exact ⟨rfl, HB.out⟩
    by_cases c4 : 0 ≤ lI
    rotate_left
    · have hz : z = false := by
        rw [HZ.out]; refine decide_eq_false fun hh => ?_
        have q1 := HCw.out; have q2 := HLw.out
        omega
      subst hz
      go_wp2_with (first | (refine (HAr.out _ HI.out).mono ?_; rintro e w1 ⟨rfl, rfl⟩) | fail)
      (try simp only [Exit.inBlock, Exit.then])
      refine bodyPost_ret (results_tmp4 rfl _ _ _) rfl ?_
      exact ⟨rfl, HB.out⟩
    by_cases c5 : lI ≤ (ab : Int)
    rotate_left
    · have hz : z = false := by
        rw [HZ.out]; refine decide_eq_false fun hh => ?_
        have q1 := HCw.out; have q2 := HLw.out
        omega
      subst hz
      go_wp2_with (first | (refine (HAr.out _ HI.out).mono ?_; rintro e w1 ⟨rfl, rfl⟩) | fail)
      (try simp only [Exit.inBlock, Exit.then])
      refine bodyPost_ret (results_tmp4 rfl _ _ _) rfl ?_
      exact ⟨rfl, HB.out⟩
    obtain rfl : cI = (c : Int) := by have := HCw.out; omega
    obtain rfl : lI = (l : Int) := by have := HLw.out; omega
    have hrh := fun V => rhead_any c b.toNat l V (by omega) (by omega) (by omega)
    have HRh := Lib.hid hrh
    have hz : z = decide (s = headB c b.toNat l) := by
      rw [HZ.out]; exact decide_eq_decide.2 ⟨fun hh => hh.2.2.2.2, fun hh => ⟨by omega, by omega, by omega, by omega, hh⟩⟩
    by_cases he : s = headB c b.toNat l
    · rw [decide_eq_true he] at hz
      subst hz
      rw [← he] at HRh
      have q := text_eq s
      clear he HZ hrh HCw HLw
      go_wp2_with fail
      refine (HAr.out _ HI.out).mono ?_
      rintro e w1 ⟨rfl, rfl⟩
      go_wp2_with fail
      refine (HRh.out _).mono ?_
      rintro e w2 ⟨rfl, hb⟩
      have HB2 := Lib.hid (HB.out.trans (hb.mono HB.out.size))
      clear hb
      go_wp2_with fail
      (try simp only [Exit.inBlock, Exit.then])
      refine bodyPost_ret (results_tmp4 rfl _ _ _) rfl ?_
      exact ⟨rfl, HB2.out⟩
    · rw [decide_eq_false he] at hz
      subst hz
      have q := text_ne he
      generalize headB c b.toNat l = hd at HRh q
      clear he HZ hrh HCw HLw
      go_wp2_with fail
      refine (HAr.out _ HI.out).mono ?_
      rintro e w1 ⟨rfl, rfl⟩
      go_wp2_with fail
      refine (HRh.out _).mono ?_
      rintro e w2 ⟨rfl, hb⟩
      have HB2 := Lib.hid (HB.out.trans (hb.mono HB.out.size))
      clear hb
      go_wp2_with fail
      (try simp only [Exit.inBlock, Exit.then])
      refine bodyPost_ret (results_tmp4 rfl _ _ _) rfl ?_
      exact ⟨rfl, HB2.out⟩


end

end Rd
end Go.Proofs.YtjehjbkcdpidbaaGreat

/- What follows of a device's calls: without a fuse, behind a flush, under a fuse; no condition. -/
namespace Go.Proofs.YtjehjbkcdpidbaaGreat
namespace Sc

/-- up, and without a fuse -/
def Idle (D : Dev) : Prop := D.left = 0 ∧ D.down = false

theorem new0_idle (n : Nat) : Idle (new0 n) := ⟨rfl, rfl⟩

theorem burn_idle {D : Dev} (h : Idle D) : burn D = (D, false) := by unfold burn; rw [if_pos h.1]

theorem rd_up {D : Dev} (hd : D.down = false) {k : Nat} (hk : k < D.on.length) : rdV D (k : Int) = (flushF D k, 0) := by
  unfold rdV flushF
  rw [if_neg (by rw [hd]; simp), if_neg (by omega), Int.toNat_natCast]

theorem wr_up {D : Dev} (hd : D.down = false) {k : Nat} (hk : k < D.on.length) {t : ByteArray} (ht : t.size = 64) :
    wrD D (k : Int) t = if (burn D).2 = true then ((burn D).1, 90) else (⟨D.on, D.new.set k t, (burn D).1.left, (burn D).1.down⟩, 0) := by
  unfold wrD
  rw [rd_up hd hk, if_neg (by simp), if_neg (by simpa using ht), Int.toNat_natCast]

theorem wr_idle {D : Dev} (h : Idle D) {k : Nat} (hk : k < D.on.length) {t : ByteArray} (ht : t.size = 64) : wrD D (k : Int) t = (⟨D.on, D.new.set k t, 0, false⟩, 0) := by
  rw [wr_up h.2 hk ht, burn_idle h, if_neg (by simp), h.1, h.2]

theorem fl_idle {D : Dev} (h : Idle D) : flD D = (⟨upd D.on D.on.length (flushF D), upd D.new D.on.length (fun _ => nil0), 0, false⟩, 0) := by
  unfold flD
  rw [if_neg (by rw [h.2]; simp), burn_idle h, if_neg (by simp), h.1, h.2]

theorem not_nil {t : ByteArray} (ht : t.size = 64) : t ≠ nil0 := fun e => by rw [e] at ht; cases ht

/-- what is seen behind a write -/
theorem view_set {D : Dev} {k i : Nat} (hk : k < D.new.length) {t : ByteArray} (ht : t.size = 64) (l : Nat) (b : Bool) : flushF ⟨D.on, D.new.set k t, l, b⟩ i = if i = k then t else flushF D i := by
  unfold flushF
  simp only
  by_cases e : i = k
  · subst e
    rw [if_pos rfl, List.getD_eq_getElem?_getD, List.getElem?_set_self hk]
    simp only [Option.getD_some]
    rw [if_neg (not_nil ht)]
  · rw [if_neg e, List.getD_eq_getElem?_getD, List.getElem?_set_ne (Ne.symm e), ← List.getD_eq_getElem?_getD]

theorem upd_getD {l : List ByteArray} {f : Nat → ByteArray} {i : Nat} (h : i < l.length) : (upd l l.length f).getD i nil0 = f i := by
  rw [getD_at (by rw [upd_len]; exact h), upd_at _ h, if_pos h]

theorem nil_getD (l : List ByteArray) (i : Nat) : (upd l l.length (fun _ => nil0)).getD i nil0 = nil0 := by
  rw [upd_all, List.getD_eq_getElem?_getD, List.getElem?_replicate]
  split <;> rfl

/-- what is seen where nothing waits -/
theorem view_clean {on new : List ByteArray} (hl : new.length = on.length) {f : Nat → ByteArray} {i : Nat} (h : i < on.length) (l : Nat) (b : Bool) : flushF ⟨upd on on.length f, upd new on.length (fun _ => nil0), l, b⟩ i = f i := by
  unfold flushF
  simp only
  rw [← hl, nil_getD, if_pos rfl, hl, upd_getD h]

theorem cnt_nil (l : List ByteArray) (i : Nat) : cnt (upd l l.length (fun _ => nil0)) i = 0 := by
  unfold cnt
  rw [upd_all, List.take_replicate, List.length_eq_zero_iff, List.filter_eq_nil_iff]
  intro s hs
  rw [List.eq_of_mem_replicate hs]
  simp

theorem dirty_clean {on new : List ByteArray} (hl : new.length = on.length) (on' : List ByteArray) (l : Nat) (b : Bool) : dirtyN ⟨on', upd new on.length (fun _ => nil0), l, b⟩ = 0 := by
  unfold dirtyN
  simp only
  rw [← hl]; exact cnt_nil _ _

/-- a device in whose cache nothing lies -/
def Clean (D : Dev) : Prop := ∀ i, D.new.getD i nil0 = nil0

theorem fl_clean {D : Dev} (hl : D.new.length = D.on.length) (l : Nat) (b : Bool) : Clean ⟨upd D.on D.on.length (flushF D), upd D.new D.on.length (fun _ => nil0), l, b⟩ := fun i => by
  show (upd D.new D.on.length _).getD i nil0 = nil0
  rw [← hl]; exact nil_getD _ _

theorem cr_clean {D : Dev} (hl : D.new.length = D.on.length) (ps : List Int) : Clean (crD D ps) := fun i => by
  show (upd D.new D.on.length _).getD i nil0 = nil0
  rw [← hl]; exact nil_getD _ _

/-- a crash turns nothing where nothing waits -/
theorem cr_view {D : Dev} (hl : D.new.length = D.on.length) (hc : Clean D) (ps : List Int) {i : Nat} (h : i < D.on.length) : flushF (crD D ps) i = flushF D i := by
  unfold crD
  rw [view_clean hl h]
  unfold tearF flushF
  rw [hc i, if_pos rfl, if_pos rfl]

/-- behind a crash what is seen is what was torn -/
theorem cr_tear {D : Dev} (hl : D.new.length = D.on.length) (ps : List Int) {i : Nat} (h : i < D.on.length) : flushF (crD D ps) i = tearF D ps i := by
  unfold crD
  exact view_clean hl h _ _

theorem cr_len (D : Dev) (ps : List Int) : (crD D ps).on.length = D.on.length := upd_len _ _ _
theorem cr_idle (D : Dev) (ps : List Int) : Idle (crD D ps) := ⟨rfl, rfl⟩
theorem cr_dirty {D : Dev} (hl : D.new.length = D.on.length) (ps : List Int) : dirtyN (crD D ps) = 0 := dirty_clean hl _ _ _
theorem wi_dirty {D : Dev} (hl : D.new.length = D.on.length) : dirtyN (wiD D) = 0 := dirty_clean hl _ _ _
theorem wi_read {D : Dev} (hl : D.new.length = D.on.length) {k : Nat} (hk : k < D.on.length) : rdV (wiD D) (k : Int) = (zero64, 0) := by
  rw [rd_up (D := wiD D) rfl (by show k < (upd _ _ _).length; rw [upd_len]; exact hk)]
  unfold wiD
  rw [view_clean hl hk]

/-! ### under a fuse -/

/-- k writes and flushes behind the laying of a fuse of m -/
def FzAt (D : Dev) (m k : Nat) : Prop := (k < m ∧ D.down = false ∧ D.left = m - k) ∨ (m ≤ k ∧ D.down = true)

theorem burn_fz {D : Dev} {m k : Nat} (hk : k < m) (_hd : D.down = false) (hl : D.left = m - k) : (burn D).2 = decide (m = k + 1) ∧ FzAt (burn D).1 m (k + 1) ∧ (burn D).1.down = decide (m = k + 1) ∧ (burn D).1.left = m - (k + 1) := by
  unfold burn
  rw [if_neg (by omega)]
  have e : (D.left == 1) = decide (m = k + 1) := by
    rw [Bool.eq_iff_iff]; simp; omega
  simp only [e]
  refine ⟨trivial, ?_, trivial, by omega⟩
  by_cases h : m = k + 1
  · right; exact ⟨by omega, by simp [h]⟩
  · left; exact ⟨by omega, by simp [h], by simp; omega⟩

theorem wr_fz {D : Dev} {m k : Nat} (h : FzAt D m k) {i : Nat} (hi : i < D.on.length) {t : ByteArray} (ht : t.size = 64) : (wrD D (i : Int) t).2 = (if k + 1 < m then 0 else 90) ∧ FzAt (wrD D (i : Int) t).1 m (k + 1) ∧ (wrD D (i : Int) t).1.on.length = D.on.length := by
  rcases h with ⟨h1, h2, h3⟩ | ⟨h1, h2⟩
  · obtain ⟨b1, b2, b3, b4⟩ := burn_fz h1 h2 h3
    rw [wr_up h2 hi ht]
    by_cases e : m = k + 1
    · rw [if_pos (by rw [b1]; simp [e]), if_neg (by omega)]
      exact ⟨rfl, b2, by rw [(burn_parts D).1]⟩
    · rw [if_neg (by rw [b1]; simp [e]), if_pos (by omega)]
      exact ⟨rfl, .inl ⟨by omega, by show (burn D).1.down = false; rw [b3]; simp [e], b4⟩, rfl⟩
  · have e : wrD D (i : Int) t = (D, 90) := by
      unfold wrD rdV
      rw [if_pos h2]; rfl
    rw [e, if_neg (by omega)]
    exact ⟨rfl, .inr ⟨by omega, h2⟩, rfl⟩

theorem fl_fz {D : Dev} {m k : Nat} (h : FzAt D m k) : (flD D).2 = (if k + 1 < m then 0 else 90) ∧ FzAt (flD D).1 m (k + 1) ∧ (flD D).1.on.length = D.on.length := by
  unfold flD
  rcases h with ⟨h1, h2, h3⟩ | ⟨h1, h2⟩
  · obtain ⟨b1, b2, b3, b4⟩ := burn_fz h1 h2 h3
    rw [if_neg (by rw [h2]; simp)]
    by_cases e : m = k + 1
    · rw [if_pos (by rw [b1]; simp [e]), if_neg (by omega)]
      exact ⟨rfl, b2, by rw [(burn_parts D).1]⟩
    · rw [if_neg (by rw [b1]; simp [e]), if_pos (by omega)]
      exact ⟨rfl, .inl ⟨by omega, by show (burn D).1.down = false; rw [b3]; simp [e], b4⟩, upd_len _ _ _⟩
  · rw [if_pos h2, if_neg (by omega)]
    exact ⟨rfl, .inr ⟨by omega, h2⟩, rfl⟩

theorem down_read {D : Dev} (h : D.down = true) (i : Int) : rdV D i = (nil0, 90) := by unfold rdV; rw [if_pos h]
theorem down_fuse {D : Dev} (h : D.down = true) (n : Int) : fuD D n = (D, 90) := by unfold fuD; rw [if_pos h]
theorem fuse_up {D : Dev} (h : D.down = false) {m : Nat} (hm : m ≤ 1048576) : fuD D (m : Int) = (⟨D.on, D.new, m, D.down⟩, 0) := by
  unfold fuD
  rw [if_neg (by rw [h]; simp), if_neg (by omega), Int.toNat_natCast]

end Sc
end Go.Proofs.YtjehjbkcdpidbaaGreat

/- What the document's own log reads of an area; contract; no condition but the range. -/
namespace Go.Proofs.YtjehjbkcdpidbaaGreat
namespace Rd
open Go.RowKit Sc Bk

attribute [local go_sem ↓] Go.wp_at_zero Go.wp_at_succ
attribute [local go_sem] floatUpon pick

theorem list_sum2 (X Y : List UInt8) (h : X.length + Y.length ≤ 1000000000) (W : World) : (Op.stringOp .add ⟨X.toArray⟩ ⟨Y.toArray⟩).run Tryz.prog W = .ok (.string ⟨(X ++ Y).toArray⟩) W := by
  have h1 : (⟨X.toArray⟩ : ByteArray).size = X.length := text_size X
  have h2 : (⟨Y.toArray⟩ : ByteArray).size = Y.length := text_size Y
  rw [run_string_add_sum W _ _ (by omega), ByteArray.mk_append_mk]

/-- where an area begins -/
def areaAt (D : Dev) (a : Nat) : Nat := 2 + a * (areaN D / 64)

/-- what is seen of an area's first sectors, and of its first bytes -/
def catS (D : Dev) (a i : Nat) : List UInt8 := (List.range i).flatMap fun k => (flushF D (areaAt D a + k)).data.toList
def storedL (D : Dev) (a l : Nat) : List UInt8 := (catS D a ((l + 63) / 64)).take l

theorem catS_succ (D : Dev) (a i : Nat) : catS D a (i + 1) = catS D a i ++ (flushF D (areaAt D a + i)).data.toList := by
  unfold catS; rw [List.range_succ, List.flatMap_append]; simp

theorem area_fit {D : Dev} (h : 4 ≤ D.on.length) {a k : Nat} (ha : a ≤ 1) (hk : k < areaN D / 64) : areaAt D a + k < D.on.length := by
  unfold areaAt areaN at *
  rw [Nat.mul_div_cancel _ (by omega)] at *
  have : a = 0 ∨ a = 1 := by omega
  rcases this with rfl | rfl <;> omega

theorem catS_len {D : Dev} (hok : DevOk D) (h : 4 ≤ D.on.length) {a : Nat} (ha : a ≤ 1) : ∀ i, i ≤ areaN D / 64 → (catS D a i).length = 64 * i
  | 0, _ => rfl
  | i + 1, hi => by
    have h64 : (flushF D (areaAt D a + i)).data.toList.length = 64 := by rw [Array.length_toList]; exact flush64 hok (area_fit h ha (by omega))
    rw [catS_succ, List.length_append, catS_len hok h ha i (by omega), h64]
    omega

section
variable {w : World} {g : Nat} {ao an : Addr} {co cn : Nat} {so sn : List Value} {D : Dev}

set_option maxRecDepth 20000 in
set_option maxHeartbeats 4000000 in
theorem rstored_any (h : RAt w g ao an co cn so sn D) (hok : DevOk D) (h4 : 4 ≤ D.on.length) (hup : D.down = false) (a l : Nat) (ha : a ≤ 1) (hl : l ≤ areaN D) :
    Calls Tryz.prog 63 #[.pointer (some ⟨g, 0, none⟩), .int .i64 (a : Int), .int .i64 (l : Int)] w fun e w' => e = .returned (.string ⟨(storedL D a l).toArray⟩) ∧ w' = w := by
  have har := rarea_any h hok (by omega)
  have hab : areaN D ≤ 65536 := by have := hok.max; unfold areaN; omega
  have hdv : areaN D / 64 * 64 = areaN D := by unfold areaN; omega
  obtain ⟨m, hm⟩ : ∃ m, m = areaN D / 64 := ⟨_, rfl⟩
  obtain ⟨x, hx0⟩ : ∃ x, x = a * m := ⟨_, rfl⟩
  obtain ⟨n, hn⟩ : ∃ n, n = (l + 63) / 64 := ⟨_, rfl⟩
  have hat : areaAt D a = 2 + x := by rw [hx0, hm]; rfl
  have HRd := Lib.hid (fun (i : Nat) (hi : i < m) => show Calls Tryz.prog 30 #[.pointer (some ⟨g, 0, none⟩), .int .i64 (2 + (x : Int) + (i : Int))] w fun e w' => e = .returned (.tuple #[.string (flushF D (areaAt D a + i)), .int .i64 0]) ∧ w' = w from by
    have := rread_any h hok (((areaAt D a + i : Nat) : Int))
    rw [rd_up hup (area_fit h4 ha (by rw [← hm]; exact hi))] at this
    have e : ((areaAt D a + i : Nat) : Int) = 2 + (x : Int) + (i : Int) := by rw [hat]; omega
    rw [e] at this
    exact this)
  have HLen := Lib.hid (fun i (hi : i ≤ m) => catS_len hok h4 ha i (by rw [← hm]; exact hi))
  have HFl := Lib.hid (fun i (hi : i < m) => show (flushF D (areaAt D a + i)).data.toList.length = 64 from by rw [Array.length_toList]; exact flush64 hok (area_fit h4 ha (by rw [← hm]; exact hi)))
  have hb0 : 0 ≤ (a : Int) * (areaN D : Int) := Int.mul_nonneg (by omega) (by omega)
  have ha2 : a = 0 ∨ a = 1 := by omega
  have hb1 : (a : Int) * (areaN D : Int) ≤ 65536 := by
    rcases ha2 with rfl | rfl <;> omega
  have hq : ((a : Int) * (areaN D : Int)).tdiv 64 = (x : Int) := by
    rw [Int.tdiv_eq_ediv_of_nonneg hb0, hx0, hm]
    rcases ha2 with rfl | rfl <;> omega
  have hx : x ≤ 1024 := by
    rw [hx0, hm]
    rcases ha2 with rfl | rfl <;> omega
  have HAr := Lib.hid har
  have HCat := Lib.hid (fun i => catS_succ D a i)
  have HSt := Lib.hid (show storedL D a l = (catS D a n).take l from by rw [hn]; rfl)
  have hnm : n ≤ m := by rw [hn, hm]; omega
  have hm1024 : m ≤ 1024 := by omega
  have HLn := Lib.hid (fun (i : Nat) => show (64 * i < l ↔ i < n) from by omega)
  have HN := Lib.hid (show l ≤ 64 * n from by omega)
  generalize storedL D a l = res at HSt ⊢
  generalize areaN D = ab at *
  clear hx0 hat ha2 hup
  clear har hm hn h hok h4 hdv
  go_enter Tryz.func63, Tryz.ntmps63
  go_wp2_with fail
  go_loopw [7, 8] (fun u c wr => ∃ (i : Nat) (s : ByteArray), i ≤ n ∧ u = .string s ∧ c = .int .i64 (i : Int) ∧ wr = w ∧ Hid (s = ⟨(catS D a i).toArray⟩)) (fun _ c _ => n - (intOf c).toNat)
  case atStart => exact ⟨0, ⟨#[]⟩, by omega, rfl, rfl, rfl, rfl⟩
  case round =>
    obtain ⟨i, s, hi, rfl, rfl, rfl, hs⟩ := hrel
    have hz : s.size = 64 * i := by rw [hs.out, text_size, HLen.out i (by omega)]
    by_cases hlt : i < n
    · have plt : (s.size : Int) < (l : Int) := by have := (HLn.out i).2 hlt; omega
      have hi2 : i ≤ 1024 := by omega
      have hrd := HRd.out i (by omega)
      have hadd := fun W => list_sum2 (catS D a i) (flushF D (areaAt D a + i)).data.toList (by rw [HLen.out i (by omega), HFl.out i (by omega)]; omega) W
      rw [← HCat.out i, ← hs.out] at hadd
      have hT : (⟨(flushF D (areaAt D a + i)).data.toList.toArray⟩ : ByteArray) = flushF D (areaAt D a + i) := rfl
      rw [hT] at hadd
      generalize flushF D (areaAt D a + i) = t at hrd hadd
      obtain ⟨s2, hs2⟩ : ∃ s2 : ByteArray, s2 = ⟨(catS D a (i + 1)).toArray⟩ := ⟨_, rfl⟩
      rw [← hs2] at hadd
      have HS2 := Lib.hid hs2
      have HRd2 := Lib.hid hrd
      clear hs2 hT hrd
      go_wp2_with fail
      refine HAr.out.mono ?_
      rintro e w1 ⟨rfl, rfl⟩
      go_wp2_with fail
      refine HRd2.out.mono ?_
      rintro e w2 ⟨rfl, rfl⟩
      go_wp2_with fail
      go_roundw
      case rel => exact ⟨i + 1, s2, by omega, rfl, by go_num, trivial, HS2.out⟩
      case measure => simp [intOf]; omega
    · obtain rfl : i = n := by omega
      have plt : ¬ (s.size : Int) < (l : Int) := by have := HN.out; omega
      have hto := fun W => str_to s l (by have := HN.out; omega) (l : Int) rfl W
      have e : (⟨(s.data.toList.take l).toArray⟩ : ByteArray) = ⟨res.toArray⟩ := by rw [HSt.out, hs.out]
      rw [e] at hto
      clear e
      go_wp2_with fail
      go_ret
      exact ⟨rfl, rfl⟩

end

end Rd
end Go.Proofs.YtjehjbkcdpidbaaGreat

/- The document's own log in the memory; what waits, and how much room there is; contracts; no condition but the range. -/
namespace Go.Proofs.YtjehjbkcdpidbaaGreat
namespace Rd
open Go.RowKit Sc Bk

attribute [local go_sem ↓] Go.wp_at_zero Go.wp_at_succ
attribute [local go_sem] floatUpon pick

/-- a log: its count, its area, its bytes, its texts, how many of them are synced -/
structure Lg where
  cnt : Nat
  ar : Nat
  bs : List UInt8
  ts : List ByteArray
  mn : Nat

/-- frames of texts from one place up to another -/
def frs (ts : List ByteArray) (a b : Nat) : List UInt8 := ((ts.take b).drop a).flatMap fun s => Su.frameL s.data.toList
def waitL (l : Lg) : List UInt8 := frs l.ts l.mn l.ts.length

theorem frs_same (ts : List ByteArray) (a : Nat) : frs ts a a = [] := by
  unfold frs
  rw [List.drop_of_length_le (by rw [List.length_take]; omega)]; rfl

theorem frs_succ {ts : List ByteArray} {a b : Nat} (h : a ≤ b) (hb : b < ts.length) : frs ts a (b + 1) = frs ts a b ++ Su.frameL ts[b].data.toList := by
  unfold frs
  rw [List.take_add_one, List.getElem?_eq_getElem hb, List.drop_append_of_le_length (by rw [List.length_take]; omega), List.flatMap_append]
  simp

theorem frs_le {ts : List ByteArray} {a b : Nat} (h : a ≤ b) : ∀ n, b + n ≤ ts.length → (frs ts a b).length ≤ (frs ts a (b + n)).length
  | 0, _ => Nat.le_refl _
  | n + 1, hn => by
    have h1 := frs_le (ts := ts) h n (by omega)
    have h2 := frs_succ (ts := ts) (a := a) (b := b + n) (by omega) (by omega)
    rw [show b + (n + 1) = b + n + 1 by omega, h2, List.length_append]
    omega

/-- a log in block k, over the device in block g -/
structure LAt (w : World) (k g : Nat) (A : Option Addr) (c : Nat) (l : Lg) : Prop where
  cel : Cel w k 73 [.pointer (some ⟨g, 0, none⟩), .int .i64 (l.cnt : Int), .int .i64 (l.ar : Int), .string ⟨l.bs.toArray⟩, .slice A l.ts.length c, .int .i64 (l.mn : Int)]
  strs : StrsAt w A l.ts
  nk : 0 < l.ts.length → ∀ a, A = some a → a.block ≠ k

section
variable {w w' : World} {k g : Nat} {A : Option Addr} {c : Nat} {l : Lg}

theorem LAt.below (h : LAt w k g A c l) (hb : Below w.heap.size w w') : LAt w' k g A c l := ⟨h.cel.below hb, h.strs.below hb, h.nk⟩

/-- it stays where its blocks stay -/
theorem LAt.fr {F G : Nat → Prop} (h : LAt w k g A c l) (hf : Fr F G w w') (hk : ¬ F k) (hA : 0 < l.ts.length → ∀ a, A = some a → ¬ F a.block) : LAt w' k g A c l := by
  refine ⟨(hf.block k h.cel.lt hk).trans h.cel, fun hp => ?_, h.nk⟩
  obtain ⟨ad, e, hl, hc⟩ := h.strs hp
  refine ⟨ad, e, Nat.lt_of_lt_of_le hl hf.size, fun i hi => ?_⟩
  have hkp : w'.heap[(ad.add i).block]? = w.heap[(ad.add i).block]? := by rw [st_block]; exact hf.block _ hl (hA hp ad e)
  rw [show w'.cell? (ad.add i) = w.cell? (ad.add i) from by unfold World.cell?; rw [hkp]]
  exact hc i hi

set_option maxRecDepth 20000 in
set_option maxHeartbeats 4000000 in
theorem rwaiting_any (h : LAt w k g A c l) (hm : l.mn ≤ l.ts.length) (hn : l.ts.length ≤ 1000000000) (hz : (waitL l).length ≤ 10000000) :
    Calls Tryz.prog 67 #[.pointer (some ⟨k, 0, none⟩)] w fun e w' => e = .returned (.string ⟨(waitL l).toArray⟩) ∧ Below w.heap.size w w' := by
  have H := Lib.hid h
  have k4 := h.cel.cell (i := 4) rfl
  have k5 := h.cel.cell (i := 5) rfl
  have HOne := Lib.hid (fun s V (hs : s.size ≤ 1000000000000000) => Su.rone_any s V hs)
  have HLe := Lib.hid (fun b (h1 : l.mn ≤ b) (h2 : b ≤ l.ts.length) => show (frs l.ts l.mn b).length ≤ 10000000 from by
    have := frs_le (ts := l.ts) h1 (l.ts.length - b) (by omega)
    rw [show b + (l.ts.length - b) = l.ts.length by omega] at this
    exact Nat.le_trans this hz)
  have HSu := Lib.hid (fun b (h1 : l.mn ≤ b) (h2 : b < l.ts.length) => frs_succ (ts := l.ts) h1 h2)
  have HW := Lib.hid (show frs l.ts l.mn l.ts.length = waitL l from rfl)
  generalize waitL l = WL at HW ⊢
  clear h hz
  go_enter Tryz.func67, Tryz.ntmps67
  go_wp2_with fail
  go_loopw [3, 4] (fun u i wr => ∃ (j : Nat) (s : ByteArray), l.mn ≤ j ∧ j ≤ l.ts.length ∧ u = .string s ∧ i = .int .i64 (j : Int) ∧ Hid (s = ⟨(frs l.ts l.mn j).toArray⟩) ∧ Hid (Below w.heap.size w wr)) (fun _ i _ => l.ts.length - (intOf i).toNat)
  case atStart => exact ⟨l.mn, ⟨#[]⟩, Nat.le_refl _, hm, rfl, rfl, Lib.hid (by rw [frs_same]), Below.refl _ _⟩
  case round =>
    obtain ⟨j, s, hj, hj2, rfl, rfl, hs, hb0⟩ := hrel
    clear k4 k5
    have HL := Lib.hid (H.out.below hb0.out)
    have k4 := HL.out.cel.cell (i := 4) rfl
    by_cases hlt : j < l.ts.length
    · have pj : (j : Int) < (l.ts.length : Int) := by omega
      obtain ⟨ad, rfl, hab, hcl⟩ := HL.out.strs (by omega)
      have x1 := hcl j hlt
      have hsu := HSu.out j hj hlt
      have hle := HLe.out (j + 1) (by omega) (by omega)
      have hadd := fun W => list_sum2 (frs l.ts l.mn j) (Su.frameL l.ts[j].data.toList) (by rw [hsu, List.length_append] at hle; omega) W
      rw [← hsu, ← hs.out] at hadd
      have hT : (⟨(Su.frameL l.ts[j].data.toList).toArray⟩ : ByteArray) = Su.frameB l.ts[j] := rfl
      rw [hT] at hadd
      have hsz : l.ts[j].size ≤ 1000000000000000 := by
        rw [hsu, List.length_append, Su.frameL_len] at hle
        have : l.ts[j].data.toList.length = l.ts[j].size := Array.length_toList
        omega
      have hone := fun V => HOne.out l.ts[j] V hsz
      generalize l.ts[j] = t at x1 hadd hone
      generalize Su.frameB t = ft at hadd hone
      obtain ⟨s2, hs2⟩ : ∃ s2 : ByteArray, s2 = ⟨(frs l.ts l.mn (j + 1)).toArray⟩ := ⟨_, rfl⟩
      rw [← hs2] at hadd
      have HS2 := Lib.hid hs2
      have HO2 := Lib.hid hone
      clear hs2 hT hone hsu hle hcl hsz
      go_wp2_with fail
      refine (HO2.out _).mono ?_
      rintro e w1 ⟨rfl, hb⟩
      have HB2 := Lib.hid (hb0.out.trans (hb.mono hb0.out.size))
      clear hb
      go_wp2_with fail
      go_roundw
      case rel => exact ⟨j + 1, s2, by omega, by omega, rfl, by go_num, HS2.out, HB2.out⟩
      case measure => simp [intOf]; omega
    · obtain rfl : j = l.ts.length := by omega
      obtain rfl : s = ⟨WL.toArray⟩ := by rw [hs.out, HW.out]
      go_wp2_with fail
      go_ret
      exact ⟨rfl, hb0.out⟩

end

end Rd
end Go.Proofs.YtjehjbkcdpidbaaGreat

/- How much room the document's own log has; contract; no condition but the range. -/
namespace Go.Proofs.YtjehjbkcdpidbaaGreat
namespace Rd
open Go.RowKit Sc Bk

attribute [local go_sem ↓] Go.wp_at_zero Go.wp_at_succ
attribute [local go_sem] floatUpon pick

/-- a log that may be, over a device -/
structure LgOk (D : Dev) (l : Lg) : Prop where
  dev : 4 ≤ D.on.length
  ar : l.ar ≤ 1
  mn : l.mn ≤ l.ts.length
  room : l.bs.length + (waitL l).length ≤ areaN D
  many : l.ts.length ≤ 1000000

def roomN (D : Dev) (l : Lg) : Nat := areaN D - l.bs.length - (waitL l).length

section
variable {w : World} {k g : Nat} {ao an : Addr} {co cn : Nat} {so sn : List Value} {A : Option Addr} {c : Nat} {l : Lg} {D : Dev}

set_option maxRecDepth 20000 in
set_option maxHeartbeats 4000000 in
theorem rroom_any (hr : RAt w g ao an co cn so sn D) (hL : LAt w k g A c l) (hok : DevOk D) (hlo : LgOk D l) :
    Calls Tryz.prog 27 #[.pointer (some ⟨k, 0, none⟩)] w fun e w' => e = .returned (.int .i64 (roomN D l : Int)) ∧ Below w.heap.size w w' := by
  have hrm := hlo.room
  have hab : areaN D ≤ 65536 := by have := hok.max; unfold areaN; omega
  have HAr := Lib.hid (fun W (hW : RAt W g ao an co cn so sn D) => rarea_any hW hok (by have := hlo.dev; omega))
  have HWt := Lib.hid (fun W (hW : LAt W k g A c l) => rwaiting_any hW hlo.mn (by have := hlo.many; omega) (by omega))
  obtain ⟨WS, hWS⟩ : ∃ WS : ByteArray, WS = ⟨(waitL l).toArray⟩ := ⟨_, rfl⟩
  obtain ⟨BS, hBS⟩ : ∃ BS : ByteArray, BS = ⟨l.bs.toArray⟩ := ⟨_, rfl⟩
  have zW : WS.size = (waitL l).length := by rw [hWS]; exact text_size _
  have zB : BS.size = l.bs.length := by rw [hBS]; exact text_size _
  rw [← hWS] at HWt
  have HC3 := Lib.hid (fun W (h : LAt W k g A c l) => show W.cell? ⟨k, 3, none⟩ = some (.string BS) from by rw [hBS]; exact h.cel.cell (i := 3) rfl)
  have HR := Lib.hid (show (roomN D l : Int) = (areaN D : Int) - (BS.size : Int) - (WS.size : Int) from by rw [zB, zW]; unfold roomN; omega)
  have HWp := Lib.hid (And.intro (i64_wrap (x := (areaN D : Int) - (BS.size : Int)) (by omega) (by omega)) (i64_wrap (x := (areaN D : Int) - (BS.size : Int) - (WS.size : Int)) (by omega) (by omega)))
  have bB : BS.size ≤ 65536 := by omega
  have bW : WS.size ≤ 65536 := by omega
  have HE := Lib.hid (And.intro hr hL)
  generalize (roomN D l : Int) = res at HR ⊢
  clear hWS hBS hr hL zW zB
  go_enter Tryz.func27, Tryz.ntmps27
  go_upto_region 1 with fail
  refine wp_region_said 15 [3, 4, 5, 6, 7, 8, 9, 10, 11, 12, 13, 14, 15, 16, 17]
    [.is (.pointer (some ⟨k, 0, none⟩)), .is (.pointer (some ⟨k, 0, none⟩)), .is (.pointer (some ⟨k, 0, none⟩)), .is (.pointer (some ⟨g, 0, none⟩)), .is (.int .i64 (areaN D : Int)), .is (.pointer (some ⟨k, 0, none⟩)), .is (.pointer (some ⟨k, 0, none⟩)), .is (.pointer (some ⟨k, 3, none⟩)), .is (.string BS), .is (.int .i64 (BS.size : Int)), .is (.int .i64 ((areaN D : Int) - (BS.size : Int))), .is (.pointer (some ⟨k, 0, none⟩)), .is (.string WS), .is (.int .i64 (WS.size : Int)), .is (.int .i64 ((areaN D : Int) - (BS.size : Int) - (WS.size : Int)))]
    (fun W => RAt W g ao an co cn so sn D ∧ LAt W k g A c l) (by kernel_rfl) (by kernel_rfl) (by kernel_rfl) (by kernel_rfl) (by kernel_rfl) (fun W W' h hb => ⟨h.1.step hb, h.2.below hb⟩) HE.out ?steps ?last
  case steps =>
    simp only [List.take_succ_cons, List.take_zero]
    refine ⟨?_, ?_, ?_, ?_, ?_, ?_, ?_, ?_, ?_, ?_, ?_, ?_, ?_, ?_, ?_, trivial⟩
    all_goals
      intro vs W ρ hρ hc hf hg hI hH hd R' hR'
      have z0 := hI.2.cel.cell (i := 0) rfl
      have z3 := HC3.out W hI.2
      obtain ⟨v1, v2⟩ := HWp.out
      have HRr := Lib.hid hR'
      have HI := Lib.hid hI
      simp [depsOf, Region.binds, sayAt, Say.holds] at hd
      clear hR' hI
      go_simp
      first
        | exact HRr.out _ _ (by simp [sayAt, Say.holds]) (Below.refl _ _) (by simp [sayAt, Say.isBlk])
        | (refine (HAr.out _ HI.out.1).mono ?_; rintro e w' ⟨rfl, rfl⟩; exact ⟨_, rfl, HRr.out _ _ (by simp [sayAt, Say.holds]) (Below.refl _ _) (by simp [sayAt, Say.isBlk])⟩)
        | (refine (HWt.out _ HI.out.2).mono ?_; rintro e w' ⟨rfl, hb⟩; exact ⟨_, rfl, HRr.out _ _ (by simp [sayAt, Say.holds]) hb (by simp [sayAt, Say.isBlk])⟩)
        | trace_state
  case last =>
    intro vs W hI hb hg hd
    have g14 := hg 14 (by omega)
    simp only [sayAt, Say.holds, List.getD_cons_succ, List.getD_cons_zero] at g14
    simp only [List.take_succ_cons, List.take_zero, List.drop_succ_cons, List.drop_zero, putAll, Act.put, List.setIfInBounds_toArray, List.set_cons_succ, List.set_cons_zero, Nat.zero_add, Nat.reduceAdd]
    rw [g14]
    have HB := Lib.hid hb
    clear g14 hg hd hb hI
    go_wp2_with fail
    go_ret
    exact ⟨by rw [HR.out]; rfl, HB.out⟩

end

end Rd
end Go.Proofs.YtjehjbkcdpidbaaGreat

/- To settle bytes in an area, in plain lists; no condition. -/
namespace Go.Proofs.YtjehjbkcdpidbaaGreat
namespace Rd
open Go.RowKit Sc Bk

/-- a sector's bytes, of which k are laid -/
def rowB (all : List UInt8) (i k : Nat) : List UInt8 := (all.drop (64 * i)).take k ++ List.replicate (64 - k) 0
def limB (all : List UInt8) (i : Nat) : Nat := min 64 (all.length - 64 * i)
def blkB (all : List UInt8) (i : Nat) : ByteArray := ⟨(rowB all i (limB all i)).toArray⟩

theorem rowB_len {all : List UInt8} {i k : Nat} (h : k ≤ limB all i) : (rowB all i k).length = 64 := by
  unfold limB at h
  unfold rowB
  rw [List.length_append, List.length_take, List.length_drop, List.length_replicate]
  omega

theorem blkB_size (all : List UInt8) (i : Nat) : (blkB all i).size = 64 := by
  unfold blkB
  rw [text_size, rowB_len (Nat.le_refl _)]

theorem rowB_zero (all : List UInt8) (i : Nat) : rowB all i 0 = List.replicate 64 0 := by
  unfold rowB; rw [List.take_zero]; rfl

theorem rowB_set {all : List UInt8} {i k : Nat} (h : k < limB all i) {b : UInt8} (hb : all[64 * i + k]? = some b) : (rowB all i k).set k b = rowB all i (k + 1) := by
  unfold limB at h
  have h1 : ((all.drop (64 * i)).take k).length = k := by rw [List.length_take, List.length_drop]; omega
  unfold rowB
  rw [List.set_append_right _ _ (by omega), h1, Nat.sub_self, show 64 - k = (64 - (k + 1)) + 1 by omega, List.replicate_succ, List.set_cons_zero, List.take_add_one, List.getElem?_drop, hb, Option.toList_some, List.append_assoc]
  rfl

/-- sectors of an area are written, from one on, so many -/
def wrs (base : Nat) (all : List UInt8) : Nat → Nat → Dev → Dev × Int
  | _, 0, D => (D, 0)
  | i, n + 1, D => if (wrD D ((base + i : Nat) : Int) (blkB all i)).2 = 0 then wrs base all (i + 1) n (wrD D ((base + i : Nat) : Int) (blkB all i)).1 else wrD D ((base + i : Nat) : Int) (blkB all i)

/-- how many sectors hold new bytes -/
def manyW (old more : List UInt8) : Nat := if more = [] then 0 else ((old ++ more).length + 63) / 64 - old.length / 64

/-- one behind the other, up to the first that is refused -/
def andD (r : Dev × Int) (f : Dev → Dev × Int) : Dev × Int := if r.2 = 0 then f r.1 else r

def settleP (D : Dev) (cnt a : Nat) (old more : List UInt8) : Dev × Int :=
  andD (wrs (areaAt D a) (old ++ more) (old.length / 64) (manyW old more) D) fun D1 =>
  andD (if more = [] then (D1, 0) else flD D1) fun D2 =>
  andD (wrD D2 (((cnt + 1) % 2 : Nat) : Int) (headB (cnt + 1) a (old ++ more).length)) fun D3 => flD D3

theorem wrD_on (D : Dev) (i : Int) (t : ByteArray) : (wrD D i t).1.on = D.on := by
  unfold wrD
  split
  · rfl
  split
  · rfl
  split
  · exact (burn_parts D).1
  · rfl

theorem areaN_on {D E : Dev} (h : E.on.length = D.on.length) : areaN E = areaN D := by unfold areaN; rw [h]
theorem areaAt_on {D E : Dev} (h : E.on.length = D.on.length) (a : Nat) : areaAt E a = areaAt D a := by unfold areaAt; rw [areaN_on h]

theorem flD_len (D : Dev) : (flD D).1.on.length = D.on.length := by
  unfold flD
  split
  · rfl
  split
  · rw [(burn_parts D).1]
  · exact upd_len _ _ _

theorem wrs_len (base : Nat) (all : List UInt8) : ∀ n i D, (wrs base all i n D).1.on.length = D.on.length
  | 0, _, _ => rfl
  | n + 1, i, D => by
    unfold wrs
    split
    · rw [wrs_len base all n (i + 1), wrD_on]
    · rw [wrD_on]

theorem wrs_ok (base : Nat) (all : List UInt8) : ∀ n i D, DevOk D → DevOk (wrs base all i n D).1
  | 0, _, _, h => h
  | n + 1, i, D, h => by
    unfold wrs
    split
    · exact wrs_ok base all n (i + 1) _ (wrD_ok h _ _)
    · exact wrD_ok h _ _

end Rd
end Go.Proofs.YtjehjbkcdpidbaaGreat
