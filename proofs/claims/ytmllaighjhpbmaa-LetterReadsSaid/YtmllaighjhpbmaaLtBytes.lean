/- What the document's own Bytes and Encode of letters answer; contracts; no condition but the range. -/
import Derived.Test.YtmllaighjhpbmaaLtEnv
import Derived.Test.YtmllaighjhpbmaaPkDec
import Derived.Test.YtmllaighjhpbmaaBkAppend
import Derived.OneCell
namespace Go.Proofs.Ytmllaighjhpbmaa
namespace Lt
open Go.RowKit Bk

attribute [local go_sem ↓] Go.wp_at_zero Go.wp_at_succ
attribute [local go_sem] floatUpon pick

/-- a pack under way in block g, with rows of its own from X on -/
structure BtEnv (w W : World) (X g : Nat) (v1 v2 : Value) (ns : List Int) (ts : List ByteArray) : Prop where
  cel : Cel W g 48 [v1, v2]
  r0 : W.ownsRow X 3 1 v1 ns.length (intV ns)
  r1 : W.ownsRow X 9 1 v2 ts.length (strV ts)
  d : Unlike v1 v2
  n0 : v1.ownBlock ≠ some g
  n1 : v2.ownBlock ≠ some g
  gx : X ≤ g
  bel : Below X w W

theorem BtEnv.lt {w W : World} {X g : Nat} {v1 v2 : Value} {ns : List Int} {ts : List ByteArray} (h : BtEnv w W X g v1 v2 ns ts) : X ≤ W.heap.size := Nat.le_of_lt (Nat.lt_of_le_of_lt h.gx h.cel.lt)

theorem BtEnv.c0 {w W : World} {X g : Nat} {v1 v2 : Value} {ns : List Int} {ts : List ByteArray} (h : BtEnv w W X g v1 v2 ns ts) : W.cell? ⟨g, 0, none⟩ = some v1 := h.cel.cell rfl
theorem BtEnv.c1 {w W : World} {X g : Nat} {v1 v2 : Value} {ns : List Int} {ts : List ByteArray} (h : BtEnv w W X g v1 v2 ns ts) : W.cell? ⟨g, 1, none⟩ = some v2 := h.cel.cell rfl

theorem BtEnv.step {w W W' : World} {X g : Nat} {v1 v2 : Value} {ns : List Int} {ts : List ByteArray} (h : BtEnv w W X g v1 v2 ns ts) (hb : Below W.heap.size W W') : BtEnv w W' X g v1 v2 ns ts :=
  ⟨h.cel.below hb, st_keep h.r0 hb, st_keep h.r1 hb, h.d, h.n0, h.n1, h.gx, h.bel.trans (hb.mono h.lt)⟩

theorem own_ne {W : World} {v v' : Value} {g : Nat} (hn : v.ownBlock ≠ some g) (hg : g < W.heap.size) (hat : v'.ownBlock = v.ownBlock ∨ v'.ownBlock = some W.heap.size) : v'.ownBlock ≠ some g := by
  rcases hat with h | h
  · rw [h]; exact hn
  · rw [h]; intro e; simp only [Option.some.injEq] at e; omega

/-- a row that grew: the world in which its value is not yet stored -/
theorem BtEnv.grow1 {w W W1 : World} {X g n' : Nat} {v1 v2 v' : Value} {ns ns' : List Int} {ts : List ByteArray} (h : BtEnv w W X g v1 v2 ns ts) (ho : W1.ownsRow X 3 1 v' n' (intV ns')) (hl : n' = ns'.length) (hg : W.grownBy W1 v1.ownBlock) (hat : v'.ownBlock = v1.ownBlock ∨ v'.ownBlock = some W.heap.size) :
    Cel W1 g 48 [v1, v2] ∧ BtEnv w (W1.setCell ⟨g, 0, none⟩ v') X g v' v2 ns' ts := by
  subst hl
  have hc : Cel W1 g 48 [v1, v2] := (hg.block g h.cel.lt (fun e => h.n0 e.symm)).trans h.cel
  have h2 := h.r1.kept hg h.d.symm.ne
  have hn := own_ne h.n0 h.cel.lt hat
  exact ⟨hc, hc.set, ownsRow_setCell_other ho hn _, ownsRow_setCell_other h2 h.n1 _, (h.d.symm.next (fun j hj => (h.r1.lt j hj).2) hat (Nat.le_refl _)).symm, hn, h.n1, h.gx, (h.bel.grown hg h.lt (fun k hk => (h.r0.lt k hk).1)).setCell h.gx _⟩

theorem BtEnv.grow2 {w W W1 : World} {X g n' : Nat} {v1 v2 v' : Value} {ns : List Int} {ts ts' : List ByteArray} (h : BtEnv w W X g v1 v2 ns ts) (ho : W1.ownsRow X 9 1 v' n' (strV ts')) (hl : n' = ts'.length) (hg : W.grownBy W1 v2.ownBlock) (hat : v'.ownBlock = v2.ownBlock ∨ v'.ownBlock = some W.heap.size) :
    Cel W1 g 48 [v1, v2] ∧ BtEnv w (W1.setCell ⟨g, 1, none⟩ v') X g v1 v' ns ts' := by
  subst hl
  have hc : Cel W1 g 48 [v1, v2] := (hg.block g h.cel.lt (fun e => h.n1 e.symm)).trans h.cel
  have h2 := h.r0.kept hg h.d.ne
  have hn := own_ne h.n1 h.cel.lt hat
  exact ⟨hc, hc.set, ownsRow_setCell_other h2 h.n0 _, ownsRow_setCell_other ho hn _, h.d.next (fun j hj => (h.r0.lt j hj).2) hat (Nat.le_refl _), h.n0, hn, h.gx, (h.bel.grown hg h.lt (fun k hk => (h.r1.lt k hk).1)).setCell h.gx _⟩

def numsP (l : Let) (j : Nat) : List Int := [l.kind, l.src, l.dst, l.txn, l.ts, l.code, (l.keys.length : Int)] ++ (l.ws.take j).map fun x => if x.dead then 1 else 0
def textsP (l : Let) (j : Nat) : List ByteArray := l.text :: (l.keys ++ (l.ws.take j).flatMap fun x => [x.key, x.shard])

theorem numsP_all (l : Let) : numsP l l.ws.length = numsOf l := by unfold numsP numsOf; rw [List.take_length]
theorem textsP_all (l : Let) : textsP l l.ws.length = textsOf l := by unfold textsP textsOf; rw [List.take_length]
theorem numsP_succ {l : Let} {j : Nat} (h : j < l.ws.length) : numsP l (j + 1) = numsP l j ++ [if l.ws[j].dead then 1 else 0] := by
  unfold numsP
  rw [List.take_add_one, List.getElem?_eq_getElem h, List.map_append]
  simp
theorem textsP_succ {l : Let} {j : Nat} (h : j < l.ws.length) : textsP l (j + 1) = (textsP l j ++ [l.ws[j].key]) ++ [l.ws[j].shard] := by
  unfold textsP
  rw [List.take_add_one, List.getElem?_eq_getElem h, List.flatMap_append]
  simp
theorem numsP_len (l : Let) (j : Nat) : (numsP l j).length ≤ 7 + j := by
  unfold numsP
  rw [List.length_append, List.length_map, List.length_take]
  show 7 + _ ≤ _
  omega
theorem flat_len (ws : List Wr) : (ws.flatMap fun x => [x.key, x.shard]).length = 2 * ws.length := by
  induction ws with
  | nil => rfl
  | cons x r ih => simp only [List.flatMap_cons, List.length_append, List.length_cons, List.length_nil]; omega
theorem textsP_len (l : Let) (j : Nat) : (textsP l j).length ≤ 1 + l.keys.length + 2 * j := by
  unfold textsP
  rw [List.length_cons, List.length_append, flat_len, List.length_take]
  omega

set_option maxRecDepth 20000 in
set_option maxHeartbeats 8000000 in
theorem bytes_any (A B : Option Addr) (c d : Nat) (l : Let) (w : World) (ha : StrsAt w A l.keys) (hb : WrsAt w B l.ws) (hA : A = none → c = 0) (hok : LetOk l) :
    Calls Try.prog 28 #[letV l A B c d] w fun e w' => e = .returned (.string ⟨(letL l).toArray⟩) ∧ Below w.heap.size w w' := by
  obtain ⟨i0, hi, hz0, hz1, hz2⟩ := info_parts Try.infoStr
  obtain ⟨i1, hi', hz0', hz1', hz2'⟩ := info_parts Pk.Try.infoInt
  have henv := LtEnv.start (c := c) (d := d) ha hb
  have hbd := hok.bounds
  have nk : l.keys.length ≤ 16 := hbd.1
  have nw : l.ws.length ≤ 16 := hbd.2.1
  have pk : (l.keys.length : Int) ≤ 16 := by omega
  have pw : (l.ws.length : Int) ≤ 16 := by omega
  have HM := Lib.hid hok.pack
  have HAn := Lib.hid hA
  clear ha hb hbd hok hA
  unfold letV
  go_enter Try.func28, Try.ntmps28
  go_upto_region 1 with fail
  generalize w.alloc (.cells #[.int .i64 l.kind, .int .i64 l.src, .int .i64 l.dst, .int .i64 l.txn, .int .i64 l.ts, .int .i64 l.code, .string l.text, .slice A l.keys.length c, .slice B l.ws.length d] 25) = W1 at henv ⊢
  have HE := Lib.hid henv
  have k0 := henv.cel.cell (i := 0) rfl
  have k1 := henv.cel.cell (i := 1) rfl
  have k2 := henv.cel.cell (i := 2) rfl
  have k3 := henv.cel.cell (i := 3) rfl
  have k4 := henv.cel.cell (i := 4) rfl
  have k5 := henv.cel.cell (i := 5) rfl
  have k7 := henv.cel.cell (i := 7) rfl
  have k6 := fun o : Obj => (henv.step ((Below.refl _ W1).alloc (Nat.le_refl _) o)).cel.cell (i := 6) rfl
  clear henv
  go_upto_region 2 with fail
  have hs1 : (W1.alloc (.cells #[.int .i64 l.kind, .int .i64 l.src, .int .i64 l.dst, .int .i64 l.txn, .int .i64 l.ts, .int .i64 l.code, .int .i64 (l.keys.length : Int)] 3)).heap.size = W1.heap.size + 1 := (blk1 _ _).1
  obtain ⟨s3, b1, b2, b3⟩ := blk3 W1 (.cells #[.int .i64 l.kind, .int .i64 l.src, .int .i64 l.dst, .int .i64 l.txn, .int .i64 l.ts, .int .i64 l.code, .int .i64 (l.keys.length : Int)] 3) (.cells #[.string l.text] 9) (.cells #[.slice (some ⟨W1.heap.size, 0, none⟩) 7 7, .slice (some ⟨W1.heap.size + 1, 0, none⟩) 1 1] 48)
  have hbt : BtEnv W1 (((W1.alloc (.cells #[.int .i64 l.kind, .int .i64 l.src, .int .i64 l.dst, .int .i64 l.txn, .int .i64 l.ts, .int .i64 l.code, .int .i64 (l.keys.length : Int)] 3)).alloc (.cells #[.string l.text] 9)).alloc (.cells #[.slice (some ⟨W1.heap.size, 0, none⟩) 7 7, .slice (some ⟨W1.heap.size + 1, 0, none⟩) 1 1] 48))
      W1.heap.size (W1.heap.size + 1 + 1) (.slice (some ⟨W1.heap.size, 0, none⟩) 7 7) (.slice (some ⟨W1.heap.size + 1, 0, none⟩) 1 1) (numsP l 0) [l.text] := by
    refine ⟨b3, ?_, ?_, ?_, ?_, ?_, by omega, (((Below.refl _ W1).alloc (Nat.le_refl _) _).alloc (by simp) _).alloc (by simp; omega) _⟩
    · have : (numsP l 0).length = 7 := by simp [numsP]
      rw [this]
      exact ⟨by rw [intV_len, this], .inr ⟨W1.heap.size, 7, _, rfl, Nat.le_refl _, b1, Nat.le_refl _, by unfold maxLen; omega, rfl, by simp [numsP, intV]⟩⟩
    · exact ⟨rfl, .inr ⟨W1.heap.size + 1, 1, _, rfl, by omega, b2, Nat.le_refl _, by unfold maxLen; omega, rfl, rfl⟩⟩
    · intro j h1 h2; simp [Value.ownBlock] at h1 h2; omega
    · simp [Value.ownBlock]; omega
    · simp [Value.ownBlock]
  generalize (((W1.alloc (.cells #[.int .i64 l.kind, .int .i64 l.src, .int .i64 l.dst, .int .i64 l.txn, .int .i64 l.ts, .int .i64 l.code, .int .i64 (l.keys.length : Int)] 3)).alloc (.cells #[.string l.text] 9)).alloc (.cells #[.slice (some ⟨W1.heap.size, 0, none⟩) 7 7, .slice (some ⟨W1.heap.size + 1, 0, none⟩) 1 1] 48)) = W2 at hbt ⊢
  have hk7 := (HE.out.step hbt.bel).cel.cell (i := 7) rfl
  have hc1 := hbt.c1
  have HBt := Lib.hid hbt
  have HA2 := Lib.hid (show A = none → l.keys.length = 0 ∧ c = 0 from fun e => by
      refine ⟨?_, HAn.out e⟩
      rcases Nat.eq_zero_or_pos l.keys.length with h | h
      · exact h
      · obtain ⟨ad, h2, _⟩ := HE.out.ks h; rw [e] at h2; cases h2)
  clear hs1 s3 b1 b2 b3 hbt k0 k1 k2 k3 k4 k5 k6 k7
  generalize hgg : W1.heap.size + 1 + 1 = g at *
  clear hgg
  go_wp2_with (at_builtin; refine wpList_append_opt rfl _ _ 22 rfl W1.heap.size 9 i0 (.string ⟨#[]⟩) 16 Try.underlying22 hi hz0 hz1 hz2 rfl _ 1 _ rfl HBt.out.r1 A l.keys.length c (strV l.keys) rfl (strV_len _) HA2.out ?c1 ?c2 ?c3 ?c4 HBt.out.lt ?_)
  case c1 => exact fun ad e => by subst e; exact (HE.out.step HBt.out.bel).ks.news
  case c2 => intro u hu; obtain ⟨s, _, rfl⟩ := List.mem_map.1 hu; rfl
  case c3 => unfold maxLen; omega
  case c4 => omega
  intro v' w3 ho hg hat
  obtain ⟨gn, capn, rfl, _, _⟩ := World.ownsRow.form ho (by omega)
  obtain ⟨hce, hbt2⟩ := BtEnv.grow2 (ts' := textsP l 0) HBt.out (by
    have e : strV [l.text] ++ strV l.keys = strV (textsP l 0) := by simp [strV, textsP]
    rw [← e]; exact ho) (by simp [textsP]; omega) hg hat
  have hf1 := hce.cell (i := 1) rfl
  have hf2 := hce.free (i := 1)
  have HBt2 := Lib.hid hbt2
  clear ho hg hat hce hbt2 HBt hk7 hc1
  go_upto_region 3 with fail
  obtain ⟨u2, hu2⟩ : ∃ u, u = Value.slice (some ⟨gn, 0, none⟩) (1 + l.keys.length) capn := ⟨_, rfl⟩
  rw [← hu2] at HBt2 ⊢
  generalize w3.setCell ⟨g, 1, none⟩ u2 = W4 at HBt2 ⊢
  clear hf1 hf2 hu2
  go_wp2_with fail
  go_loopw [4] (fun i wr => ∃ (j : Nat) (v1 v2 : Value), j ≤ l.ws.length ∧ i = .int .i64 (j : Int) ∧ Hid (BtEnv W1 wr W1.heap.size g v1 v2 (numsP l j) (textsP l j))) (fun i _ => l.ws.length - (intOf i).toNat)
  case atStart => exact ⟨0, _, _, by omega, rfl, HBt2.out⟩
  case round =>
    obtain ⟨j, v1, v2, hj, rfl, hbt⟩ := hrel
    clear HBt2
    have hle := HE.out.step hbt.out.bel
    have k8 := hle.cel.cell (i := 8) rfl
    by_cases hlt : j < l.ws.length
    · have pj : (j : Int) < (l.ws.length : Int) := by omega
      obtain ⟨bd, rfl, _, _⟩ := hle.ws (by omega)
      obtain ⟨X, hX⟩ : ∃ X, X = l.ws[j] := ⟨_, rfl⟩
      have hC : ∀ W, Below W1.heap.size W1 W → W.cell? ⟨w.heap.size, 8, none⟩ = some (.slice (some bd) l.ws.length d) ∧ W.cell? (bd.add (j * 3)) = some (.string X.key) ∧ W.cell? ⟨(bd.add (j * 3)).block, (bd.add (j * 3)).off + 1, none⟩ = some (.string X.shard) ∧ W.cell? ⟨(bd.add (j * 3)).block, (bd.add (j * 3)).off + 2, none⟩ = some (.bool X.dead) := fun W hW => by
        have h := HE.out.step hW
        obtain ⟨bd', e1, _, hcb⟩ := h.ws (by omega)
        obtain rfl := Option.some.inj e1
        obtain ⟨y0, y1, y2⟩ := hcb j hlt
        rw [add_field _ _ _ (by omega), add_field _ _ _ (by omega), hX]
        exact ⟨h.cel.cell (i := 8) rfl, y0, y1, y2⟩
      have HC := Lib.hid hC
      have HO := Lib.hid (fun W => one_any X.dead W)
      have hns := numsP_succ hlt
      have hts := textsP_succ hlt
      rw [← hX] at hns hts
      have HNs := Lib.hid hns
      have HTs := Lib.hid hts
      have hnl := numsP_len l j
      have htl := textsP_len l j
      clear hC hns hts hle hX
      obtain ⟨xk, xs, xd⟩ := X
      simp only at *
      go_upto_region 6 with fail
      refine wp_region_said 10 [38, 39, 40, 41, 42, 43, 44, 45, 46, 47]
        [.is (.pointer (some ⟨g, 0, none⟩)), .is v1, .is (.pointer (some ⟨w.heap.size, 8, none⟩)), .is (.slice (some bd) l.ws.length d), .is (.int .i64 (j : Int)), .is (.pointer (some (bd.add (j * 3)))), .is (.pointer (some ⟨(bd.add (j * 3)).block, (bd.add (j * 3)).off + 2, none⟩)), .is (.bool xd), .is (.int .i64 (if xd then 1 else 0)), .arr 3 #[.int .i64 (if xd then 1 else 0)] 1 1]
        (fun W => BtEnv W1 W W1.heap.size g v1 v2 (numsP l j) (textsP l j)) (by kernel_rfl) (by kernel_rfl) (by kernel_rfl) (by kernel_rfl) (by kernel_rfl) (fun W W' h hb => h.step hb) hbt.out ?steps ?last
      case steps =>
        simp only [List.take_succ_cons, List.take_zero]
        refine ⟨?_, ?_, ?_, ?_, ?_, ?_, ?_, ?_, ?_, ?_, trivial⟩
        all_goals
          intro vs W ρ hρ hc hf hg hI hH hd R' hR
          obtain ⟨z8, z0, z1, z2⟩ := HC.out W hI.bel
          have q0 := hI.c0
          have HR := Lib.hid hR
          simp [depsOf, Region.binds, sayAt, Say.holds] at hd
          clear hR hI k8
          go_simp
          first
            | exact HR.out _ _ (by simp [sayAt, Say.holds]) (Below.refl _ _) (by simp [sayAt, Say.isBlk])
            | exact HR.out _ _ ⟨_, hH, by simp, rfl, heap_alloc_new _ _⟩ ((Below.refl _ _).alloc (Nat.le_refl _) _) (fun h => by cases h)
            | (refine (HO.out _).mono ?_; rintro e w' ⟨rfl, rfl⟩; exact ⟨_, rfl, HR.out _ _ (by simp [sayAt, Say.holds]) (Below.refl _ _) (by simp [sayAt, Say.isBlk])⟩)
            | trace_state
      case last =>
        intro vs W hI hb hg hd
        have g1 := hg 1 (by omega)
        obtain ⟨o, ho1, ho2, g9, ho⟩ := hg 9 (by omega)
        simp only [sayAt, Say.holds, List.getD_cons_succ, List.getD_cons_zero] at g1
        simp only [List.take_succ_cons, List.take_zero, List.drop_succ_cons, List.drop_zero, putAll, Act.put, List.setIfInBounds_toArray, List.set_cons_succ, List.set_cons_zero, Nat.zero_add, Nat.reduceAdd]
        rw [g1, g9]
        have HI := Lib.hid hI
        clear g1 g9 hg hd hI hbt k8
        refine wpList_append_own_at _ rfl _ _ 46 rfl W1.heap.size 3 i1 (.int .i64 0) 1 8 Try.underlying46 hi' hz0' hz1' hz2' rfl (by decide) _ _ _ rfl HI.out.r0 ⟨o, 0, none⟩ 1 1 [.int .i64 (if xd then 1 else 0)] rfl rfl ?d1 ?d2 ?d3 ?d4 HI.out.lt ?_
        case d1 => exact str_one ho
        case d2 => intro u hu; simp at hu; subst hu; rfl
        case d3 => unfold maxLen; omega
        case d4 => omega
        intro v' w5 hown' hgrow _ hat
        obtain ⟨gn, capn, rfl, _, _⟩ := World.ownsRow.form hown' (by omega)
        obtain ⟨hce, hbt2⟩ := BtEnv.grow1 (ns' := numsP l (j + 1)) HI.out (by rw [HNs.out, intV_snoc]; exact hown') (by rw [HNs.out, List.length_append]; rfl) hgrow hat
        have hf1 := hce.cell (i := 0) rfl
        have hf2 := hce.free (i := 0)
        have HBt3 := Lib.hid hbt2
        clear hown' hgrow hat HI ho ho1 ho2 hb hce hbt2
        go_upto_region 7 with fail
        obtain ⟨va, hva⟩ : ∃ u, u = Value.slice (some ⟨gn, 0, none⟩) ((numsP l j).length + 1) capn := ⟨_, rfl⟩
        rw [← hva] at HBt3 ⊢
        generalize w5.setCell ⟨g, 0, none⟩ va = W5 at HBt3 ⊢
        clear hf1 hf2 hva
        refine wp_region_said 9 [50, 51, 52, 53, 54, 55, 56, 57, 58]
          [.is (.pointer (some ⟨g, 1, none⟩)), .is v2, .is (.pointer (some ⟨w.heap.size, 8, none⟩)), .is (.slice (some bd) l.ws.length d), .is (.int .i64 (j : Int)), .is (.pointer (some (bd.add (j * 3)))), .is (.pointer (some (bd.add (j * 3)))), .is (.string xk), .arr 9 #[.string xk] 1 1]
          (fun W => BtEnv W1 W W1.heap.size g va v2 (numsP l (j + 1)) (textsP l j)) (by kernel_rfl) (by kernel_rfl) (by kernel_rfl) (by kernel_rfl) (by kernel_rfl) (fun W W' h hb => h.step hb) HBt3.out ?steps7 ?last7
        case steps7 =>
          simp only [List.take_succ_cons, List.take_zero]
          refine ⟨?_, ?_, ?_, ?_, ?_, ?_, ?_, ?_, ?_, trivial⟩
          all_goals
            intro vs W ρ hρ hc hf hg hI hH hd R' hR
            obtain ⟨z8, z0, z1, z2⟩ := HC.out W hI.bel
            have q1 := hI.c1
            have HR := Lib.hid hR
            simp [depsOf, Region.binds, sayAt, Say.holds] at hd
            clear hR hI
            go_simp
            first
              | exact HR.out _ _ (by simp [sayAt, Say.holds]) (Below.refl _ _) (by simp [sayAt, Say.isBlk])
              | exact HR.out _ _ ⟨_, hH, by simp, rfl, heap_alloc_new _ _⟩ ((Below.refl _ _).alloc (Nat.le_refl _) _) (fun h => by cases h)
              | trace_state
        case last7 =>
          intro vs W hI hb hg hd
          have g1 := hg 1 (by omega)
          obtain ⟨o, ho1, ho2, g8, ho⟩ := hg 8 (by omega)
          simp only [sayAt, Say.holds, List.getD_cons_succ, List.getD_cons_zero] at g1
          simp only [List.take_succ_cons, List.take_zero, List.drop_succ_cons, List.drop_zero, putAll, Act.put, List.setIfInBounds_toArray, List.set_cons_succ, List.set_cons_zero, Nat.zero_add, Nat.reduceAdd]
          rw [g1, g8]
          have HI := Lib.hid hI
          clear g1 g8 hg hd hI HBt3
          refine wpList_append_own_at _ rfl _ _ 22 rfl W1.heap.size 9 i0 (.string ⟨#[]⟩) 1 16 Try.underlying22 hi hz0 hz1 hz2 rfl (by decide) _ _ _ rfl HI.out.r1 ⟨o, 0, none⟩ 1 1 [.string xk] rfl rfl ?d17 ?d27 ?d37 ?d47 HI.out.lt ?_
          case d17 => exact str_one ho
          case d27 => intro u hu; simp at hu; subst hu; rfl
          case d37 => unfold maxLen; first | omega | (simp; omega)
          case d47 => first | omega | (simp; omega)
          intro v' w5 hown' hgrow _ hat
          obtain ⟨gm, capm, rfl, _, _⟩ := World.ownsRow.form hown' (by omega)
          obtain ⟨hce, hbt2⟩ := BtEnv.grow2 (ts' := (textsP l j ++ [xk])) HI.out (by rw [Pk.strV_snoc2]; exact hown') (by rw [List.length_append]; rfl) hgrow hat
          have hf1 := hce.cell (i := 1) rfl
          have hf2 := hce.free (i := 1)
          have HBt4 := Lib.hid hbt2
          clear hown' hgrow hat HI ho ho1 ho2 hb hce hbt2
          go_upto_region 8 with fail
          obtain ⟨vb, hvb⟩ : ∃ u, u = Value.slice (some ⟨gm, 0, none⟩) ((textsP l j).length + 1) capm := ⟨_, rfl⟩
          rw [← hvb] at HBt4 ⊢
          generalize w5.setCell ⟨g, 1, none⟩ vb = W6 at HBt4 ⊢
          clear hf1 hf2 hvb
          refine wp_region_said 9 [61, 62, 63, 64, 65, 66, 67, 68, 69]
            [.is (.pointer (some ⟨g, 1, none⟩)), .is vb, .is (.pointer (some ⟨w.heap.size, 8, none⟩)), .is (.slice (some bd) l.ws.length d), .is (.int .i64 (j : Int)), .is (.pointer (some (bd.add (j * 3)))), .is (.pointer (some ⟨(bd.add (j * 3)).block, (bd.add (j * 3)).off + 1, none⟩)), .is (.string xs), .arr 9 #[.string xs] 1 1]
            (fun W => BtEnv W1 W W1.heap.size g va vb (numsP l (j + 1)) (textsP l j ++ [xk])) (by kernel_rfl) (by kernel_rfl) (by kernel_rfl) (by kernel_rfl) (by kernel_rfl) (fun W W' h hb => h.step hb) HBt4.out ?steps8 ?last8
          case steps8 =>
            simp only [List.take_succ_cons, List.take_zero]
            refine ⟨?_, ?_, ?_, ?_, ?_, ?_, ?_, ?_, ?_, trivial⟩
            all_goals
              intro vs W ρ hρ hc hf hg hI hH hd R' hR
              obtain ⟨z8, z0, z1, z2⟩ := HC.out W hI.bel
              have q1 := hI.c1
              have HR := Lib.hid hR
              simp [depsOf, Region.binds, sayAt, Say.holds] at hd
              clear hR hI
              go_simp
              first
                | exact HR.out _ _ (by simp [sayAt, Say.holds]) (Below.refl _ _) (by simp [sayAt, Say.isBlk])
                | exact HR.out _ _ ⟨_, hH, by simp, rfl, heap_alloc_new _ _⟩ ((Below.refl _ _).alloc (Nat.le_refl _) _) (fun h => by cases h)
                | trace_state
          case last8 =>
            intro vs W hI hb hg hd
            have g1 := hg 1 (by omega)
            obtain ⟨o, ho1, ho2, g8, ho⟩ := hg 8 (by omega)
            simp only [sayAt, Say.holds, List.getD_cons_succ, List.getD_cons_zero] at g1
            simp only [List.take_succ_cons, List.take_zero, List.drop_succ_cons, List.drop_zero, putAll, Act.put, List.setIfInBounds_toArray, List.set_cons_succ, List.set_cons_zero, Nat.zero_add, Nat.reduceAdd]
            rw [g1, g8]
            have HI := Lib.hid hI
            clear g1 g8 hg hd hI HBt4
            refine wpList_append_own_at _ rfl _ _ 22 rfl W1.heap.size 9 i0 (.string ⟨#[]⟩) 1 16 Try.underlying22 hi hz0 hz1 hz2 rfl (by decide) _ _ _ rfl HI.out.r1 ⟨o, 0, none⟩ 1 1 [.string xs] rfl rfl ?d18 ?d28 ?d38 ?d48 HI.out.lt ?_
            case d18 => exact str_one ho
            case d28 => intro u hu; simp at hu; subst hu; rfl
            case d38 => unfold maxLen; first | omega | (simp; omega)
            case d48 => first | omega | (simp; omega)
            intro v' w5 hown' hgrow _ hat
            obtain ⟨gm, capm, rfl, _, _⟩ := World.ownsRow.form hown' (by omega)
            obtain ⟨hce, hbt2⟩ := BtEnv.grow2 (ts' := (textsP l (j + 1))) HI.out (by rw [HTs.out, Pk.strV_snoc2]; exact hown') (by rw [HTs.out]; simp) hgrow hat
            have hf1 := hce.cell (i := 1) rfl
            have hf2 := hce.free (i := 1)
            rw [show (textsP l j ++ [xk]).length = (textsP l j).length + 1 by simp] at hbt2
            have HBt5 := Lib.hid hbt2
            clear hown' hgrow hat HI ho ho1 ho2 hb hce hbt2
            go_wp2_with fail
            go_roundw
            case rel => exact ⟨j + 1, _, _, by omega, by go_num, HBt5.out⟩
            case measure => simp [intOf]; omega
    · obtain rfl : j = l.ws.length := by omega
      have hb2 := hbt.out
      rw [numsP_all, textsP_all] at hb2
      obtain ⟨A1, cA, rfl, hI1⟩ := ints_of_own hb2.r0 rfl
      obtain ⟨B1, cB, rfl, hS1⟩ := strs_of_own2 hb2.r1 rfl
      have HBy := Lib.hid (Pk.bytes_any A1 B1 cA cB (numsOf l) (textsOf l) wr hI1 hS1 HM.out)
      unfold Pk.packV at HBy
      have q0 := hb2.c0
      have q1 := hb2.c1
      have HBel := Lib.hid (HE.out.bel.trans (hb2.bel.mono HE.out.bel.size))
      have E := Lib.hid (show (⟨(letL l).toArray⟩ : ByteArray) = ⟨(Pk.bytesL (numsOf l) (textsOf l)).toArray⟩ from rfl)
      clear hbt hb2 hI1 hS1 hle
      go_wp2_with fail
      refine HBy.out.mono ?_
      rintro e w7 ⟨rfl, hb⟩
      have HB7 := Lib.hid (HBel.out.trans (hb.mono HBel.out.size))
      clear hb HBy
      go_wp2_with fail
      go_ret
      exact ⟨by rw [E.out]; rfl, HB7.out⟩

end Lt
end Go.Proofs.Ytmllaighjhpbmaa
