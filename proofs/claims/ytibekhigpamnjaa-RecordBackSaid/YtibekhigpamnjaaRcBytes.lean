/- What the document's own Bytes of records answers; contract; no condition but that the record may be. -/
import Derived.Test.YtibekhigpamnjaaRcEnv
import Derived.Test.YtibekhigpamnjaaA4
import Derived.Test.YtibekhigpamnjaaA5
namespace Go.Proofs.Ytibekhigpamnjaa
namespace Rc
open Go.RowKit Bk Lt

attribute [local go_sem ↓] Go.wp_at_zero Go.wp_at_succ
attribute [local go_sem] floatUpon pick

def numsP (r : Rec) (j : Nat) : List Int := [r.kind, r.txn, r.ts, r.coord, flag r.dead, (r.keys.length : Int)] ++ (r.ws.take j).map fun x => if x.dead then 1 else 0
def textsP (r : Rec) (j : Nat) : List ByteArray := r.key :: r.text :: (r.keys ++ (r.ws.take j).flatMap fun x => [x.key, x.shard])

theorem numsP_all (r : Rec) : numsP r r.ws.length = numsOf r := by unfold numsP numsOf; rw [List.take_length]
theorem textsP_all (r : Rec) : textsP r r.ws.length = textsOf r := by unfold textsP textsOf; rw [List.take_length]
theorem numsP_succ {r : Rec} {j : Nat} (h : j < r.ws.length) : numsP r (j + 1) = numsP r j ++ [if r.ws[j].dead then 1 else 0] := by
  unfold numsP
  rw [List.take_add_one, List.getElem?_eq_getElem h, List.map_append]
  simp
theorem textsP_succ {r : Rec} {j : Nat} (h : j < r.ws.length) : textsP r (j + 1) = (textsP r j ++ [r.ws[j].key]) ++ [r.ws[j].shard] := by
  unfold textsP
  rw [List.take_add_one, List.getElem?_eq_getElem h, List.flatMap_append]
  simp
theorem numsP_len (r : Rec) (j : Nat) : (numsP r j).length ≤ 6 + j := by
  unfold numsP
  rw [List.length_append, List.length_map, List.length_take]
  show 6 + _ ≤ _
  omega
theorem textsP_len (r : Rec) (j : Nat) : (textsP r j).length ≤ 2 + r.keys.length + 2 * j := by
  unfold textsP
  rw [List.length_cons, List.length_cons, List.length_append, flat_len, List.length_take]
  omega

/-- two new rows in a struct -/
def S25 (H : Nat) (t1 t2 : TypeId) (c1 c2 : Array Value) (n1 n2 : Nat) (v : Value) (W : World) : Prop := ∃ p q, H ≤ p ∧ H ≤ q ∧ v = .agg #[.slice (some ⟨p, 0, none⟩) n1 n1, .slice (some ⟨q, 0, none⟩) n2 n2] ∧ W.heap[p]? = some (.cells c1 t1 (0, 0)) ∧ W.heap[q]? = some (.cells c2 t2 (0, 0))

theorem S25.keep {H : Nat} {t1 t2 : TypeId} {c1 c2 : Array Value} {n1 n2 : Nat} {v : Value} {W W' : World} (h : S25 H t1 t2 c1 c2 n1 n2 v W) (hb : Below W.heap.size W W') : S25 H t1 t2 c1 c2 n1 n2 v W' := by
  obtain ⟨p, q, h1, h2, h3, h4, h5⟩ := h
  exact ⟨p, q, h1, h2, h3, (hb.block p (Array.getElem?_eq_some_iff.1 h4).1).trans h4, (hb.block q (Array.getElem?_eq_some_iff.1 h5).1).trans h5⟩

/-- blocks of unlike types are unlike -/
theorem blk_ne {W : World} {p q : Nat} {a b : Array Value} {s t : TypeId} {m n : Nat × Nat} (h : W.heap[p]? = some (.cells a s m)) (h2 : W.heap[q]? = some (.cells b t n)) (hst : s ≠ t) : p ≠ q := fun e => by
  subst e
  rw [h] at h2
  simp only [Option.some.injEq, Obj.cells.injEq] at h2
  exact hst h2.2.1

set_option maxRecDepth 20000 in
set_option maxHeartbeats 8000000 in
theorem bytes_any (A B : Option Addr) (c d : Nat) (r : Rec) (w : World) (ha : StrsAt w A r.keys) (hb : WrsAt w B r.ws) (hA : A = none → c = 0) (hok : RecOk r) :
    Calls Try.prog 22 #[recV r A B c d] w fun e w' => e = .returned (.string ⟨(recL r).toArray⟩) ∧ Below w.heap.size w w' := by
  obtain ⟨i0, hi, hz0, hz1, hz2⟩ := info_parts Try.infoStr
  obtain ⟨i1, hi', hz0', hz1', hz2'⟩ := info_parts Pk.Try.infoInt
  have henv := RcEnv.start (c := c) (d := d) ha hb
  have hbd := hok.bounds
  have nk : r.keys.length ≤ 16 := hbd.1
  have nw : r.ws.length ≤ 16 := hbd.2.1
  have pk : (r.keys.length : Int) ≤ 16 := by omega
  have pw : (r.ws.length : Int) ≤ 16 := by omega
  have HM := Lib.hid hok.pack
  have HAn := Lib.hid hA
  have HO1 := Lib.hid (fun W => show Calls Try.prog 43 #[.bool r.dead] W fun e w' => e = .returned (.int .i64 (flag r.dead)) ∧ w' = W from one_any r.dead W)
  clear ha hb hbd hok hA
  unfold recV
  go_enter Try.func22, Try.ntmps22
  go_upto_region 1 with fail
  generalize w.alloc (.cells #[.int .i64 r.kind, .int .i64 r.txn, .int .i64 r.ts, .int .i64 r.coord, .string r.key, .string r.text, .bool r.dead, .slice A r.keys.length c, .slice B r.ws.length d] 25) = W1 at henv ⊢
  have HE := Lib.hid henv
  clear henv
  refine wp_region_said 22 [5, 6, 7, 8, 9, 10, 11, 12, 13, 14, 15, 16, 17, 18, 19, 20, 21, 22, 23, 24, 25, 3]
    [.is (.pointer (some ⟨w.heap.size, 0, none⟩)), .is (.int .i64 r.kind), .is (.pointer (some ⟨w.heap.size, 1, none⟩)), .is (.int .i64 r.txn), .is (.pointer (some ⟨w.heap.size, 2, none⟩)), .is (.int .i64 r.ts), .is (.pointer (some ⟨w.heap.size, 3, none⟩)), .is (.int .i64 r.coord), .is (.pointer (some ⟨w.heap.size, 6, none⟩)), .is (.bool r.dead), .is (.int .i64 (flag r.dead)), .is (.pointer (some ⟨w.heap.size, 7, none⟩)), .is (.slice A r.keys.length c), .is (.int .i64 (r.keys.length : Int)), .arr 3 #[.int .i64 r.kind, .int .i64 r.txn, .int .i64 r.ts, .int .i64 r.coord, .int .i64 (flag r.dead), .int .i64 (r.keys.length : Int)] 6 6, .is (.pointer (some ⟨w.heap.size, 4, none⟩)), .is (.string r.key), .is (.pointer (some ⟨w.heap.size, 5, none⟩)), .is (.string r.text), .arr 9 #[.string r.key, .string r.text] 2 2, .own (S25 W1.heap.size 3 9 #[.int .i64 r.kind, .int .i64 r.txn, .int .i64 r.ts, .int .i64 r.coord, .int .i64 (flag r.dead), .int .i64 (r.keys.length : Int)] #[.string r.key, .string r.text] 6 2) (fun _ _ _ h hb => h.keep hb), .blk 48 #[.slice none 0 0, .slice none 0 0]]
    (fun W => RcEnv w W w.heap.size A B c d r ∧ Below W1.heap.size W1 W) (by kernel_rfl) (by kernel_rfl) (by kernel_rfl) (by kernel_rfl) (by kernel_rfl) (fun W W' h hb => ⟨h.1.step hb, h.2.trans (hb.mono h.2.size)⟩) ⟨HE.out, Below.refl _ _⟩ ?steps1 ?last1
  case steps1 =>
    simp only [List.take_succ_cons, List.take_zero]
    refine ⟨?_, ?_, ?_, ?_, ?_, ?_, ?_, ?_, ?_, ?_, ?_, ?_, ?_, ?_, ?_, ?_, ?_, ?_, ?_, ?_, ?_, ?_, trivial⟩
    all_goals
      intro vs W ρ hρ hc hf hg hI hH hd R' hR
      have k0 := hI.1.cel.cell (i := 0) rfl
      have k1 := hI.1.cel.cell (i := 1) rfl
      have k2 := hI.1.cel.cell (i := 2) rfl
      have k3 := hI.1.cel.cell (i := 3) rfl
      have k4 := hI.1.cel.cell (i := 4) rfl
      have k5 := hI.1.cel.cell (i := 5) rfl
      have k6 := hI.1.cel.cell (i := 6) rfl
      have k7 := hI.1.cel.cell (i := 7) rfl
      have k8 := hI.1.cel.cell (i := 8) rfl
      have HR := Lib.hid hR
      simp [depsOf, Region.binds, sayAt, Say.holds] at hd
      clear hR hI
    case refine_21 =>
      obtain ⟨⟨p, hp1, hp2, hp3, hp4⟩, q, hq1, hq2, hq3, hq4⟩ := hd
      go_simp
      exact HR.out _ _ ⟨p, q, hp1, hq1, rfl, hp4, hq4⟩ (Below.refl _ _) (fun h => by cases h)
    case refine_22 =>
      go_simp
      exact HR.out _ _ ⟨_, hH, by simp, rfl, heap_alloc_new _ _⟩ ((Below.refl _ _).alloc (Nat.le_refl _) _) (fun _ => rfl)
    all_goals
      go_simp
      first
        | exact HR.out _ _ (by simp [sayAt, Say.holds]) (Below.refl _ _) (by simp [sayAt, Say.isBlk])
        | exact HR.out _ _ ⟨_, hH, by simp, rfl, heap_alloc_new _ _⟩ ((Below.refl _ _).alloc (Nat.le_refl _) _) (fun h => by cases h)
        | (refine (HO1.out _).mono ?_; rintro e w' ⟨rfl, rfl⟩; exact ⟨_, rfl, HR.out _ _ (by simp [sayAt, Say.holds]) (Below.refl _ _) (by simp [sayAt, Say.isBlk])⟩)
        | trace_state
  case last1 =>
  intro vs W hI hb hg hd
  obtain ⟨p, q, hp1, hq1, g20, hp2, hq2⟩ := hg 20 (by omega)
  obtain ⟨g, ho1, ho2, g21, ho⟩ := hg 21 (by omega)
  simp only [List.take_succ_cons, List.take_zero, List.drop_succ_cons, List.drop_zero, putAll, Act.put, List.setIfInBounds_toArray, List.set_cons_succ, List.set_cons_zero, Nat.zero_add, Nat.reduceAdd]
  rw [g20, g21]
  have hpq := blk_ne hp2 hq2 (by decide)
  have hpo := blk_ne hp2 ho (by decide)
  have hqo := blk_ne hq2 ho (by decide)
  clear g20 g21 hg hd hb
  refine wpList_plain rfl fun K2 hK2 => ?_
  refine wp_store_row 48 (.tmp 3) (.tmp 25) rfl g _ rfl rfl _ _ ho (by kernel_rfl) rfl (by simp [Value.oneCell']) ?_
  refine hK2 _ _ ?_
  clear hK2 K2
  have hbt : BtEnv W1 (W.setRow g #[.slice (some ⟨p, 0, none⟩) 6 6, .slice (some ⟨q, 0, none⟩) 2 2]) W1.heap.size g (.slice (some ⟨p, 0, none⟩) 6 6) (.slice (some ⟨q, 0, none⟩) 2 2) (numsP r 0) [r.key, r.text] := by
    refine ⟨setRow_heap _ _ _ _ 48 (0, 0) ho, ?_, ?_, ?_, ?_, ?_, ho1, below_row hI.2 ho1 _⟩
    · have e : (numsP r 0).length = 6 := by simp [numsP]
      rw [e]
      exact ⟨by rw [intV_len, e], .inr ⟨p, 6, _, rfl, hp1, (setRow_other _ _ _ _ hpo).trans hp2, Nat.le_refl _, by unfold maxLen; omega, rfl, by simp [numsP, intV]⟩⟩
    · exact ⟨rfl, .inr ⟨q, 2, _, rfl, hq1, (setRow_other _ _ _ _ hqo).trans hq2, Nat.le_refl _, by unfold maxLen; omega, rfl, rfl⟩⟩
    · intro j h1 h2; simp [Value.ownBlock] at h1 h2; omega
    · simp [Value.ownBlock]; exact hpo
    · simp [Value.ownBlock]; exact hqo
  generalize W.setRow g #[.slice (some ⟨p, 0, none⟩) 6 6, .slice (some ⟨q, 0, none⟩) 2 2] = W2 at hbt ⊢
  go_upto_region 2 with fail
  have hk7 := (HE.out.step hbt.bel).cel.cell (i := 7) rfl
  have hc1 := hbt.c1
  have HBt := Lib.hid hbt
  have HA2 := Lib.hid (show A = none → r.keys.length = 0 ∧ c = 0 from fun e => by
      refine ⟨?_, HAn.out e⟩
      rcases Nat.eq_zero_or_pos r.keys.length with h | h
      · exact h
      · obtain ⟨ad, h2, _⟩ := HE.out.ks h; rw [e] at h2; cases h2)
  clear hbt hI hp1 hq1 hp2 hq2 ho ho1 ho2 hpq hpo hqo
  generalize (Value.slice (some ⟨p, 0, none⟩) 6 6) = vp at *
  generalize (Value.slice (some ⟨q, 0, none⟩) 2 2) = vq at *
  clear p q
  go_wp2_with (at_builtin; refine wpList_append_opt rfl _ _ 22 rfl W1.heap.size 9 i0 (.string ⟨#[]⟩) 16 Try.underlying22 hi hz0 hz1 hz2 rfl _ 2 _ rfl HBt.out.r1 A r.keys.length c (strV r.keys) rfl (strV_len _) HA2.out ?c1 ?c2 ?c3 ?c4 HBt.out.lt ?_)
  case c1 => exact fun ad e => by subst e; exact (HE.out.step HBt.out.bel).ks.news
  case c2 => intro u hu; obtain ⟨s, _, rfl⟩ := List.mem_map.1 hu; rfl
  case c3 => unfold maxLen; omega
  case c4 => omega
  intro v' w3 ho hg hat
  obtain ⟨gn, capn, rfl, _, _⟩ := World.ownsRow.form ho (by omega)
  obtain ⟨hce, hbt2⟩ := BtEnv.grow2 (ts' := textsP r 0) HBt.out (by
    have e : strV [r.key, r.text] ++ strV r.keys = strV (textsP r 0) := by simp [strV, textsP]
    rw [← e]; exact ho) (by simp [textsP]; omega) hg hat
  have hf1 := hce.cell (i := 1) rfl
  have hf2 := hce.free (i := 1)
  have HBt2 := Lib.hid hbt2
  clear ho hg hat hce hbt2 HBt hk7 hc1
  go_upto_region 3 with fail
  obtain ⟨u2, hu2⟩ : ∃ u, u = Value.slice (some ⟨gn, 0, none⟩) (2 + r.keys.length) capn := ⟨_, rfl⟩
  rw [← hu2] at HBt2 ⊢
  generalize w3.setCell ⟨g, 1, none⟩ u2 = W4 at HBt2 ⊢
  clear hf1 hf2 hu2
  go_wp2_with fail
  go_loopw [4] (fun i wr => ∃ (j : Nat) (v1 v2 : Value), j ≤ r.ws.length ∧ i = .int .i64 (j : Int) ∧ Hid (BtEnv W1 wr W1.heap.size g v1 v2 (numsP r j) (textsP r j))) (fun i _ => r.ws.length - (intOf i).toNat)
  case atStart => exact ⟨0, _, _, by omega, rfl, HBt2.out⟩
  case round =>
    obtain ⟨j, v1, v2, hj, rfl, hbt⟩ := hrel
    clear HBt2
    have hle := HE.out.step hbt.out.bel
    have k8 := hle.cel.cell (i := 8) rfl
    by_cases hlt : j < r.ws.length
    · have pj : (j : Int) < (r.ws.length : Int) := by omega
      obtain ⟨bd, rfl, _, _⟩ := hle.ws (by omega)
      obtain ⟨X, hX⟩ : ∃ X, X = r.ws[j] := ⟨_, rfl⟩
      have hC : ∀ W, Below W1.heap.size W1 W → W.cell? ⟨w.heap.size, 8, none⟩ = some (.slice (some bd) r.ws.length d) ∧ W.cell? (bd.add (j * 3)) = some (.string X.key) ∧ W.cell? ⟨(bd.add (j * 3)).block, (bd.add (j * 3)).off + 1, none⟩ = some (.string X.shard) ∧ W.cell? ⟨(bd.add (j * 3)).block, (bd.add (j * 3)).off + 2, none⟩ = some (.bool X.dead) := fun W hW => by
        have h := HE.out.step hW
        obtain ⟨bd', e1, _, hcb⟩ := h.ws (by omega)
        obtain rfl := Option.some.inj e1
        obtain ⟨y0, y1, y2⟩ := hcb j hlt
        rw [add_field _ _ _ (by omega), add_field _ _ _ (by omega), hX]
        exact ⟨h.cel.cell (i := 8) rfl, y0, y1, y2⟩
      have HC := Lib.hid hC
      have HO := Lib.hid (fun W => one_any X.dead W)
      have hns := numsP_succ hlt
      have hts := textsP_succ hlt
      rw [← hX] at hns hts
      have HNs := Lib.hid hns
      have HTs := Lib.hid hts
      have hnl := numsP_len r j
      have htl := textsP_len r j
      clear hC hns hts hle hX
      obtain ⟨xk, xs, xd⟩ := X
      simp only at *
      go_upto_region 6 with fail
      refine wp_region_said 10 [39, 40, 41, 42, 43, 44, 45, 46, 47, 48]
        [.is (.pointer (some ⟨g, 0, none⟩)), .is v1, .is (.pointer (some ⟨w.heap.size, 8, none⟩)), .is (.slice (some bd) r.ws.length d), .is (.int .i64 (j : Int)), .is (.pointer (some (bd.add (j * 3)))), .is (.pointer (some ⟨(bd.add (j * 3)).block, (bd.add (j * 3)).off + 2, none⟩)), .is (.bool xd), .is (.int .i64 (if xd then 1 else 0)), .arr 3 #[.int .i64 (if xd then 1 else 0)] 1 1]
        (fun W => BtEnv W1 W W1.heap.size g v1 v2 (numsP r j) (textsP r j)) (by kernel_rfl) (by kernel_rfl) (by kernel_rfl) (by kernel_rfl) (by kernel_rfl) (fun W W' h hb => h.step hb) hbt.out ?steps ?last
      case steps =>
        simp only [List.take_succ_cons, List.take_zero]
        refine ⟨?_, ?_, ?_, ?_, ?_, ?_, ?_, ?_, ?_, ?_, trivial⟩
        all_goals
          intro vs W ρ hρ hc hf hg hI hH hd R' hR
          obtain ⟨z8, z0, z1, z2⟩ := HC.out W hI.bel
          have q0 := hI.c0
          have HR := Lib.hid hR
          simp [depsOf, Region.binds, sayAt, Say.holds] at hd
          clear hR hI k8
          go_simp
          first
            | exact HR.out _ _ (by simp [sayAt, Say.holds]) (Below.refl _ _) (by simp [sayAt, Say.isBlk])
            | exact HR.out _ _ ⟨_, hH, by simp, rfl, heap_alloc_new _ _⟩ ((Below.refl _ _).alloc (Nat.le_refl _) _) (fun h => by cases h)
            | (refine (HO.out _).mono ?_; rintro e w' ⟨rfl, rfl⟩; exact ⟨_, rfl, HR.out _ _ (by simp [sayAt, Say.holds]) (Below.refl _ _) (by simp [sayAt, Say.isBlk])⟩)
            | trace_state
      case last =>
        intro vs W hI hb hg hd
        have g1 := hg 1 (by omega)
        obtain ⟨o, ho1, ho2, g9, ho⟩ := hg 9 (by omega)
        simp only [sayAt, Say.holds, List.getD_cons_succ, List.getD_cons_zero] at g1
        simp only [List.take_succ_cons, List.take_zero, List.drop_succ_cons, List.drop_zero, putAll, Act.put, List.setIfInBounds_toArray, List.set_cons_succ, List.set_cons_zero, Nat.zero_add, Nat.reduceAdd]
        rw [g1, g9]
        have HI := Lib.hid hI
        clear g1 g9 hg hd hI hbt k8
        refine wpList_append_own_at _ rfl _ _ 46 rfl W1.heap.size 3 i1 (.int .i64 0) 1 8 Try.underlying46 hi' hz0' hz1' hz2' rfl (by decide) _ _ _ rfl HI.out.r0 ⟨o, 0, none⟩ 1 1 [.int .i64 (if xd then 1 else 0)] rfl rfl ?d1 ?d2 ?d3 ?d4 HI.out.lt ?_
        case d1 => exact str_one ho
        case d2 => intro u hu; simp at hu; subst hu; rfl
        case d3 => unfold maxLen; omega
        case d4 => omega
        intro v' w5 hown' hgrow _ hat
        obtain ⟨gn, capn, rfl, _, _⟩ := World.ownsRow.form hown' (by omega)
        obtain ⟨hce, hbt2⟩ := BtEnv.grow1 (ns' := numsP r (j + 1)) HI.out (by rw [HNs.out, intV_snoc]; exact hown') (by rw [HNs.out, List.length_append]; rfl) hgrow hat
        have hf1 := hce.cell (i := 0) rfl
        have hf2 := hce.free (i := 0)
        have HBt3 := Lib.hid hbt2
        clear hown' hgrow hat HI ho ho1 ho2 hb hce hbt2
        go_upto_region 7 with fail
        obtain ⟨va, hva⟩ : ∃ u, u = Value.slice (some ⟨gn, 0, none⟩) ((numsP r j).length + 1) capn := ⟨_, rfl⟩
        rw [← hva] at HBt3 ⊢
        generalize w5.setCell ⟨g, 0, none⟩ va = W5 at HBt3 ⊢
        clear hf1 hf2 hva
        refine wp_region_said 9 [51, 52, 53, 54, 55, 56, 57, 58, 59]
          [.is (.pointer (some ⟨g, 1, none⟩)), .is v2, .is (.pointer (some ⟨w.heap.size, 8, none⟩)), .is (.slice (some bd) r.ws.length d), .is (.int .i64 (j : Int)), .is (.pointer (some (bd.add (j * 3)))), .is (.pointer (some (bd.add (j * 3)))), .is (.string xk), .arr 9 #[.string xk] 1 1]
          (fun W => BtEnv W1 W W1.heap.size g va v2 (numsP r (j + 1)) (textsP r j)) (by kernel_rfl) (by kernel_rfl) (by kernel_rfl) (by kernel_rfl) (by kernel_rfl) (fun W W' h hb => h.step hb) HBt3.out ?steps7 ?last7
        case steps7 =>
          simp only [List.take_succ_cons, List.take_zero]
          refine ⟨?_, ?_, ?_, ?_, ?_, ?_, ?_, ?_, ?_, trivial⟩
          all_goals
            intro vs W ρ hρ hc hf hg hI hH hd R' hR
            obtain ⟨z8, z0, z1, z2⟩ := HC.out W hI.bel
            have q1 := hI.c1
            have HR := Lib.hid hR
            simp [depsOf, Region.binds, sayAt, Say.holds] at hd
            clear hR hI
            go_simp
            first
              | exact HR.out _ _ (by simp [sayAt, Say.holds]) (Below.refl _ _) (by simp [sayAt, Say.isBlk])
              | exact HR.out _ _ ⟨_, hH, by simp, rfl, heap_alloc_new _ _⟩ ((Below.refl _ _).alloc (Nat.le_refl _) _) (fun h => by cases h)
              | trace_state
        case last7 =>
          intro vs W hI hb hg hd
          have g1 := hg 1 (by omega)
          obtain ⟨o, ho1, ho2, g8, ho⟩ := hg 8 (by omega)
          simp only [sayAt, Say.holds, List.getD_cons_succ, List.getD_cons_zero] at g1
          simp only [List.take_succ_cons, List.take_zero, List.drop_succ_cons, List.drop_zero, putAll, Act.put, List.setIfInBounds_toArray, List.set_cons_succ, List.set_cons_zero, Nat.zero_add, Nat.reduceAdd]
          rw [g1, g8]
          have HI := Lib.hid hI
          clear g1 g8 hg hd hI HBt3
          refine wpList_append_own_at _ rfl _ _ 22 rfl W1.heap.size 9 i0 (.string ⟨#[]⟩) 1 16 Try.underlying22 hi hz0 hz1 hz2 rfl (by decide) _ _ _ rfl HI.out.r1 ⟨o, 0, none⟩ 1 1 [.string xk] rfl rfl ?d17 ?d27 ?d37 ?d47 HI.out.lt ?_
          case d17 => exact str_one ho
          case d27 => intro u hu; simp at hu; subst hu; rfl
          case d37 => unfold maxLen; first | omega | (simp; omega)
          case d47 => first | omega | (simp; omega)
          intro v' w5 hown' hgrow _ hat
          obtain ⟨gm, capm, rfl, _, _⟩ := World.ownsRow.form hown' (by omega)
          obtain ⟨hce, hbt2⟩ := BtEnv.grow2 (ts' := (textsP r j ++ [xk])) HI.out (by rw [Pk.strV_snoc2]; exact hown') (by rw [List.length_append]; rfl) hgrow hat
          have hf1 := hce.cell (i := 1) rfl
          have hf2 := hce.free (i := 1)
          have HBt4 := Lib.hid hbt2
          clear hown' hgrow hat HI ho ho1 ho2 hb hce hbt2
          go_upto_region 8 with fail
          obtain ⟨vb, hvb⟩ : ∃ u, u = Value.slice (some ⟨gm, 0, none⟩) ((textsP r j).length + 1) capm := ⟨_, rfl⟩
          rw [← hvb] at HBt4 ⊢
          generalize w5.setCell ⟨g, 1, none⟩ vb = W6 at HBt4 ⊢
          clear hf1 hf2 hvb
          refine wp_region_said 9 [62, 63, 64, 65, 66, 67, 68, 69, 70]
            [.is (.pointer (some ⟨g, 1, none⟩)), .is vb, .is (.pointer (some ⟨w.heap.size, 8, none⟩)), .is (.slice (some bd) r.ws.length d), .is (.int .i64 (j : Int)), .is (.pointer (some (bd.add (j * 3)))), .is (.pointer (some ⟨(bd.add (j * 3)).block, (bd.add (j * 3)).off + 1, none⟩)), .is (.string xs), .arr 9 #[.string xs] 1 1]
            (fun W => BtEnv W1 W W1.heap.size g va vb (numsP r (j + 1)) (textsP r j ++ [xk])) (by kernel_rfl) (by kernel_rfl) (by kernel_rfl) (by kernel_rfl) (by kernel_rfl) (fun W W' h hb => h.step hb) HBt4.out ?steps8 ?last8
          case steps8 =>
            simp only [List.take_succ_cons, List.take_zero]
            refine ⟨?_, ?_, ?_, ?_, ?_, ?_, ?_, ?_, ?_, trivial⟩
            all_goals
              intro vs W ρ hρ hc hf hg hI hH hd R' hR
              obtain ⟨z8, z0, z1, z2⟩ := HC.out W hI.bel
              have q1 := hI.c1
              have HR := Lib.hid hR
              simp [depsOf, Region.binds, sayAt, Say.holds] at hd
              clear hR hI
              go_simp
              first
                | exact HR.out _ _ (by simp [sayAt, Say.holds]) (Below.refl _ _) (by simp [sayAt, Say.isBlk])
                | exact HR.out _ _ ⟨_, hH, by simp, rfl, heap_alloc_new _ _⟩ ((Below.refl _ _).alloc (Nat.le_refl _) _) (fun h => by cases h)
                | trace_state
          case last8 =>
            intro vs W hI hb hg hd
            have g1 := hg 1 (by omega)
            obtain ⟨o, ho1, ho2, g8, ho⟩ := hg 8 (by omega)
            simp only [sayAt, Say.holds, List.getD_cons_succ, List.getD_cons_zero] at g1
            simp only [List.take_succ_cons, List.take_zero, List.drop_succ_cons, List.drop_zero, putAll, Act.put, List.setIfInBounds_toArray, List.set_cons_succ, List.set_cons_zero, Nat.zero_add, Nat.reduceAdd]
            rw [g1, g8]
            have HI := Lib.hid hI
            clear g1 g8 hg hd hI HBt4
            refine wpList_append_own_at _ rfl _ _ 22 rfl W1.heap.size 9 i0 (.string ⟨#[]⟩) 1 16 Try.underlying22 hi hz0 hz1 hz2 rfl (by decide) _ _ _ rfl HI.out.r1 ⟨o, 0, none⟩ 1 1 [.string xs] rfl rfl ?d18 ?d28 ?d38 ?d48 HI.out.lt ?_
            case d18 => exact str_one ho
            case d28 => intro u hu; simp at hu; subst hu; rfl
            case d38 => unfold maxLen; first | omega | (simp; omega)
            case d48 => first | omega | (simp; omega)
            intro v' w5 hown' hgrow _ hat
            obtain ⟨gm, capm, rfl, _, _⟩ := World.ownsRow.form hown' (by omega)
            obtain ⟨hce, hbt2⟩ := BtEnv.grow2 (ts' := (textsP r (j + 1))) HI.out (by rw [HTs.out, Pk.strV_snoc2]; exact hown') (by rw [HTs.out]; simp) hgrow hat
            have hf1 := hce.cell (i := 1) rfl
            have hf2 := hce.free (i := 1)
            rw [show (textsP r j ++ [xk]).length = (textsP r j).length + 1 by simp] at hbt2
            have HBt5 := Lib.hid hbt2
            clear hown' hgrow hat HI ho ho1 ho2 hb hce hbt2
            go_wp2_with fail
            go_roundw
            case rel => exact ⟨j + 1, _, _, by omega, by go_num, HBt5.out⟩
            case measure => simp [intOf]; omega
    · obtain rfl : j = r.ws.length := by omega
      have hb2 := hbt.out
      rw [numsP_all, textsP_all] at hb2
      obtain ⟨A1, cA, rfl, hI1⟩ := ints_of_own hb2.r0 rfl
      obtain ⟨B1, cB, rfl, hS1⟩ := strs_of_own2 hb2.r1 rfl
      have HBy := Lib.hid (Pk.bytes_any A1 B1 cA cB (numsOf r) (textsOf r) wr hI1 hS1 HM.out)
      unfold Pk.packV at HBy
      have q0 := hb2.c0
      have q1 := hb2.c1
      have HBel := Lib.hid (HE.out.bel.trans (hb2.bel.mono HE.out.bel.size))
      have E := Lib.hid (show (⟨(recL r).toArray⟩ : ByteArray) = ⟨(Pk.bytesL (numsOf r) (textsOf r)).toArray⟩ from rfl)
      clear hbt hb2 hI1 hS1 hle
      go_wp2_with fail
      refine HBy.out.mono ?_
      rintro e w7 ⟨rfl, hb⟩
      have HB7 := Lib.hid (HBel.out.trans (hb.mono HBel.out.size))
      clear hb HBy
      go_wp2_with fail
      go_ret
      exact ⟨by rw [E.out]; rfl, HB7.out⟩

end Rc
end Go.Proofs.Ytibekhigpamnjaa
