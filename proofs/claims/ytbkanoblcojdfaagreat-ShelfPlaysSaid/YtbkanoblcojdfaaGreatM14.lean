/- Parts of the proof, joined: ShRef6, ShRef7, FloatK; their conditions stand with each. -/
import Derived.Test.YtbkanoblcojdfaaGreatM1
import Derived.Test.YtbkanoblcojdfaaGreatM2
import Derived.Test.YtbkanoblcojdfaaGreatM13

namespace Go.Proofs.YtbkanoblcojdfaaGreat
namespace Sh
open Go.RowKit Bk Ch Lt Rc Tr
attribute [local go_sem ↓] Go.wp_at_zero Go.wp_at_succ
attribute [local go_sem] floatUpon pick
section
variable {W : World} {F : Nat → Prop} {g : Nat} {A B C : Option Addr} {a b c : Nat} {K : List KI} {P : List RI} {s : Shf}
set_option maxRecDepth 20000 in
set_option maxHeartbeats 8000000 in
theorem rprepw_any (h : RAt W F g A B C a b c K P s) (hs : ShOk s) (txn : Int) :
    Calls Tryz.prog 60 #[.pointer (some ⟨g, 0, none⟩), .int .i64 txn] W fun e w' => ∃ v, e = .returned (.tuple #[v, .bool (prepR s txn).2]) ∧ RecF w' (G F g) (prepR s txn).1 v ∧ Below W.heap.size W w' := by
  have HP := Lib.hid (fun V (hb : Below W.heap.size W V) => rprep_any (h.below hb) hs.pl txn)
  have HH := Lib.hid (fun V (hb : Below W.heap.size W V) => h.below hb)
  have hPl : P.length = s.p.length := h.plen
  have hPi : (P.length : Int) ≤ 1024 := by have := hs.pl; omega
  have HPl := Lib.hid hPl
  clear h hs hPl
  go_enter Tryz.func60, Tryz.ntmps60
  go_upto_region 1 with fail
  have hR0 : Cel (W.alloc (.cells #[.int .i64 0, .int .i64 0, .int .i64 0, .int .i64 0, .string ⟨#[]⟩, .string ⟨#[]⟩, .bool false, .slice none 0 0, .slice none 0 0] 37)) W.heap.size 37 [.int .i64 0, .int .i64 0, .int .i64 0, .int .i64 0, .string ⟨#[]⟩, .string ⟨#[]⟩, .bool false, .slice none 0 0, .slice none 0 0] := (blk1 W _).2
  have hB0 : Below W.heap.size W (W.alloc (.cells #[.int .i64 0, .int .i64 0, .int .i64 0, .int .i64 0, .string ⟨#[]⟩, .string ⟨#[]⟩, .bool false, .slice none 0 0, .slice none 0 0] 37)) := (Below.refl _ W).alloc (Nat.le_refl _) _
  generalize hW0 : W.alloc (.cells #[.int .i64 0, .int .i64 0, .int .i64 0, .int .i64 0, .string ⟨#[]⟩, .string ⟨#[]⟩, .bool false, .slice none 0 0, .slice none 0 0] 37) = W0 at hR0 hB0 ⊢
  clear hW0
  have HB0 := Lib.hid hB0
  have HR0 := Lib.hid hR0
  clear hB0 hR0
  go_wp2_with fail
  refine (HP.out _ HB0.out).mono ?_
  rintro e1 w1 ⟨n, rfl, hpa, hb⟩
  have HB := Lib.hid (HB0.out.trans (hb.mono HB0.out.size))
  have HR := Lib.hid (HR0.out.below hb)
  clear hb HP HB0 HR0
  have zq := fun i => HR.out.free (i := i)
  have q0 := HR.out.cell (i := 0) rfl
  have q1 := HR.out.cell (i := 1) rfl
  have q2 := HR.out.cell (i := 2) rfl
  have q3 := HR.out.cell (i := 3) rfl
  have q4 := HR.out.cell (i := 4) rfl
  have q5 := HR.out.cell (i := 5) rfl
  have q6 := HR.out.cell (i := 6) rfl
  have q7 := HR.out.cell (i := 7) rfl
  have q8 := HR.out.cell (i := 8) rfl
  rcases hpa with ⟨rfl, hno⟩ | ⟨j, hj, rfl, hj1, hj2⟩
  · have E := Lib.hid (show prepR s txn = (noRec, false) by unfold prepR; rw [prep_none.2 hno])
    clear hno
    go_wp2_with fail
    have HF := Lib.hid (set9_cel (v0 := .int .i64 0) (v1 := .int .i64 0) (v2 := .int .i64 0) (v3 := .int .i64 0) (v4 := .string ⟨#[]⟩) (v5 := .string ⟨#[]⟩) (v6 := .bool false) (v7 := .slice none 0 0) (v8 := .slice none 0 0) HR.out)
    have z0 := HF.out.cell (i := 0) rfl
    have z1 := HF.out.cell (i := 1) rfl
    have z2 := HF.out.cell (i := 2) rfl
    have z3 := HF.out.cell (i := 3) rfl
    have z4 := HF.out.cell (i := 4) rfl
    have z5 := HF.out.cell (i := 5) rfl
    have z6 := HF.out.cell (i := 6) rfl
    have z7 := HF.out.cell (i := 7) rfl
    have z8 := HF.out.cell (i := 8) rfl
    unfold set9 at z0 z1 z2 z3 z4 z5 z6 z7 z8
    exact bodyPost_ret (v := .tuple #[.agg (rcs ⟨noRec, none, none, 0, 0⟩).toArray, .bool false]) (by simp [results, Tryz.results60, go_sem, rcs, noRec, z0, z1, z2, z3, z4, z5, z6, z7, z8]) rfl ⟨_, by rw [E.out], ⟨_, by rw [E.out], rfl, no_pval _ _⟩, set9_below HB.out (Nat.le_refl _)⟩
  · have hlt : j < P.length := by rw [HPl.out]; exact hj
    have hR := HH.out _ HB.out
    have s1 := hR.cel.cell (i := 1) rfl
    obtain ⟨ad, rfl, _, hcl⟩ := hR.one hlt
    have hpg : s.p[j] = P[j].l := pget hR hj
    have E := Lib.hid (show prepR s txn = (P[j].l, true) by unfold prepR; rw [(prep_first hj hj1 hj2).1, hpg])
    have hpv := (HH.out W (Below.refl _ _)).pv _ (List.getElem_mem hlt)
    have pj : (j : Int) < (P.length : Int) := by omega
    have p0 : ¬ (j : Int) < 0 := by omega
    have x0 := hcl 0 _ rfl
    have x1 := hcl 1 _ rfl
    have x2 := hcl 2 _ rfl
    have x3 := hcl 3 _ rfl
    have x4 := hcl 4 _ rfl
    have x5 := hcl 5 _ rfl
    have x6 := hcl 6 _ rfl
    have x7 := hcl 7 _ rfl
    have x8 := hcl 8 _ rfl
    rw [← Ch.add_field _ _ _ (by omega)] at x1 x2 x3 x4 x5 x6 x7 x8
    rw [Nat.add_zero] at x0
    generalize P[j] = X at x0 x1 x2 x3 x4 x5 x6 x7 x8 E hpv
    obtain ⟨r, A', B', c', d'⟩ := X
    simp only at x0 x1 x2 x3 x4 x5 x6 x7 x8 E
    have HPv := Lib.hid hpv
    clear hcl hR hpg hpv hj1 hj2
    go_wp2_with fail
    have HF := Lib.hid (set9_cel (v0 := .int .i64 r.kind) (v1 := .int .i64 r.txn) (v2 := .int .i64 r.ts) (v3 := .int .i64 r.coord) (v4 := .string r.key) (v5 := .string r.text) (v6 := .bool r.dead) (v7 := .slice A' r.keys.length c') (v8 := .slice B' r.ws.length d') HR.out)
    have HBF := set9_below (R := W.heap.size) (v0 := .int .i64 r.kind) (v1 := .int .i64 r.txn) (v2 := .int .i64 r.ts) (v3 := .int .i64 r.coord) (v4 := .string r.key) (v5 := .string r.text) (v6 := .bool r.dead) (v7 := .slice A' r.keys.length c') (v8 := .slice B' r.ws.length d') HB.out (Nat.le_refl _)
    have z0 := HF.out.cell (i := 0) rfl
    have z1 := HF.out.cell (i := 1) rfl
    have z2 := HF.out.cell (i := 2) rfl
    have z3 := HF.out.cell (i := 3) rfl
    have z4 := HF.out.cell (i := 4) rfl
    have z5 := HF.out.cell (i := 5) rfl
    have z6 := HF.out.cell (i := 6) rfl
    have z7 := HF.out.cell (i := 7) rfl
    have z8 := HF.out.cell (i := 8) rfl
    unfold set9 at z0 z1 z2 z3 z4 z5 z6 z7 z8
    refine bodyPost_ret (v := .tuple #[.agg (rcs ⟨r, A', B', c', d'⟩).toArray, .bool true]) (by simp [results, Tryz.results60, go_sem, rcs, z0, z1, z2, z3, z4, z5, z6, z7, z8]) rfl ⟨_, by rw [E.out], ⟨⟨r, A', B', c', d'⟩, by rw [E.out], rfl, ?_⟩, HBF⟩
    exact HPv.out.away (Away.of HBF)
set_option maxRecDepth 20000 in
set_option maxHeartbeats 8000000 in
theorem ropen_any (h : RAt W F g A B C a b c K P s) (hl : s.p.length ≤ 1024) :
    Calls Tryz.prog 57 #[.pointer (some ⟨g, 0, none⟩)] W fun e w' => ∃ v, e = .returned v ∧ w'.ownsRow W.heap.size 3 1 v s.p.length (intV (s.p.map (·.txn))) ∧ Below W.heap.size W w' := by
  obtain ⟨i0, hi, hz0, hz1, hz2⟩ := info_parts Tryz.infoI
  have HH := Lib.hid (fun V (hb : Below W.heap.size W V) => h.below hb)
  have hPl : P.length = s.p.length := h.plen
  have hPi : (P.length : Int) ≤ 1024 := by omega
  have HPl := Lib.hid hPl
  obtain ⟨T, hT⟩ : ∃ T, s.p.map (·.txn) = T := ⟨_, rfl⟩
  have HTl := Lib.hid (show T.length = P.length by rw [← hT, List.length_map, hPl])
  have HTg := Lib.hid (show ∀ j (h1 : j < T.length) (h2 : j < s.p.length), T[j] = s.p[j].txn from fun j h1 h2 => by simp only [← hT, List.getElem_map])
  rw [hT]
  clear h hl hPl hT
  go_enter Tryz.func57, Tryz.ntmps57
  go_wp2_with fail
  go_loopw [3, 4] (fun vv iv wr => ∃ j : Nat, j ≤ P.length ∧ iv = .int .i64 (j : Int) ∧ Hid (wr.ownsRow W.heap.size 3 1 vv j (intV (T.take j))) ∧ Hid (Below W.heap.size W wr)) (fun _ iv _ => P.length - (intOf iv).toNat)
  case atStart => exact ⟨0, Nat.zero_le _, rfl, Lib.hid (World.ownsRow_nil _ _ _ _), Lib.hid (Below.refl _ _)⟩
  case round =>
    obtain ⟨j, hj, rfl, hown, hb⟩ := hrel
    have hR := HH.out _ hb.out
    have s1 := hR.cel.cell (i := 1) rfl
    by_cases hlt : j < P.length
    · have pj : (j : Int) < (P.length : Int) := by omega
      obtain ⟨ad, rfl, _, hcl⟩ := hR.one hlt
      have x1 := hcl 1 _ rfl
      rw [← Ch.add_field _ _ _ (by omega)] at x1
      have hjs : j < s.p.length := by rw [← HPl.out]; exact hlt
      have hpg : s.p[j] = P[j].l := pget hR hjs
      have hjt : j < T.length := by rw [HTl.out]; exact hlt
      have hnext : T.take (j + 1) = T.take j ++ [P[j].l.txn] := by rw [List.take_succ_eq_append_getElem hjt, HTg.out j hjt hjs, hpg]
      have HNx := Lib.hid (congrArg intV hnext)
      generalize P[j].l.txn = tx at x1 HNx
      rw [intV_snoc] at HNx
      clear hR hcl hpg hnext
      go_wp2_with (at_builtin; refine wpList_append_own_at _ rfl _ _ 24 rfl W.heap.size 3 i0 (.int .i64 0) 1 8 Tryz.underlying24 hi hz0 hz1 hz2 rfl (by decide) _ _ _ rfl (hown.out.alloc _) ⟨wr.heap.size, 0, none⟩ 1 1 [.int .i64 tx] rfl rfl (cell_one_new _ _ _) (fun u hu => by rw [List.mem_singleton.1 hu]; rfl) ?d3 ?d4 ?d5 ?_)
      case d3 => unfold maxLen; omega
      case d4 => omega
      case d5 => have := hb.out.size; simp; omega
      intro v' w5 hown' hgrow _ hat
      have HB5 := Lib.hid ((hb.out.alloc hb.out.size (.cells #[.int .i64 tx] 3)).grown hgrow (by have := hb.out.size; simp; omega) (fun k hk => (hown.out.lt k hk).1))
      rw [← HNx.out] at hown'
      have HO5 := Lib.hid hown'
      clear hown' hgrow hat x1 s1
      go_wp2_with fail
      go_roundw
      case rel => exact ⟨j + 1, by omega, by go_num, HO5, HB5⟩
      case measure => simp [intOf]; omega
    · obtain rfl : j = P.length := by omega
      have hall : T.take P.length = T := List.take_of_length_le (by rw [HTl.out]; exact Nat.le_refl _)
      rw [hall] at hown
      have HL := Lib.hid (show wr.ownsRow W.heap.size 3 1 _ s.p.length (intV T) from HPl.out ▸ hown.out)
      clear hR
      go_wp2_with fail
      go_ret
      exact ⟨_, rfl, HL.out, hb.out⟩
end
end Sh
end Go.Proofs.YtbkanoblcojdfaaGreat

namespace Go.Proofs.YtbkanoblcojdfaaGreat
namespace Sh
open Go.RowKit Bk Ch Lt Rc Tr
attribute [local go_sem ↓] Go.wp_at_zero Go.wp_at_succ
attribute [local go_sem] floatUpon pick
section
variable {W : World} {F : Nat → Prop} {g : Nat} {A B C : Option Addr} {a b c : Nat} {K : List KI} {P : List RI} {s : Shf}
theorem RAt.setK (h : RAt W F g A B C a b c K P s) {A' : Option Addr} {a' : Nat} {K' : List KI} (hr : RowF W (G F g) A' (K'.flatMap kcs)) (hn : A' = none → K'.length = 0 ∧ a' = 0) (hl : K'.length ≤ a' ∧ a' ≤ maxLen) (hv : ∀ x ∈ K', KVal W (G F g) x) :
    RAt (W.setCell ⟨g, 0, none⟩ (.slice A' K'.length a')) F g A' B C a' b c K' P ⟨K'.map (·.k), s.p, s.e, s.over⟩ :=
  have k := away_set (F := F) W g 0 (.slice A' K'.length a')
  ⟨h.cel.set (i := 0), hr.away k, h.rp.away k, h.re.away k, fun x hx => (hv x hx).away k, fun x hx => (h.pv x hx).away k, rfl, h.ep, hn, h.bn, h.cn, hl, h.bl, h.cl, h.ng⟩
theorem RAt.setP (h : RAt W F g A B C a b c K P s) {B' : Option Addr} {b' : Nat} {P' : List RI} (hr : RowF W (G F g) B' (P'.flatMap rcs)) (hn : B' = none → P'.length = 0 ∧ b' = 0) (hl : P'.length ≤ b' ∧ b' ≤ maxLen) (hv : ∀ x ∈ P', PVal W (G F g) x) :
    RAt (W.setCell ⟨g, 1, none⟩ (.slice B' P'.length b')) F g A B' C a b' c K P' ⟨s.k, P'.map (·.l), s.e, s.over⟩ :=
  have k := away_set (F := F) W g 1 (.slice B' P'.length b')
  ⟨h.cel.set (i := 1), h.rk.away k, hr.away k, h.re.away k, fun x hx => (h.kv x hx).away k, fun x hx => (hv x hx).away k, h.ek, rfl, h.an, hn, h.cn, h.al, hl, h.cl, h.ng⟩
theorem RAt.setE (h : RAt W F g A B C a b c K P s) {C' : Option Addr} {c' : Nat} {e' : List (Int × Int)} (hr : RowF W (G F g) C' (e'.flatMap ecs)) (hn : C' = none → e'.length = 0 ∧ c' = 0) (hl : e'.length ≤ c' ∧ c' ≤ maxLen) :
    RAt (W.setCell ⟨g, 2, none⟩ (.slice C' e'.length c')) F g A B C' a b c' K P ⟨s.k, s.p, e', s.over⟩ :=
  have k := away_set (F := F) W g 2 (.slice C' e'.length c')
  ⟨h.cel.set (i := 2), h.rk.away k, h.rp.away k, hr.away k, fun x hx => (h.kv x hx).away k, fun x hx => (h.pv x hx).away k, h.ek, h.ep, h.an, h.bn, hn, h.al, h.bl, hl, h.ng⟩
theorem RAt.setO (h : RAt W F g A B C a b c K P s) (t : Int) :
    RAt (W.setCell ⟨g, 3, none⟩ (.int .i64 t)) F g A B C a b c K P ⟨s.k, s.p, s.e, t⟩ :=
  have k := away_set (F := F) W g 3 (.int .i64 t)
  ⟨h.cel.set (i := 3), h.rk.away k, h.rp.away k, h.re.away k, fun x hx => (h.kv x hx).away k, fun x hx => (h.pv x hx).away k, h.ek, h.ep, h.an, h.bn, h.cn, h.al, h.bl, h.cl, h.ng⟩
theorem kcs_one (L : List KI) : ∀ u ∈ L.flatMap kcs, u.oneCell' = true := fun u hu => by
  obtain ⟨x, _, hx⟩ := List.mem_flatMap.1 hu
  unfold kcs at hx
  simp only [List.mem_cons, List.not_mem_nil, or_false] at hx
  rcases hx with rfl | rfl <;> rfl
theorem ecs_one (L : List (Int × Int)) : ∀ u ∈ L.flatMap ecs, u.oneCell' = true := fun u hu => by
  obtain ⟨x, _, hx⟩ := List.mem_flatMap.1 hu
  unfold ecs at hx
  simp only [List.mem_cons, List.not_mem_nil, or_false] at hx
  rcases hx with rfl | rfl <;> rfl
theorem put_is {k : List Kc} (h : Sorted k) (key : ByteArray) (l : List Vr) : putK k key l = k.take (aheadN k key) ++ ⟨key, l⟩ :: k.drop (if hasK k key then aheadN k key + 1 else aheadN k key) := by
  induction k with
  | nil => simp [putK, aheadN, hasK, findK]
  | cons x r ih =>
    obtain ⟨h1, h2⟩ := List.pairwise_cons.1 h
    have ih := ih h2
    unfold putK
    by_cases hl : ltK x.name key = true
    · have e : aheadN (x :: r) key = aheadN r key + 1 := by unfold aheadN; rw [List.takeWhile_cons_of_pos (by simpa using hl), List.length_cons]
      have e2 : hasK (x :: r) key = hasK r key := by unfold hasK findK; rw [List.find?_cons_of_neg (by simp; exact lt_ne hl)]
      rw [if_pos hl, ih, e, e2, List.take_succ_cons, List.cons_append]
      cases hasK r key with
      | true => rfl
      | false => rfl
    · have e : aheadN (x :: r) key = 0 := by unfold aheadN; rw [List.takeWhile_cons_of_neg (by simpa using hl)]; rfl
      rw [if_neg hl, e, List.take_zero, List.nil_append]
      by_cases h3 : x.name = key
      · have e2 : hasK (x :: r) key = true := by unfold hasK findK; rw [List.find?_cons_of_pos (by simp [h3])]; rfl
        rw [if_pos h3, e2]
        rfl
      · have hk : ltK key x.name = true := by
          rcases lt_total key x.name with h | h | h
          · exact h
          · exact absurd h.symm h3
          · exact absurd h hl
        have e2 : hasK (x :: r) key = false := by
          unfold hasK
          rw [find_above (k := x :: r) (key := key) (fun y hy => by
            rcases List.mem_cons.1 hy with rfl | hy
            · exact hk
            · exact lt_trans hk (h1 y hy))]
          rfl
        rw [if_neg h3, e2]
        rfl
set_option maxRecDepth 20000 in
set_option maxHeartbeats 8000000 in
theorem radd2_any (h : RAt W F g A B C a b c K P s) (hs : KOk s.k) (hl : s.k.length ≤ 1024) (hF : ∀ k, F k → k < W.heap.size) (key : ByteArray) (x : Vr) (hx : VrRng x) :
    Calls Tryz.prog 48 #[.pointer (some ⟨g, 0, none⟩), .string key, .agg (vcs x).toArray] W fun e w' => e = .returned (.tuple #[]) ∧ (∃ A' a' K', RAt w' F g A' B C a' b c K' P ⟨addK s.k key x, s.p, s.e, s.over⟩) ∧ One g W w' := by
  obtain ⟨i1, hi, hz0, hz1, hz2⟩ := info_parts Tryz.infoKey
  have HC := Lib.hid (fun V (hb : Below W.heap.size W V) => rchain_any (h.below hb) hs.ks hl key)
  have HAt := Lib.hid (fun V (hb : Below W.heap.size W V) => rat_any (h.below hb) hs.ks hl key)
  have HH := Lib.hid (fun V (hb : Below W.heap.size W V) => h.below hb)
  have hKl : K.length = s.k.length := h.klen
  have hok := hs.chain key
  have hHl := h.cel.lt
  have HG := Lib.hid (show ∀ k, G F g k → k < W.heap.size from fun k hk => hk.elim (hF k) (fun e => by rw [e]; exact hHl))
  have hput : addK s.k key x = s.k.take (aheadN s.k key) ++ ⟨key, (addP (chainK s.k key) x).1⟩ :: s.k.drop (if hasK s.k key then aheadN s.k key + 1 else aheadN s.k key) := put_is hs.ks key _
  have HEk := Lib.hid h.ek
  have hah := ahead_le s.k key
  have hhas : hasK s.k key = true → aheadN s.k key < s.k.length := fun hh => by
    obtain ⟨q1, q2⟩ := ahead_split s.k key
    have := has_at hs.ks q1 q2
    by_cases hlt : aheadN s.k key < s.k.length
    · exact hlt
    · rw [dif_neg hlt] at this
      unfold hasK at hh
      rw [this] at hh; cases hh
  generalize chainK s.k key = L at HC hok hput
  have HAd := Lib.hid (fun (A' : Option Addr) (c' : Nat) V (hv : KVal V (G F g) ⟨⟨⟨#[]⟩, L⟩, A', c'⟩) => radd_any A' c' L x V hv.vrs (chain32 hok) (ok_rng hok) hx hv.nil)
  have hRl : (addP L x).1.length ≤ 1025 := by
    have := hok.len
    unfold addP
    split
    · simp
    · split
      · simp
      · split
        · simp
        · split
          · simp
          · simp; omega
  obtain ⟨R, e, hre⟩ : ∃ R e, addP L x = (R, e) := ⟨_, _, rfl⟩
  rw [hre] at HAd hput hRl
  simp only at hput hRl
  generalize hasK s.k key = bb at HAt hput hhas
  generalize aheadN s.k key = n at HAt hput hah hhas
  have hnK : n ≤ K.length := by omega
  have HPut := Lib.hid hput
  have HHas := Lib.hid (show bb = true → n < K.length from fun e => by have := hhas e; omega)
  have hKi : (K.length : Int) ≤ 1024 := by omega
  have HKi := Lib.hid (show K.length ≤ 1024 by omega)
  obtain ⟨xt, xs, xd⟩ := x
  have HSt := Lib.hid (slice_toN 30 170 i1 (by kernel_rfl) (by kernel_rfl) hi A K.length a n (Nat.le_trans hnK h.al.1))
  have HSf := Lib.hid (fun m (hm : m ≤ K.length) => slice_fromN 30 170 i1 (by kernel_rfl) (by kernel_rfl) hi 2 hz1 A K.length a m hm h.al.1 h.an)
  have HAn := Lib.hid h.an
  clear h hs hl hF hok hx hre hKl hput hah hhas
  show Calls _ _ #[_, _, .agg #[.int .i64 xt, .string xs, .bool xd]] _ _
  go_enter Tryz.func48, Tryz.ntmps48
  go_upto_region 1 with fail
  have hR0 : Cel (W.alloc (.cells #[.int .i64 xt, .string xs, .bool xd] 77)) W.heap.size 77 [.int .i64 xt, .string xs, .bool xd] := (blk1 W _).2
  have hB0 : Below W.heap.size W (W.alloc (.cells #[.int .i64 xt, .string xs, .bool xd] 77)) := (Below.refl _ W).alloc (Nat.le_refl _) _
  generalize hW0 : W.alloc (.cells #[.int .i64 xt, .string xs, .bool xd] 77) = W0 at hR0 hB0 ⊢
  clear hW0
  have HR0 := Lib.hid hR0
  have HB0 := Lib.hid hB0
  clear hR0 hB0
  refine wp_region_said 10 [12, 13, 14, 15, 16, 11, 17, 18, 6, 7]
    [.is (.pointer (some ⟨g, 0, none⟩)), .is (.string key), .own (fun v V => ChainAns V (G F g) L v) (fun v V V' h hb => h.below hb), .is (.agg #[.int .i64 xt, .string xs, .bool xd]),
      .own (fun v V => ∃ u, v = .tuple #[u, .int .i64 e] ∧ V.ownsRow W0.heap.size 77 3 u R.length (vrV R)) (fun v V V' h hb => by obtain ⟨u, h1, h2⟩ := h; exact ⟨u, h1, st_keep h2 hb⟩),
      .own (fun v V => ∃ u, v = .tuple #[u, .int .i64 e] ∧ V.ownsRow W0.heap.size 77 3 u R.length (vrV R)) (fun v V V' h hb => by obtain ⟨u, h1, h2⟩ := h; exact ⟨u, h1, st_keep h2 hb⟩),
      .own (fun v V => V.ownsRow W0.heap.size 77 3 v R.length (vrV R)) (fun v V V' h hb => st_keep h hb), .is (.int .i64 e),
      .own (fun v V => V.ownsRow W0.heap.size 77 3 v R.length (vrV R)) (fun v V V' h hb => st_keep h hb), .is (.int .i64 e)]
    (fun V => Below W0.heap.size W0 V) (by kernel_rfl) (by kernel_rfl) (by kernel_rfl) (by kernel_rfl) (by kernel_rfl) (fun V V' h hb => h.trans (hb.mono h.size)) (Below.refl _ _) ?steps ?last
  case steps =>
    simp only [List.take_succ_cons, List.take_zero]
    refine ⟨?_, ?_, ?_, ?_, ?_, ?_, ?_, ?_, ?_, ?_, trivial⟩
    all_goals
      intro vs V ρ hρ hc hf hg hI hH hd R' hR
      have kc := HR0.out.below hI
      have q0 := kc.cell (i := 0) rfl
      have q1 := kc.cell (i := 1) rfl
      have q2 := kc.cell (i := 2) rfl
      have HR := Lib.hid hR
      have HI := Lib.hid (HB0.out.trans (Below.mono hI HB0.out.size))
      have HI0 := Lib.hid hI
      simp [depsOf, Region.binds, sayAt, Say.holds] at hd
      clear hR hI kc
    case refine_3 =>
      go_simp
      refine (HC.out V HI.out).mono ?_
      rintro e' w' ⟨v, rfl, hv, hb⟩
      exact ⟨_, rfl, HR.out _ _ hv hb (by simp [sayAt, Say.isBlk])⟩
    case refine_5 =>
      obtain ⟨⟨A', c', e2, hv⟩, h3⟩ := hd
      go_simp
      refine (show Calls _ _ #[_, .agg #[.int .i64 xt, .string xs, .bool xd]] _ _ from HAd.out A' c' _ hv).mono ?_
      rintro e' w' ⟨v, rfl, ho, hb⟩
      exact ⟨_, rfl, HR.out _ _ ⟨_, rfl, Ch.own_base ho HI0.out.size⟩ hb (by simp [sayAt, Say.isBlk])⟩
    case refine_6 =>
      go_simp
      exact HR.out _ _ hd (Below.refl _ _) (by simp [sayAt, Say.isBlk])
    case refine_7 =>
      obtain ⟨u, e2, hu⟩ := hd
      go_simp
      exact HR.out _ _ hu (Below.refl _ _) (by simp [sayAt, Say.isBlk])
    case refine_8 =>
      obtain ⟨u, e2, hu⟩ := hd
      go_simp
      exact HR.out _ _ rfl (Below.refl _ _) (by simp [sayAt, Say.isBlk])
    case refine_9 =>
      obtain ⟨hu, _⟩ := hd
      go_simp
      exact HR.out _ _ hu (Below.refl _ _) (by simp [sayAt, Say.isBlk])
    all_goals
      go_simp
      exact HR.out _ _ (by simp [sayAt, Say.holds]) (Below.refl _ _) (by simp [sayAt, Say.isBlk])
  case last =>
    intro vs w2 hI hb hg hd
    have g8 := hg 8 (by omega)
    simp only [sayAt, Say.holds, List.getD_cons_succ, List.getD_cons_zero] at g8
    simp only [List.take_succ_cons, List.take_zero, List.drop_succ_cons, List.drop_zero, putAll, Act.put, List.setIfInBounds_toArray, List.set_cons_succ, List.set_cons_zero, Nat.zero_add, Nat.reduceAdd]
    obtain ⟨A5, c5, e8, -, -, -, -⟩ := own_rowF (F := G F g) g8 (vrV_len R) (fun k hk => Nat.lt_of_lt_of_le (HG.out k hk) HB0.out.size)
    rw [e8] at g8 ⊢
    have HU2 := Lib.hid g8
    have HB02 := Lib.hid hI
    have HB2 := Lib.hid (HB0.out.trans (Below.mono hI HB0.out.size))
    clear g8 e8 hg hd hI hb HAd HC HR0
    go_wp2_with fail
    refine (HAt.out _ HB2.out).mono ?_
    rintro e3 w3 ⟨rfl, hb⟩
    have HB3 := Lib.hid (HB2.out.trans (hb.mono HB2.out.size))
    have HB03 := Lib.hid (HB02.out.trans (hb.mono HB02.out.size))
    have HU3 := Lib.hid (st_keep HU2.out hb)
    clear hb HB2 HB02 HU2 HAt
    have s0 := (HH.out _ HB3.out).cel.cell (i := 0) rfl
    have sl := HSt.out
    have HLt := Lib.hid (show ((K.take n).flatMap kcs).length = n * 2 by rw [flatN_len kcs_len, List.length_take, Nat.min_eq_left hnK])
    have HRt := Lib.hid (show RowF w3 (G F g) A ((K.take n).flatMap kcs) by
      have := (HH.out _ HB3.out).rk.take (n * 2)
      rwa [flatN_take kcs_len] at this)
    have hni : (n : Int) ≤ (K.length : Int) := by omega
    have hn1024 : n ≤ 1024 := by have := HKi.out; omega
    have HAn2 := Lib.hid (show A = none → n = 0 ∧ a = 0 from fun e => by have := HAn.out e; omega)
    go_wp2_with (at_builtin; refine wpList_append_optN rfl _ _ 30 rfl W0.heap.size 170 i1 (.agg #[.string ⟨#[]⟩, .slice none 0 0]) 2 40 Tryz.underlying30 hi hz0 hz1 hz2 rfl (by decide) _ 0 [] rfl (World.ownsRow_nil _ _ _ _) A n a ((K.take n).flatMap kcs) rfl HLt.out HAn2.out (fun ad e => by subst e; exact HRt.out.news) (kcs_one _) ?c3 ?c4 ?c5 ?_)
    case c3 => unfold maxLen; omega
    case c4 => omega
    case c5 => exact HB03.out.size
    intro v4 w4 ho4 hg4 hat4
    have hbe4 : Below w3.heap.size w3 w4 := (Below.refl _ w3).grown hg4 (Nat.le_refl _) (fun k hk => by cases hk)
    have HB4 := Lib.hid (HB3.out.trans (hbe4.mono HB3.out.size))
    have HB04 := Lib.hid (HB03.out.trans (hbe4.mono HB03.out.size))
    have HU4 := Lib.hid (st_keep HU3.out hbe4)
    have HO4 := Lib.hid ho4
    clear hbe4 ho4 hg4 hat4 HB3 HB03 HU3 s0 sl HLt HRt
    go_wp2_with (at_builtin; refine wpList_append_own_at _ rfl _ _ 30 rfl W0.heap.size 170 i1 (.agg #[.string ⟨#[]⟩, .slice none 0 0]) 2 40 Tryz.underlying30 hi hz0 hz1 hz2 rfl (by decide) _ n _ rfl (HO4.out.alloc _) ⟨w4.heap.size, 0, none⟩ 1 1 (kcs ⟨⟨key, R⟩, A5, c5⟩) rfl rfl ?d1 ?d2 ?d3 ?d4 ?d5 ?_)
    case d1 => exact fun j u hu => by rw [addr_head]; exact blk_cell (blk1 w4 _).2 (by rw [List.getElem?_toArray]; exact hu)
    case d2 => exact fun u hu => kcs_one [⟨⟨key, R⟩, A5, c5⟩] u (by simpa using hu)
    case d3 => unfold maxLen; omega
    case d4 => omega
    case d5 => have := HB04.out.size; simp; omega
    intro v5 w5 ho5 hg5 _ hat5
    have hbe4 := (Below.refl w4.heap.size w4).alloc (Nat.le_refl _) (.cells #[.string key, .slice A5 R.length c5] 170)
    have hu5 := rgrow2 (st_keep HU4.out hbe4) (HO4.out.alloc _) (by decide) hg5
    have hb05 : Below W0.heap.size W0 w5 := (HB04.out.alloc HB04.out.size _).grown hg5 (by have := HB04.out.size; simp; omega) (fun k hk => (HO4.out.lt k hk).1)
    have HB05 := Lib.hid hb05
    have HB5 := Lib.hid (HB0.out.trans (hb05.mono HB0.out.size))
    have HU5 := Lib.hid hu5
    have hK5 : (K.take n ++ [(⟨⟨key, R⟩, A5, c5⟩ : KI)]).flatMap kcs = (K.take n).flatMap kcs ++ kcs ⟨⟨key, R⟩, A5, c5⟩ := by rw [List.flatMap_append]; simp
    rw [← hK5] at ho5
    have HO5 := Lib.hid ho5
    clear ho5 hg5 hat5 hbe4 hu5 hb05 hK5 HB4 HB04 HU4 HO4
    cases bb with
    | true =>
      have hn1 := HHas.out rfl
      obtain ⟨mm, hmm⟩ : ∃ mm, mm = n + 1 := ⟨_, rfl⟩
      have HPt2 := Lib.hid (show addK s.k key ⟨xt, xs, xd⟩ = s.k.take n ++ ⟨key, R⟩ :: s.k.drop mm by rw [hmm]; exact HPut.out)
      have hnn : (n : Int) + 1 = (mm : Int) := by omega
      have hmK : mm ≤ K.length := by omega
      clear hmm HPut
      obtain ⟨A6, c6, hs6, hd6, hn6, hl6, hc6⟩ := HSf.out mm (by omega)
      have HS6 := Lib.hid hs6
      have HL6 := Lib.hid (show ((K.drop mm).flatMap kcs).length = (K.length - mm) * 2 by rw [flatN_len kcs_len, List.length_drop])
      have HR6 := Lib.hid (show RowF w5 (G F g) A6 ((K.drop mm).flatMap kcs) by
        have := hd6 w5 (G F g) (K.flatMap kcs) (flatN_len kcs_len K) (HH.out _ HB5.out).rk
        rwa [flatN_drop kcs_len] at this)
      have HN6 := Lib.hid hn6
      clear hs6 hd6 hn6
      have sl6 := HS6.out
      have s0 := (HH.out _ HB5.out).cel.cell (i := 0) rfl
      have hli : K.length - mm ≤ 1024 := by have := HKi.out; omega
      have hii : ((mm : Nat) : Int) ≤ (K.length : Int) := by omega
      go_wp2_with (at_builtin; refine wpList_append_optN rfl _ _ 30 rfl W0.heap.size 170 i1 (.agg #[.string ⟨#[]⟩, .slice none 0 0]) 2 40 Tryz.underlying30 hi hz0 hz1 hz2 rfl (by decide) _ (n + 1) _ rfl HO5.out A6 (K.length - mm) c6 ((K.drop mm).flatMap kcs) rfl HL6.out HN6.out (fun ad e => by subst e; exact HR6.out.news) (kcs_one _) ?f31 ?f41 ?f51 ?_)
      case f31 => unfold maxLen; omega
      case f41 => omega
      case f51 => exact HB05.out.size
      intro v7 w7 ho7 hg7 hat7
      have hu7 := rgrow2 HU5.out HO5.out (by decide) hg7
      have HB07 := HB05.out.grown hg7 HB05.out.size (fun k hk => (HO5.out.lt k hk).1)
      have HB7 := HB0.out.trans (HB07.mono HB0.out.size)
      obtain ⟨hr5, hlc5, hcm5, hn5⟩ := own_row_at (F := G F g) hu7 (vrV_len R) (fun k hk => Nat.lt_of_lt_of_le (HG.out k hk) HB0.out.size)
      have ho7 : w7.ownsRow W0.heap.size 170 2 v7 (n + 1 + (K.length - mm)) ((K.take n ++ [(⟨⟨key, R⟩, A5, c5⟩ : KI)] ++ K.drop mm).flatMap kcs) := by simpa [List.flatMap_append] using ho7
      have hlen7 : (K.take n ++ [(⟨⟨key, R⟩, A5, c5⟩ : KI)] ++ K.drop mm).length = n + 1 + (K.length - mm) := by
        rw [List.length_append, List.length_append, List.length_take, List.length_drop, Nat.min_eq_left hnK]; rfl
      obtain ⟨A8, c8, rfl, hr8, hlc8, hcm8, hn8⟩ := own_rowF (F := G F g) ho7 (by rw [flatN_len kcs_len, hlen7]) (fun k hk => Nat.lt_of_lt_of_le (HG.out k hk) HB0.out.size)
      rw [← hlen7] at hlc8 hn8
      have hR7 := HH.out _ HB7
      have hkv : ∀ y ∈ K.take n ++ [(⟨⟨key, R⟩, A5, c5⟩ : KI)] ++ K.drop mm, KVal w7 (G F g) y := fun y hy => by
        rcases List.mem_append.1 hy with hy | hy
        · rcases List.mem_append.1 hy with hy | hy
          · exact hR7.kv y (List.mem_of_mem_take hy)
          · rw [List.mem_singleton.1 hy]
            exact ⟨hr5, hn5, hlc5, hcm5⟩
        · exact hR7.kv y (List.mem_of_mem_drop hy)
      have hfin := hR7.setK hr8 hn8 ⟨hlc8, hcm8⟩ hkv
      have hek : (K.take n ++ [(⟨⟨key, R⟩, A5, c5⟩ : KI)] ++ K.drop mm).map (·.k) = addK s.k key ⟨xt, xs, xd⟩ := by
        rw [HPt2.out, ← HEk.out]
        simp [List.map_take, List.map_drop]
      rw [hek, hlen7] at hfin
      have HFin := Lib.hid hfin
      have HOne := Lib.hid ((One.of (g := g) HB7).set (i := 0) (.slice A8 (n + 1 + (K.length - mm)) c8))
      have sf := fun i => hR7.cel.free (i := i)
      have s07 := hR7.cel.cell (i := 0) rfl
      clear hu7 HB07 HB7 hr5 hlc5 hcm5 hn5 ho7 hlen7 hr8 hlc8 hcm8 hn8 hR7 hkv hfin hek hg7 hat7 s0 sl6
      go_wp2_with fail
      exact bodyPost_end (results_none rfl _ _ _) rfl ⟨rfl, ⟨_, _, _, HFin.out⟩, HOne.out⟩
    | false =>
      have HPt2 := Lib.hid (show addK s.k key ⟨xt, xs, xd⟩ = s.k.take n ++ ⟨key, R⟩ :: s.k.drop n from HPut.out)
      clear HPut
      obtain ⟨A6, c6, hs6, hd6, hn6, hl6, hc6⟩ := HSf.out n (by exact hnK)
      have HS6 := Lib.hid hs6
      have HL6 := Lib.hid (show ((K.drop n).flatMap kcs).length = (K.length - n) * 2 by rw [flatN_len kcs_len, List.length_drop])
      have HR6 := Lib.hid (show RowF w5 (G F g) A6 ((K.drop n).flatMap kcs) by
        have := hd6 w5 (G F g) (K.flatMap kcs) (flatN_len kcs_len K) (HH.out _ HB5.out).rk
        rwa [flatN_drop kcs_len] at this)
      have HN6 := Lib.hid hn6
      clear hs6 hd6 hn6
      have sl6 := HS6.out
      have s0 := (HH.out _ HB5.out).cel.cell (i := 0) rfl
      have hli : K.length - n ≤ 1024 := by have := HKi.out; omega
      have hii : ((n : Nat) : Int) ≤ (K.length : Int) := by exact hni
      go_wp2_with (at_builtin; refine wpList_append_optN rfl _ _ 30 rfl W0.heap.size 170 i1 (.agg #[.string ⟨#[]⟩, .slice none 0 0]) 2 40 Tryz.underlying30 hi hz0 hz1 hz2 rfl (by decide) _ (n + 1) _ rfl HO5.out A6 (K.length - n) c6 ((K.drop n).flatMap kcs) rfl HL6.out HN6.out (fun ad e => by subst e; exact HR6.out.news) (kcs_one _) ?f32 ?f42 ?f52 ?_)
      case f32 => unfold maxLen; omega
      case f42 => omega
      case f52 => exact HB05.out.size
      intro v7 w7 ho7 hg7 hat7
      have hu7 := rgrow2 HU5.out HO5.out (by decide) hg7
      have HB07 := HB05.out.grown hg7 HB05.out.size (fun k hk => (HO5.out.lt k hk).1)
      have HB7 := HB0.out.trans (HB07.mono HB0.out.size)
      obtain ⟨hr5, hlc5, hcm5, hn5⟩ := own_row_at (F := G F g) hu7 (vrV_len R) (fun k hk => Nat.lt_of_lt_of_le (HG.out k hk) HB0.out.size)
      have ho7 : w7.ownsRow W0.heap.size 170 2 v7 (n + 1 + (K.length - n)) ((K.take n ++ [(⟨⟨key, R⟩, A5, c5⟩ : KI)] ++ K.drop n).flatMap kcs) := by simpa [List.flatMap_append] using ho7
      have hlen7 : (K.take n ++ [(⟨⟨key, R⟩, A5, c5⟩ : KI)] ++ K.drop n).length = n + 1 + (K.length - n) := by
        rw [List.length_append, List.length_append, List.length_take, List.length_drop, Nat.min_eq_left hnK]; rfl
      obtain ⟨A8, c8, rfl, hr8, hlc8, hcm8, hn8⟩ := own_rowF (F := G F g) ho7 (by rw [flatN_len kcs_len, hlen7]) (fun k hk => Nat.lt_of_lt_of_le (HG.out k hk) HB0.out.size)
      rw [← hlen7] at hlc8 hn8
      have hR7 := HH.out _ HB7
      have hkv : ∀ y ∈ K.take n ++ [(⟨⟨key, R⟩, A5, c5⟩ : KI)] ++ K.drop n, KVal w7 (G F g) y := fun y hy => by
        rcases List.mem_append.1 hy with hy | hy
        · rcases List.mem_append.1 hy with hy | hy
          · exact hR7.kv y (List.mem_of_mem_take hy)
          · rw [List.mem_singleton.1 hy]
            exact ⟨hr5, hn5, hlc5, hcm5⟩
        · exact hR7.kv y (List.mem_of_mem_drop hy)
      have hfin := hR7.setK hr8 hn8 ⟨hlc8, hcm8⟩ hkv
      have hek : (K.take n ++ [(⟨⟨key, R⟩, A5, c5⟩ : KI)] ++ K.drop n).map (·.k) = addK s.k key ⟨xt, xs, xd⟩ := by
        rw [HPt2.out, ← HEk.out]
        simp [List.map_take, List.map_drop]
      rw [hek, hlen7] at hfin
      have HFin := Lib.hid hfin
      have HOne := Lib.hid ((One.of (g := g) HB7).set (i := 0) (.slice A8 (n + 1 + (K.length - n)) c8))
      have sf := fun i => hR7.cel.free (i := i)
      have s07 := hR7.cel.cell (i := 0) rfl
      clear hu7 HB07 HB7 hr5 hlc5 hcm5 hn5 ho7 hlen7 hr8 hlc8 hcm8 hn8 hR7 hkv hfin hek hg7 hat7 s0 sl6
      go_wp2_with fail
      exact bodyPost_end (results_none rfl _ _ _) rfl ⟨rfl, ⟨_, _, _, HFin.out⟩, HOne.out⟩
end
end Sh
end Go.Proofs.YtbkanoblcojdfaaGreat

namespace Go.Proofs.YtbkanoblcojdfaaGreat
open Go.RowKit
section
variable {P : Program} {ops : Array Oper} {md : Region.Mode}
def floatStepsK (K : World → World → Prop) (P : Program) (md : Region.Mode) (ops : Array Oper) (A : Nat → Bool) (G : Nat → Value → World → Prop) (I : World → Prop) (F : (Nat → Value) → Act) : List Oper → Nat → Prop
  | [], _ => True
  | o :: r, i =>
    (∀ vs W, I W → (∀ j ∈ depsOf md o, G j (vs j) W) → ∀ R : Value → World → Prop,
      (∀ v W', G i v W' → K W W' → (A i = true → v = .pointer (some ⟨W.heap.size, 0, none⟩)) → R v W') →
      if Region.wanted o (yielded ops (F vs).tmps) then floatOp P o (F vs) W R else R undef W) ∧
    floatStepsK K P md ops A G I F r (i + 1)
theorem floatStepsK_get {K : World → World → Prop} {A : Nat → Bool} {G : Nat → Value → World → Prop} {I : World → Prop} {F : (Nat → Value) → Act} : ∀ (l : List Oper) (k i : Nat) (o : Oper), floatStepsK K P md ops A G I F l k → l[i]? = some o →
    ∀ vs W, I W → (∀ j ∈ depsOf md o, G j (vs j) W) → ∀ R : Value → World → Prop,
      (∀ v W', G (k + i) v W' → K W W' → (A (k + i) = true → v = .pointer (some ⟨W.heap.size, 0, none⟩)) → R v W') →
      if Region.wanted o (yielded ops (F vs).tmps) then floatOp P o (F vs) W R else R undef W
  | [], _, _, _, _, h => by simp at h
  | p :: r, k, 0, o, hs, h => by
    obtain rfl : p = o := by simpa using h
    exact hs.1
  | p :: r, k, i + 1, o, hs, h => by
    have := floatStepsK_get r (k + 1) i o hs.2 (by simpa using h)
    rw [show k + 1 + i = k + (i + 1) by omega] at this
    exact this
theorem wp_floatK {K : World → World → Prop} {A : Nat → Bool} {G : Nat → Value → World → Prop} {I : World → Prop} {Q : Exit → Act → World → Prop} {a : Act} (n : Nat) (hB : floatB md ops n = true)
    (hG : ∀ i v W W', G i v W → K W W' → G i v W')
    (hA : ∀ i v W, A i = true → G i v W → ∃ p, v = .pointer (some ⟨p, 0, none⟩) ∧ p < W.heap.size)
    (hI : ∀ W W', I W → K W W' → I W')
    (hs : floatStepsK K P md ops A G I (fun vs => putAll vs (ops.toList.take n) 0 a) (ops.toList.take n) 0)
    (hl : ∀ vs W, I W → (∀ j, j < n → G j (vs j) W) → (∀ i j, i < n → j < n → A i = true → A j = true → i ≠ j → vs i ≠ vs j) →
      wpList P ops Q (ops.toList.drop n) (putAll vs (ops.toList.take n) 0 a) W) :
    ∀ (fuel : Nat) (ls : Array Bool) (vs : Nat → Value) (W : World), ls.toList.count false = fuel → HeadInv md ops n ls → I W →
      (∀ j, j < n → ls.getD j false = true → G j (vs j) W) →
      (∀ i j, i < n → j < n → ls.getD i false = true → ls.getD j false = true → A i = true → A j = true → i ≠ j → vs i ≠ vs j) →
      wpAny P md ops Q fuel ls (putAll vs (ops.toList.take n) 0 a) W := by
  simp only [floatB, Bool.and_eq_true, Bool.or_eq_true, decide_eq_true_eq] at hB
  obtain ⟨⟨⟨⟨hn, hc⟩, hsl⟩, hd⟩, hseq⟩ := hB
  intro fuel
  induction fuel with
  | zero =>
    intro ls vs W hcount inv hi hg hdist
    have hall : ∀ j, j < ops.size → ls.getD j false = true := fun j hj => by
      have hjs : j < ls.size := by rw [inv.size]; exact hj
      cases hb : ls[j] with
      | true => simp [hjs, hb]
      | false => exact absurd (List.count_pos_iff.2 (by rw [← hb]; exact Array.mem_toList_iff.2 (Array.getElem_mem hjs)) : 0 < ls.toList.count false) (by omega)
    have hne : n = ops.size := by
      rcases Nat.lt_or_ge n ops.size with h | h
      · have h1 := inv.tail n (Nat.le_refl _) h
        have h2 := hall n h
        rw [getD_both h1] at h2
        cases h2
      · omega
    subst hne
    refine ⟨?_, ?_⟩
    · refine List.eq_nil_iff_forall_not_mem.2 fun i hi => ?_
      obtain ⟨h0, o, ho, _⟩ := mem_ready.1 hi
      have := hall i (Array.getElem?_eq_some_iff.1 ho).1
      rw [getD_both h0] at this
      cases this
    · have := hl vs W hi (fun j hj => hg j hj (hall j hj)) (fun i j hi hj => hdist i j hi hj (hall i hi) (hall j hj))
      rw [List.drop_of_length_le (by simp)] at this
      exact this
  | succ fuel ih =>
    intro ls vs W hcount inv hi hg hdist
    by_cases hall : ∀ j, j < n → ls.getD j false = true
    · have hlist : ls = (List.replicate n true ++ List.replicate (ops.size - n) false).toArray := by
        apply Array.ext_getElem?
        intro j
        simp only [List.getElem?_toArray]
        rw [List.getElem?_append, List.length_replicate]
        by_cases h1 : j < n
        · have h2 := hall j h1
          have hjs : j < ls.size := by rw [inv.size]; omega
          rw [if_pos h1, List.getElem?_replicate, if_pos h1]
          simp only [Array.getD_eq_getD_getElem?, hjs, getElem?_pos, Option.getD_some] at h2 ⊢
          rw [h2]
        · rw [if_neg h1, List.getElem?_replicate]
          by_cases h2 : j < ops.size
          · have h3 := inv.tail j (by omega) h2
            have hjs : j < ls.size := by rw [inv.size]; omega
            rw [if_pos (by omega)]
            simp only [Array.getD_eq_getD_getElem?, hjs, getElem?_pos, Option.getD_some] at h3 ⊢
            rw [h3]
          · rw [if_neg (by omega), Array.getElem?_eq_none (by rw [inv.size]; omega)]
      have hfuel : fuel + 1 = (ops.toList.drop n).length := by
        rw [← hcount, hlist]
        simp [List.count_append, List.count_replicate]
      rw [hfuel]
      refine wpAny_of_seq (ops.toList.drop n) n ls _ W (fun j => by simp [List.getElem?_drop]) ?_ (hl vs W hi (fun j hj => hg j hj (hall j hj)) (fun i j hi hj => hdist i j hi hj (hall i hi) (hall j hj)))
      rw [hlist, show (ops.toList.drop n).length = ops.size - n by simp]
      exact hseq
    ·
      have hleast : ∃ i, i < n ∧ ls.getD i false = false ∧ ∀ j, j < i → ls.getD j false = true := by
        have : ∀ k, (∀ j, j < k → ls.getD j false = true) ∨ ∃ i, i < k ∧ ls.getD i false = false ∧ ∀ j, j < i → ls.getD j false = true := by
          intro k
          induction k with
          | zero => exact .inl fun j hj => absurd hj (by omega)
          | succ k ihk =>
            rcases ihk with h | ⟨i, h1, h2, h3⟩
            · cases hk : ls.getD k false with
              | true =>
                left
                intro j hj
                rcases Nat.lt_or_ge j k with h' | h'
                · exact h j h'
                · obtain rfl : j = k := by omega
                  exact hk
              | false => exact .inr ⟨k, by omega, hk, h⟩
            · exact .inr ⟨i, by omega, h2, h3⟩
        rcases this n with h | h
        · exact absurd h hall
        · exact h
      obtain ⟨i0, hi0, hi0f, hi0l⟩ := hleast
      have hdeps : ∀ i o, i < n → ops[i]? = some o → ∀ e ∈ o.after, Region.binds md e = true → e.on < i := fun i o hi ho e he hb => by
        have h1 := List.all_eq_true.1 hd i (List.mem_range.2 hi)
        simp only [ho, Option.map_some, Option.getD_some, List.all_eq_true, decide_eq_true_eq] at h1
        exact h1 e.on (List.mem_map.2 ⟨e, List.mem_filter.2 ⟨by simpa using he, hb⟩, rfl⟩)
      have hi0s : i0 < ls.size := by rw [inv.size]; omega
      have hready0 : i0 ∈ Region.ready md ops ls := by
        refine mem_ready.2 ⟨getD_in hi0s hi0f, ops[i0]'(by omega), by simp [show i0 < ops.size by omega], fun e he hb => ?_⟩
        exact hi0l _ (hdeps i0 _ hi0 (by simp [show i0 < ops.size by omega]) e he hb)
      refine ⟨fun h => absurd hready0 (by rw [h]; simp), fun i hir => ?_⟩
      obtain ⟨hun, o, ho, hafter⟩ := mem_ready.1 hir
      have hio : i < ops.size := (Array.getElem?_eq_some_iff.1 ho).1
      have hin : i < n := by
        rcases Nat.lt_or_ge i n with h | h
        · exact h
        · rcases hc with h' | ⟨h1, h2⟩
          · omega
          · exact absurd hir (tail_waits h1 h2 (by omega) inv (n - i0) i0 rfl hi0 (getD_in hi0s hi0f) i h)
      have his : i < ls.size := by rw [inv.size]; omega
      have hget : (ops.toList.take n)[i]? = some o := by
        rw [List.getElem?_take, if_pos hin]
        simpa using ho
      have hcount' : (ls.setIfInBounds i true).toList.count false = fuel := by
        have h1 : ls.toList[i]? = some false := by
          have := hun
          simp only [Array.getD_eq_getD_getElem?, his, getElem?_pos, Option.getD_some] at this
          simp [his, this]
        have := count_set_true h1
        rw [Array.toList_setIfInBounds]
        omega
      have hstep := floatStepsK_get (ops.toList.take n) 0 i o hs hget vs W hi
        (fun j hj => by
          obtain ⟨e, he, rfl⟩ := List.mem_map.1 hj
          obtain ⟨he1, he2⟩ := List.mem_filter.1 he
          have he1' : e ∈ o.after := by simpa using he1
          exact hg _ (by have := hdeps i o hin ho e he1' he2; omega) (hafter e he1' he2))
        (fun v W' => wpAny P md ops Q fuel (ls.setIfInBounds i true) ((putAll vs (ops.toList.take n) 0 a).put o.dst v) W')
        (fun v W' hgv hb hav => by
          rw [Nat.zero_add] at hgv hav
          rw [putAll_set vs v _ 0 i a o hsl hget]
          refine ih (ls.setIfInBounds i true) _ W' hcount' (inv.set hir hin) (hI _ _ hi hb) (fun j hj hlj => ?_) (fun j k hj hk hlj hlk haj hak hjk => ?_)
          · show G j (if j = 0 + i then v else vs j) W'
            by_cases hji : j = i
            · subst hji
              rw [if_pos (by omega)]; exact hgv
            · rw [if_neg (by omega)]
              exact hG _ _ _ _ (hg j hj (by rw [getD_set_ne false (Ne.symm hji)] at hlj; exact hlj)) hb
          · have old : ∀ x, x < n → x ≠ i → (ls.setIfInBounds i true).getD x false = true → A x = true → ∀ q, v = .pointer (some ⟨q, 0, none⟩) → q = W.heap.size → vs x ≠ v := fun x hx hxi hlx hax q hv hq hne => by
              obtain ⟨p, hp, hlt⟩ := hA x (vs x) W hax (hg x hx (by rw [getD_set_ne false (Ne.symm hxi)] at hlx; exact hlx))
              rw [hp, hv] at hne
              simp only [Value.pointer.injEq, Option.some.injEq, Addr.mk.injEq, and_true] at hne
              omega
            show (if j = 0 + i then v else vs j) ≠ (if k = 0 + i then v else vs k)
            by_cases hji : j = i
            · subst hji
              rw [if_pos (by omega), if_neg (by omega)]
              exact Ne.symm (old k hk (Ne.symm hjk) hlk hak _ (hav haj) rfl)
            · rw [if_neg (by omega)]
              by_cases hki : k = i
              · subst hki
                rw [if_pos (by omega)]
                exact old j hj hji hlj haj _ (hav hak) rfl
              · rw [if_neg (by omega)]
                exact hdist j k hj hk (by rw [getD_set_ne false (Ne.symm hji)] at hlj; exact hlj) (by rw [getD_set_ne false (Ne.symm hki)] at hlk; exact hlk) haj hak hjk)
      unfold wpOp
      simp only [ho]
      split
      · rename_i hw
        rw [if_pos hw] at hstep
        exact .inl (floatOp_wp hstep fun _ _ h => h)
      · rename_i hw
        rw [if_neg hw] at hstep
        exact hstep
theorem wp_region_floatK {K : World → World → Prop} {id : Nat} {Q : Exit → Act → World → Prop} {a : Act} {w : World} {l : List Oper} (n : Nat) (A : Nat → Bool) (G : Nat → Value → World → Prop) (I : World → Prop)
    (hm : P.follows .mixedOrders = true) (hB : floatB .any l.toArray n = true)
    (hG : ∀ i v W W', G i v W → K W W' → G i v W')
    (hA : ∀ i v W, A i = true → G i v W → ∃ p, v = .pointer (some ⟨p, 0, none⟩) ∧ p < W.heap.size)
    (hI : ∀ W W', I W → K W W' → I W') (hKd : ∀ W, K W W.drew) (hI0 : I w)
    (hs : floatStepsK K P .any l.toArray A G I (fun vs => putAll vs (l.take n) 0 a) (l.take n) 0)
    (hl : ∀ vs W, I W → (∀ j, j < n → G j (vs j) W) → (∀ i j, i < n → j < n → A i = true → A j = true → i ≠ j → vs i ≠ vs j) →
      wpList P l.toArray Q (l.drop n) (putAll vs (l.take n) 0 a) W) : (Code.region id l.toArray true).wp P Q a w := by
  refine wp_region_any hm ?_
  obtain ⟨vs, hvs⟩ := putAll_self a (l.take n) 0
  have := wp_floatK (K := K) (md := .any) (ops := l.toArray) (Q := Q) (a := a) n hB hG hA hI hs hl l.toArray.size (Array.replicate l.toArray.size false) vs w.drew (by simp)
    ⟨by simp, fun _ _ _ z => (by rw [getD_replicate_false] at z; cases z), fun t _ z => getD_in (by simpa using z) (getD_replicate_false _ _)⟩
    (hI _ _ hI0 (hKd w)) (fun j _ z => (by rw [getD_replicate_false] at z; cases z)) (fun i j _ _ z => (by rw [getD_replicate_false] at z; cases z))
  rw [show putAll vs (List.take n l.toArray.toList) 0 a = a from hvs] at this
  exact this
def satK (L : List (Value → World → Prop)) (i : Nat) : Value → World → Prop := L.getD i fun _ _ => True
def FloatStepK (P : Program) (K : World → World → Prop) (L : List (Value → World → Prop)) (ds : List Nat) (I : World → Prop) (a : Act) (i : Nat) (o : Oper) : Prop :=
  ∀ (vs : Nat → Value) (W : World) (ρ : Operand → Value), (∀ t, ρ (.tmp t) = pick vs ds 0 t (a.eval (.tmp t))) → (∀ v, ρ (.const v) = v) → (∀ f, ρ (.func f) = .func (.func f) #[] #[]) → (∀ g, ρ (.global g) = .pointer (some ⟨g, 0, none⟩)) →
    I W → (∀ j ∈ depsOf .any o, satK L j (vs j) W) → ∀ R : Value → World → Prop,
    (∀ v W', satK L i v W' → K W W' → R v W') →
    if Region.wanted o (fun j => boolOf (vs j)) then floatUpon P R ((execOp ρ o).run P W) else R undef W
def FloatAllK (P : Program) (K : World → World → Prop) (L : List (Value → World → Prop)) (ds : List Nat) (I : World → Prop) (a : Act) : List Oper → Nat → Prop
  | [], _ => True
  | o :: r, i => FloatStepK P K L ds I a i o ∧ FloatAllK P K L ds I a r (i + 1)
theorem wp_region_saidK {id : Nat} {Q : Exit → Act → World → Prop} {a : Act} {w : World} {l : List Oper} (n : Nat) (ds : List Nat) (L : List (Value → World → Prop)) (I : World → Prop) (K : World → World → Prop)
    (hm : P.follows .mixedOrders = true) (hB : floatB .any l.toArray n = true) (hds : slotsAre ds (l.take n) = true) (hsz : ds.all (· < a.tmps.size) = true) (hgd : guardsB n (l.take n) = true)
    (hL : ∀ i v W W', satK L i v W → K W W' → satK L i v W') (hI : ∀ W W', I W → K W W' → I W') (hKd : ∀ W, K W W.drew) (hI0 : I w)
    (hs : FloatAllK P K L ds I a (l.take n) 0)
    (hl : ∀ vs W, I W → (∀ j, j < n → satK L j (vs j) W) → wpList P l.toArray Q (l.drop n) (putAll vs (l.take n) 0 a) W) : (Code.region id l.toArray true).wp P Q a w := by
  have hsz' : ∀ d ∈ ds, d < a.tmps.size := fun d hd => by simpa using List.all_eq_true.1 hsz d hd
  have hyield : ∀ vs i o, (l.take n)[i]? = some o → Region.wanted o (yielded l.toArray (putAll vs (l.take n) 0 a).tmps) = Region.wanted o (fun j => boolOf (vs j)) := fun vs i o ho => by
    unfold Region.wanted
    cases hg : o.guard with
    | none => rfl
    | some gw =>
      obtain ⟨g, want⟩ := gw
      have hgn : g < n := by
        have := List.all_eq_true.1 hgd o (List.mem_of_getElem? ho)
        simpa [hg] using this
      have hn : n ≤ l.length := by
        simp only [floatB, Bool.and_eq_true, decide_eq_true_eq] at hB
        simpa using hB.1.1.1.1
      have hgl : (l.take n)[g]? = some (l[g]'(by omega)) := by rw [List.getElem?_take, if_pos hgn]; simp [show g < l.length by omega]
      obtain ⟨d, hd1, hd2⟩ := slots_nth ds (l.take n) g _ hds hgl
      have h1 : (putAll vs (l.take n) 0 a).eval (.tmp d) = vs g := by
        rw [putAll_pick vs d (l.take n) ds 0 a hds hsz', pick_nth ds (l.take n) 0 g d _ hds hd1, Nat.zero_add]
      have h2 : d < (putAll vs (l.take n) 0 a).tmps.size := by rw [putAll_size]; exact hsz' d (List.mem_of_getElem? hd1)
      have h3 : (putAll vs (l.take n) 0 a).tmps[d]? = some (vs g) := by
        simp only [Act.eval, Array.getD_eq_getD_getElem?, h2, getElem?_pos, Option.getD_some] at h1
        rw [Array.getElem?_eq_getElem h2, h1]
      have h4 : (l.toArray[g]?).bind (·.dst) = some d := by
        simp [show g < l.length by omega, hd2]
      have : yielded l.toArray (putAll vs (l.take n) 0 a).tmps g = boolOf (vs g) := by
        unfold yielded
        rw [h4, Option.bind_some, h3]
        cases vs g <;> rfl
      simp only [this]
  refine wp_region_floatK (K := K) n (fun _ => false) (fun i v W => satK L i v W) I hm hB hL (fun i v W h => by cases h) hI hKd hI0 ?_ (fun vs W h hg _ => hl vs W h hg)
  have : ∀ (m : List Oper) (k : Nat), (∀ i o, m[i]? = some o → (l.take n)[k + i]? = some o) → FloatAllK P K L ds I a m k →
      floatStepsK K P .any l.toArray (fun _ => false) (fun i v W => satK L i v W) I (fun vs => putAll vs (l.take n) 0 a) m k := by
    intro m
    induction m with
    | nil => intro _ _ _; trivial
    | cons o r ih =>
      intro k hk h
      refine ⟨fun vs W hi hdep R hR => ?_, ih (k + 1) (fun i o' ho' => by have := hk (i + 1) o' (by simpa using ho'); rw [show k + (i + 1) = k + 1 + i by omega] at this; exact this) h.2⟩
      have hstep := h.1 vs W (putAll vs (l.take n) 0 a).eval (fun t => putAll_pick vs t (l.take n) ds 0 a hds hsz') (fun _ => rfl) (fun _ => rfl) (fun _ => rfl) hi hdep R (fun v W' h1 h2 => hR v W' h1 h2 (fun h => by cases h))
      rw [hyield vs k o (by have := hk 0 o (by simp); simpa using this)]
      exact hstep
  exact this (l.take n) 0 (fun i o h => by rw [Nat.zero_add]; exact h) hs
end
end Go.Proofs.YtbkanoblcojdfaaGreat
