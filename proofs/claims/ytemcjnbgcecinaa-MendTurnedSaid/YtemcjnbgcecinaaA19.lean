/- Parts of the proof, joined: MpAgree, MdInv, MpWorks, MpDone, MdShell, MatAnyW; their conditions stand with each. -/
import Derived.Deep.SlicePairs
import Derived.Maps.AppendAt
import Derived.Deep.RegionHeldLaw
import Derived.Deep.AppendLies
import Derived.Test.YtemcjnbgcecinaaA8
import Derived.Test.YtemcjnbgcecinaaA12
import Derived.Test.YtemcjnbgcecinaaA13
import Derived.Test.YtemcjnbgcecinaaA14
import Derived.Test.YtemcjnbgcecinaaA17
import Derived.Test.YtemcjnbgcecinaaA18

/- What the landed package mend's Agree answers; one contract; no condition but the range. -/
namespace Go.Proofs.Ytemcjnbgcecinaa
open Go.RowKit

attribute [local go_sem ↓] Go.wp_at_zero Go.wp_at_succ
attribute [local go_sem] floatUpon pick

theorem add_add' (a : Addr) (m n : Nat) : (a.add m).add n = a.add (m + n) := by
  unfold Addr.add
  by_cases h1 : m = 0
  · subst h1; simp
  · by_cases h2 : n = 0
    · subst h2; simp [h1]
    · simp [h1, h2, Nat.add_assoc]

set_option maxRecDepth 20000 in
set_option maxHeartbeats 4000000 in
theorem magree_any : MdAgreeAll := by
  intro k m A c L w h hcap hn hmax
  have HCk := mcheck_any k m A c L w h hn hmax
  unfold ckAns at HCk
  by_cases hz : (ckV k m L).2 = 0
  · obtain ⟨a, b, rfl, rfl, hck, hv⟩ := ck_form hz
    have E : Hid (agrAns (a : Int) (b : Int) L = .tuple #[.bool (agreeB a b L), .int .i64 0]) := by show _ = _; unfold agrAns; rw [if_pos hz, Int.toNat_natCast, Int.toNat_natCast]
    have E1 : Hid ((∀ t, t < L.length → (allL a b L).getD (nI L t) ⟨#[]⟩ = sS L t) → agreeB a b L = true) := fun h => by unfold agreeB; exact decide_eq_true h
    have E2 : Hid (∀ t, t < L.length → (allL a b L).getD (nI L t) ⟨#[]⟩ ≠ sS L t → agreeB a b L = false) := fun t ht hne => by unfold agreeB; exact decide_eq_false fun h => hne (h t ht)
    rw [hv] at HCk
    have HC := Lib.hid HCk
    have HA := Lib.hid h
    have HK := Lib.hid hck
    have k1 := hck.k1
    have k2 := hck.km
    have k3 := hck.len
    have pl : (a : Int) ≤ (L.length : Int) := by omega
    have pcap : (a : Int) ≤ (c : Int) := by omega
    obtain ⟨ad, rfl, hab, _⟩ := h (by omega)
    clear HCk hz hv h hmax hck
    go_enter Try.func22, Try.ntmps22
    go_wp2_with fail
    refine HC.out.mono ?_
    rintro e w1 ⟨rfl, hb⟩
    have A1 := Lib.hid (HA.out.below hb)
    have B1 := Lib.hid hb
    clear HC HA hb
    go_wp2_with fail
    refine (mnew_any a b (some ad) c L w1 A1.out HK.out hcap).mono ?_
    rintro e w2 ⟨p, fb, mb, R, rfl, hE, hR1, hR2, hb⟩
    have E2w := Lib.hid hE
    have B2 := Lib.hid (B1.out.trans (hb.mono B1.out.size))
    have HSh := Lib.hid (fun i W hE hi => mshard_any p fb mb a b c i (some ad) L R W HK.out hR1 hR2 hE hi)
    have HTh : Hid (∀ t, t < a → (allL a b L).getD (nI L t) ⟨#[]⟩ = sS L t) := fun t ht => shard_there HK.out hR1 hR2 ht
    clear hE hR1 hR2 hb A1 B1
    by_cases hca : c = a
    · subst hca
      have hlc : L.length = c := by omega
      have EE := Lib.hid (E1.out (fun t ht => HTh.out t (by omega)))
      have pz : ((L.length - c : Nat) : Int) = 0 := by omega
      clear HSh HTh E1 E2
      go_upto_region 6 with fail
      go_loopw [31] (fun u wr => u = .int .i64 0 ∧ wr = w2) (fun _ _ => 0)
      case atStart => exact ⟨rfl, rfl⟩
      case round =>
        obtain ⟨rfl, rfl⟩ := hrel
        go_wp2_with fail
        go_ret2
        exact ⟨by rw [E.out, EE.out]; rfl, B2.out⟩
    · obtain ⟨n, hnl⟩ : ∃ n, L.length = a + n := ⟨L.length - a, by omega⟩
      have hsub : L.length - a = n := by omega
      go_upto_region 6 with fail
      have hn2 : n ≤ 4000000000000000000 := by omega
      clear pcap pl
      go_loopw [31] (fun u wr => ∃ i : Nat, i ≤ n ∧ u = .int .i64 (i : Int) ∧ Hid (∀ t, t < a + i → (allL a b L).getD (nI L t) ⟨#[]⟩ = sS L t) ∧ Hid (Below w2.heap.size w2 wr)) (fun u _ => n - (intOf u).toNat)
      case atStart => exact ⟨0, by omega, rfl, fun t ht => HTh.out t (by omega), Below.refl _ _⟩
      case round =>
        obtain ⟨i, hin, rfl, h0, hbel⟩ := hrel
        by_cases hlt : i < n
        · have pi : (i : Int) < (n : Int) := by omega
          have Er := Lib.hid (E2w.out.below hbel.out)
          obtain ⟨ad', had, hab1, hcl⟩ := Er.out.sh (by omega)
          obtain rfl := Option.some.inj had
          obtain ⟨x1, x2⟩ := hcl (a + i) (by omega)
          have ea : (ad.add (a * 2)).add (i * 2) = ad.add ((a + i) * 2) := by rw [add_add', ← Nat.add_mul]
          rw [← ea] at x1
          have x3 : wr.cell? ⟨((ad.add (a * 2)).add (i * 2)).block, ((ad.add (a * 2)).add (i * 2)).off + 1, none⟩ = some (.string (sS L (a + i))) := by rw [add_field, show (ad.add (a * 2)).add (i * 2 + 1) = ad.add ((a + i) * 2 + 1) by rw [add_add', Nat.add_mul, Nat.add_assoc]]; exact x2
          obtain ⟨n1, n2⟩ := HK.out.nat (i := a + i) (by omega)
          rw [n1] at x1
          have E2i := Lib.hid (E2.out (a + i) (by omega))
          clear x2 hcl ea had
          generalize hq : nI L (a + i) = q at n2 x1 E2i
          have HQ := Lib.hid hq
          generalize hs : sS L (a + i) = sv at x3 E2i
          have HSv := Lib.hid hs
          clear hq hs n1
          go_upto_region 8 with fail
          clear x1 x3
          obtain ⟨s1, b1⟩ := blk1 wr (.cells #[.int .i64 (q : Int), .string sv] 50)
          have hb7 : Below wr.heap.size wr (wr.alloc (.cells #[.int .i64 (q : Int), .string sv] 50)) := (Below.refl _ wr).alloc (Nat.le_refl _) _
          have B7 := Lib.hid (hbel.out.trans (hb7.mono hbel.out.size))
          have E7 := Lib.hid (Er.out.below hb7)
          generalize wr.alloc (.cells #[.int .i64 (q : Int), .string sv] 50) = W7 at s1 b1 B7 E7 ⊢
          have z0 := blk_cell (j := 0) b1 rfl
          have z1 := blk_cell (j := 1) b1 rfl
          have zl : wr.heap.size < W7.heap.size := by omega
          generalize wr.heap.size = g at s1 b1 z0 z1 zl ⊢
          clear hb7 b1 hbel Er
          generalize hal : (allL a b L).getD q ⟨#[]⟩ = av at E2i
          have HSq : Hid (∀ W, MkAt W p fb mb a b (some ad) c L ⟨(tabL (a + b) a (GfU.gen a)).toArray⟩ ⟨(tabL a a R).toArray⟩ → Calls Try.prog 31 #[.pointer (some ⟨p, 0, none⟩), .int .i64 (q : Int)] W fun e w' => e = .returned (.string av) ∧ Below W.heap.size W w') := fun W hE => by
            have h := HSh.out q W hE n2
            rw [hal] at h
            exact h
          have HAl := Lib.hid hal
          clear hal
          refine wp_region_said 7 [35, 36, 37, 38, 39, 40, 41]
            [.is (.pointer (some ⟨p, 0, none⟩)), .is (.pointer (some ⟨g, 0, none⟩)), .is (.int .i64 (q : Int)), .is (.string av), .is (.pointer (some ⟨g, 1, none⟩)), .is (.string sv), .is (.bool (!(av.toList == sv.toList)))]
            (fun W => MkAt W p fb mb a b (some ad) c L ⟨(tabL (a + b) a (GfU.gen a)).toArray⟩ ⟨(tabL a a R).toArray⟩ ∧ W.cell? ⟨g, 0, none⟩ = some (.int .i64 (q : Int)) ∧ W.cell? ⟨g, 1, none⟩ = some (.string sv) ∧ g < W.heap.size)
            (by kernel_rfl) (by kernel_rfl) (by kernel_rfl) (by kernel_rfl) (by kernel_rfl)
            (fun W W' h hb => ⟨h.1.below hb, (hb.cell (p := ⟨g, 0, none⟩) h.2.2.2).trans h.2.1, (hb.cell (p := ⟨g, 1, none⟩) h.2.2.2).trans h.2.2.1, Nat.lt_of_lt_of_le h.2.2.2 hb.size⟩) ⟨E7.out, z0, z1, zl⟩ ?steps ?last
          case steps =>
            simp only [List.take_succ_cons, List.take_zero]
            refine ⟨?_, ?_, ?_, ?_, ?_, ?_, ?_, trivial⟩
            all_goals
              intro vs W ρ hρ hc hf hg hI hH hd R' hR
              obtain ⟨hE, y0, y1, _⟩ := hI
              have HR := Lib.hid hR
              simp [depsOf, Region.binds, sayAt, Say.holds] at hd
              clear hR
              go_simp
              first
                | exact HR.out _ _ (by simp [sayAt, Say.holds]) (Below.refl _ _) (by simp [sayAt, Say.isBlk])
                | (refine (HSq.out _ hE).mono ?_; rintro e w' ⟨rfl, hb⟩; exact ⟨_, rfl, HR.out _ _ (by simp [sayAt, Say.holds]) hb (by simp [sayAt, Say.isBlk])⟩)
                | trace_state
          case last =>
            intro vs W hI hb hg hd
            have g6 := hg 6 (by omega)
            simp only [sayAt, Say.holds, List.getD_cons_succ, List.getD_cons_zero] at g6
            simp only [List.take_succ_cons, List.take_zero, List.drop_succ_cons, List.drop_zero, putAll, Act.put, List.setIfInBounds_toArray, List.set_cons_succ, List.set_cons_zero, Nat.zero_add, Nat.reduceAdd]
            rw [g6]
            have B8 := Lib.hid (B7.out.trans (hb.mono B7.out.size))
            clear g6 hg hd hb hI z0 z1 zl B7 E7
            by_cases he : av = sv
            · have hv : (!(av.toList == sv.toList)) = false := by rw [he]; simp
              rw [hv]
              have HE := Lib.hid he
              clear he hv
              go_wp2_with fail
              go_roundw
              case rel => exact ⟨i + 1, by omega, by go_num, (fun t ht => by
                by_cases e : t = a + i
                · subst e; rw [HQ.out, HAl.out, HSv.out]; exact HE.out
                · exact h0.out t (by omega)), B8.out⟩
              case measure => simp [intOf]; omega
            · have hv : (!(av.toList == sv.toList)) = true := by rw [text_ne he]; rfl
              rw [hv]
              have EE := Lib.hid (E2i.out he)
              clear he hv
              go_wp2_with fail
              go_ret2
              exact ⟨by rw [E.out, EE.out]; rfl, B2.out.trans (B8.out.mono B2.out.size)⟩
        · obtain rfl : i = n := by omega
          have EE := Lib.hid (E1.out (fun t ht => h0.out t (by omega)))
          go_wp2_with fail
          go_ret2
          exact ⟨by rw [E.out, EE.out]; rfl, B2.out.trans (hbel.out.mono B2.out.size)⟩
  · have E : Hid (agrAns k m L = .tuple #[.bool false, .int .i64 (ckV k m L).2]) := by show _ = _; unfold agrAns; rw [if_neg hz]
    have hne : ((ckV k m L).2 != 0) = true := by simp [hz]
    have HC := Lib.hid HCk
    generalize (ckV k m L).2 = er at *
    generalize (ckV k m L).1 = at_ at *
    clear HCk hz h hmax
    go_enter Try.func22, Try.ntmps22
    go_wp2_with fail
    refine HC.out.mono ?_
    rintro e w1 ⟨rfl, hb⟩
    have B1 := Lib.hid hb
    clear hb
    go_wp2_with fail
    go_ret2
    exact ⟨by rw [E.out]; rfl, B1.out⟩

end Go.Proofs.Ytemcjnbgcecinaa

/- A matrix that is not singular has an inverse; what any k shards of an object make: the numbers; no condition but that they go together. -/
namespace Go.Proofs.Ytemcjnbgcecinaa
open Go.RowKit

theorem inv_exists (n : Nat) (M : Nat → Nat → UInt8) (h : ¬ GfU.Sing n M) : ∃ R, GfU.sq n (GfU.mm n R M) GfU.one ∧ GfU.sq n (GfU.mm n M R) GfU.one := by
  have key : ∀ c, c ≤ n → ∃ Q R A, GfU.Going n M Q R A ∧ GfU.plain n c A := by
    intro c
    induction c with
    | zero => exact fun _ => ⟨_, _, _, GfU.going_start n M, fun i j _ hj => absurd hj (by omega)⟩
    | succ c ih =>
      intro hc
      obtain ⟨Q, R, A, hg, hp⟩ := ih (by omega)
      by_cases hz : ∃ a, c ≤ a ∧ a < n ∧ A a c ≠ 0
      · obtain ⟨a, h1, h2, h3⟩ := hz
        obtain ⟨Q2, hg2⟩ := GfU.going_swap (c := c) (a := a) (by omega) h2 hg
        have hp2 := GfU.plain_swap (c := c) (a := a) (by omega) h1 h2 hp
        have hv : (fun i j => A (GfU.swp c a i) j) c c ≠ 0 := by
          show A (GfU.swp c a c) c ≠ 0
          rw [show GfU.swp c a c = a by unfold GfU.swp; rw [if_pos rfl]]
          exact h3
        obtain ⟨Q3, hg3⟩ := GfU.going_elim (c := c) (by omega) hv hg2
        exact ⟨_, _, _, hg3, GfU.plain_elim (by omega) hv hp2⟩
      · exact absurd (GfU.going_sing (c := c) (by omega) hg hp (fun i h1 h2 => Classical.byContradiction fun z => hz ⟨i, h1, h2, z⟩)) h
  obtain ⟨Q, R, A, hg, hp⟩ := key n (Nat.le_refl _)
  exact ⟨R, GfU.going_end hg (fun i j hi hj => hp i j hi hj)⟩

theorem CkOk.inv {k m : Nat} {L : List (Int × ByteArray)} (h : CkOk k m L) : ∃ R, GfU.sq k (GfU.mm k R (gR k L)) GfU.one ∧ GfU.sq k (GfU.mm k (gR k L) R) GfU.one := inv_exists _ _ h.not_sing

section
variable {k m : Nat} {s : ByteArray} {L : List (Int × ByteArray)}

theorem allS_und (hk : 1 ≤ k) : undL k (k + m) (GfU.gen k) (St.shards k s) (St.szN k s.size) = allS k m s :=
  md_gen_all (St.shards_len k s) (fun x hx => St.shards_size hk s x hx)

theorem allS_at (hk : 1 ≤ k) {i : Nat} (hi : i < k + m) : (allS k m s).getD i ⟨#[]⟩ = undS k (GfU.gen k) (St.shards k s) (St.szN k s.size) i := by
  rw [← allS_und hk, undL_at _ _ _ _ _ _ hi]

theorem allS_size (hk : 1 ≤ k) {i : Nat} (hi : i < k + m) : ((allS k m s).getD i ⟨#[]⟩).size = St.szN k s.size := by
  rw [allS_at hk hi]; exact undS_size _ _ _ _ _

/-- k of an object's shards make its data -/
theorem obj_data (hck : CkOk k m L) (hL : ∀ i, i < k → sS L i = (allS k m s).getD (nI L i) ⟨#[]⟩) : dataL k L = St.shards k s ∧ allL k m L = allS k m s := by
  have hk := hck.k1
  have hsz : (sS L 0).size = St.szN k s.size := by rw [hL 0 (by omega)]; exact allS_size hk (hck.nat (by have := hck.len; omega)).2
  have h1 : dataL k L = St.shards k s := data_back hck.inv hsz (St.shards_len k s) (fun x hx => St.shards_size hk s x hx) (fun i hi => by
    rw [hL i hi, allS_at hk (hck.nat (Nat.lt_of_lt_of_le hi hck.len)).2])
  refine ⟨h1, ?_⟩
  unfold allL
  rw [h1, hsz, allS_und hk]

theorem obj_join (hk : 1 ≤ k) (hk2 : k ≤ 255) (hs : s.size ≤ 2048) : joinV (St.shards k s) = .tuple #[.string s, .int .i64 0] := by
  unfold joinV
  rw [St.join_back hk hk2 s hs]
  rfl

theorem obj_ans (hck : CkOk k m L) (hv : (ckV (k : Int) (m : Int) L).2 = 0) (hs : s.size ≤ 2048) (hL : ∀ i, i < k → sS L i = (allS k m s).getD (nI L i) ⟨#[]⟩) : objAns (k : Int) (m : Int) L = .tuple #[.string s, .int .i64 0] := by
  unfold objAns
  rw [if_pos hv, Int.toNat_natCast, (obj_data hck hL).1, obj_join hck.k1 (by have := hck.km; omega) hs]

theorem one_ans (hck : CkOk k m L) (hv : (ckV (k : Int) (m : Int) L).2 = 0) (hL : ∀ i, i < k → sS L i = (allS k m s).getD (nI L i) ⟨#[]⟩) {i : Nat} (hi : i < k + m) :
    oneAns (k : Int) (m : Int) L (i : Int) = .tuple #[.string ((allS k m s).getD i ⟨#[]⟩), .int .i64 0] := by
  unfold oneAns
  rw [if_pos hv, if_pos (by omega), Int.toNat_natCast, Int.toNat_natCast, Int.toNat_natCast, (obj_data hck hL).2]

end

/-- shards of like size, each with another number, go together -/
theorem ck_of {k m n : Nat} {L : List (Int × ByteArray)} (hk : 1 ≤ k) (hkm : k + m ≤ 255) (hl : k ≤ L.length) (hr : ∀ i, i < L.length → 0 ≤ sI L i ∧ sI L i < (k : Int) + (m : Int)) (hd : ∀ i j, i < L.length → j < i → sI L j ≠ sI L i)
    (hs : ∀ i, i < L.length → (sS L i).size = n) (hn : n ≤ 2052) : CkOk k m L ∧ ckV (k : Int) (m : Int) L = (0, 0) := by
  have hall : ∀ i, i < L.length → badE ((k : Int) + (m : Int)) L i = 0 := fun i hi => by
    have := hr i hi
    exact bad_ok (by omega) (fun ⟨j, hj, e⟩ => hd i j hi hj e) (by rw [hs i hi]; omega) (by rw [hs i hi, hs 0 (by omega)])
  refine ⟨⟨hk, hkm, hall, hl⟩, ?_⟩
  rw [ck_none (codeB_yes hk hkm) hall, if_neg (by omega)]

end Go.Proofs.Ytemcjnbgcecinaa

/- The walk of the chapter's example over the landed code; no condition. -/
namespace Go.Proofs.Ytemcjnbgcecinaa
open Go.RowKit

attribute [local go_sem ↓] Go.wp_at_zero Go.wp_at_succ
attribute [local go_sem] floatUpon pick

/-- the shards of a list, with these numbers -/
def pickL (all : List ByteArray) (N : List Nat) : List (Int × ByteArray) := N.map fun (i : Nat) => ((i : Int), all.getD i ⟨#[]⟩)

theorem getD_nat {N : List Nat} {i : Nat} (h : i < N.length) : N.getD i 0 = N[i] := by rw [List.getD_eq_getElem?_getD, List.getElem?_eq_getElem h]; rfl

theorem pickL_I {all : List ByteArray} {N : List Nat} {i : Nat} (h : i < N.length) : sI (pickL all N) i = ((N.getD i 0 : Nat) : Int) := by
  rw [getD_nat h]
  unfold sI pickL
  rw [List.getD_eq_getElem?_getD, List.getElem?_map, List.getElem?_eq_getElem h]; rfl

theorem pickL_S {all : List ByteArray} {N : List Nat} {i : Nat} (h : i < N.length) : sS (pickL all N) i = all.getD (N.getD i 0) ⟨#[]⟩ := by
  rw [getD_nat h]
  unfold sS pickL
  rw [List.getD_eq_getElem?_getD, List.getElem?_map, List.getElem?_eq_getElem h]; rfl

theorem pickL_len (all : List ByteArray) (N : List Nat) : (pickL all N).length = N.length := by simp [pickL]

theorem pickL_N {all : List ByteArray} {N : List Nat} {i : Nat} (h : i < N.length) : nI (pickL all N) i = N.getD i 0 := by
  unfold nI
  rw [pickL_I h, Int.toNat_natCast]

/-- unlike numbers of shards of one object: they go together -/
theorem pick_ck {k m : Nat} {s : ByteArray} {N : List Nat} (hk : 1 ≤ k) (hkm : k + m ≤ 255) (hs : s.size ≤ 2048) (hl : k ≤ N.length) (hr : ∀ i, i < N.length → N.getD i 0 < k + m) (hd : ∀ i j, i < N.length → j < i → N.getD j 0 ≠ N.getD i 0) :
    CkOk k m (pickL (allS k m s) N) ∧ ckV (k : Int) (m : Int) (pickL (allS k m s) N) = (0, 0) := by
  refine ck_of (n := St.szN k s.size) hk hkm (by rw [pickL_len]; exact hl) ?_ ?_ ?_ (by have := St.sz_bound1 (n := s.size) hk hs; omega)
  · intro i hi
    rw [pickL_len] at hi
    have := hr i hi
    rw [pickL_I hi]
    omega
  · intro i j hi hj e
    rw [pickL_len] at hi
    rw [pickL_I hi, pickL_I (by omega)] at e
    exact hd i j hi hj (by omega)
  · intro i hi
    rw [pickL_len] at hi
    rw [pickL_S hi]
    exact allS_size hk (hr i hi)

theorem pick_have {k m : Nat} {s : ByteArray} {N : List Nat} (hl : k ≤ N.length) : ∀ i, i < k → sS (pickL (allS k m s) N) i = (allS k m s).getD (nI (pickL (allS k m s) N) i) ⟨#[]⟩ := fun i hi => by
  rw [pickL_S (by omega), pickL_N (by omega)]

/-- what Encode answers of an object that may be -/
theorem enc_yes {k m : Nat} {s : ByteArray} (h1 : 1 ≤ k) (h2 : k + m ≤ 255) (hs : s.size ≤ 2048) : ∀ H e w', EncodeAns H (k : Int) (m : Int) s e w' → ∃ g cap, e = .returned (.tuple #[.slice (some ⟨g, 0, none⟩) (k + m) cap, .int .i64 0]) ∧
    w'.ownsRow H 9 1 (.slice (some ⟨g, 0, none⟩) (k + m) cap) (k + m) (strV (allS k m s)) := fun H e w' h => by
  unfold EncodeAns at h
  rw [if_pos (codeB_yes h1 h2), if_pos hs, Int.toNat_natCast, Int.toNat_natCast] at h
  obtain ⟨v, e1, e2⟩ := h
  obtain ⟨g, cap, rfl, _⟩ := World.ownsRow.form e2 (by omega)
  exact ⟨g, cap, e1, e2⟩

theorem strs_getD {w : World} {A : Addr} {l : List ByteArray} {i : Nat} (h : StrsAt w (some A) l) (hi : i < l.length) : w.cell? (A.add i) = some (.string (l.getD i ⟨#[]⟩)) := by
  obtain ⟨ad, had, _, hc⟩ := h (by omega)
  obtain rfl := Option.some.inj had
  rw [hc i hi, List.getD_eq_getElem?_getD, List.getElem?_eq_getElem hi]; rfl

theorem shards2 {w : World} {p : Nat} {i j : Int} {x y : ByteArray} (h : w.heap[p]? = some (.cells #[.int .i64 i, .string x, .int .i64 j, .string y] 50 (0, 0))) : ShardsAt w (some ⟨p, 0, none⟩) [(i, x), (j, y)] := fun _ => by
  refine ⟨_, rfl, (Array.getElem?_eq_some_iff.1 h).1, fun n hn => ?_⟩
  rw [addr_head, addr_head]
  match n, hn with
  | 0, _ => exact ⟨blk_cell h rfl, blk_cell h rfl⟩
  | 1, _ => exact ⟨blk_cell h rfl, blk_cell h rfl⟩

/-- k unlike shards of an object make it -/
theorem obj_call {k m : Nat} {s : ByteArray} {N : List Nat} (hk : 1 ≤ k) (hkm : k + m ≤ 255) (hs : s.size ≤ 2048) (hl : k ≤ N.length) (hl2 : N.length ≤ 4000000000000000000) (hr : ∀ i, i < N.length → N.getD i 0 < k + m) (hd : ∀ i j, i < N.length → j < i → N.getD j 0 ≠ N.getD i 0)
    (A : Option Addr) (c : Nat) (W : World) (h : ShardsAt W A (pickL (allS k m s) N)) (hc : N.length ≤ c) :
    Calls Try.prog 17 #[.int .i64 (k : Int), .int .i64 (m : Int), .slice A N.length c] W fun e w' => e = .returned (.tuple #[.string s, .int .i64 0]) ∧ Below W.heap.size W w' := by
  obtain ⟨hck, hv⟩ := pick_ck (m := m) (s := s) hk hkm hs hl hr hd
  have h1 := mobject_any k m A c (pickL (allS k m s) N) W h (by rw [pickL_len]; exact hc) (by rw [pickL_len]; exact hl2) (fun i hi => by
    rw [pickL_len] at hi
    rw [pickL_S hi, allS_size hk (hr i hi)]
    have := St.sz_bound1 (n := s.size) hk hs
    omega)
  rw [pickL_len, obj_ans hck (by rw [hv]) hs (pick_have hl)] at h1
  exact h1

set_option maxRecDepth 20000 in
set_option maxHeartbeats 4000000 in
theorem mdworks_true : MdWorks := by
  intro w
  have HEn := Lib.hid (encode_any 2 1 ⟨#[97, 98, 99]⟩ w (by decide))
  have HEy := Lib.hid (enc_yes (k := 2) (m := 1) (s := ⟨#[97, 98, 99]⟩) (by omega) (by omega) (by decide))
  have HOb : Hid (∀ A W, ShardsAt W A (pickL (allS 2 1 ⟨#[97, 98, 99]⟩) [2, 1]) → Calls Try.prog 17 #[.int .i64 2, .int .i64 1, .slice A 2 2] W fun e w' => e = .returned (.tuple #[.string ⟨#[97, 98, 99]⟩, .int .i64 0]) ∧ Below W.heap.size W w') := fun A W h =>
    obj_call (k := 2) (m := 1) (s := ⟨#[97, 98, 99]⟩) (N := [2, 1]) (by omega) (by omega) (by decide) (by simp) (by simp) (fun i hi => by
    match i, hi with
    | 0, _ => decide
    | 1, _ => decide) (fun i j hi hj => by
    match i, hi with
    | 0, _ => omega
    | 1, _ => obtain rfl : j = 0 := by omega
              decide) A 2 W h (by simp)
  have HLen := Lib.hid (allS_len 2 1 ⟨#[97, 98, 99]⟩)
  generalize allS 2 1 ⟨#[97, 98, 99]⟩ = all at HEy HOb HLen
  go_enter Try.func9, Try.ntmps9
  go_wp2_with fail
  refine HEn.out.mono ?_
  rintro e w1 ⟨hans, hb⟩
  obtain ⟨g, cap, rfl, hown⟩ := HEy.out _ _ _ hans
  have hst : StrsAt w1 (some ⟨g, 0, none⟩) all := StrsAt.own hown HLen.out.symm
  have c1 := strs_getD hst (i := 1) (by have := HLen.out; omega)
  have c2 := strs_getD hst (i := 2) (by have := HLen.out; omega)
  rw [addr_head] at c1 c2
  have hg := World.block_lt_of_cell? w1 _ c1
  simp only at hg
  have B1 := Lib.hid hb
  clear hans hb hown hst HEn HEy
  go_upto_region 4 with fail
  refine wp_region_said 14 [17, 18, 19, 20, 21, 22, 23, 24, 25, 26, 16, 27, 28, 3]
    [.is (.slice (some ⟨g, 0, none⟩) 3 cap), .is (.pointer (some ⟨g, 2, none⟩)), .is (.string (all.getD 2 ⟨#[]⟩)), .is (.agg #[.int .i64 2, .string (all.getD 2 ⟨#[]⟩)]), .is (.slice (some ⟨g, 0, none⟩) 3 cap), .is (.pointer (some ⟨g, 1, none⟩)), .is (.string (all.getD 1 ⟨#[]⟩)), .is (.agg #[.int .i64 1, .string (all.getD 1 ⟨#[]⟩)]),
     .arr 50 #[.int .i64 2, .string (all.getD 2 ⟨#[]⟩), .int .i64 1, .string (all.getD 1 ⟨#[]⟩)] 2 2, .is (.tuple #[.string ⟨#[97, 98, 99]⟩, .int .i64 0]), .is (.tuple #[.string ⟨#[97, 98, 99]⟩, .int .i64 0]), .is (.string ⟨#[97, 98, 99]⟩), .is (.int .i64 0), .is (.string ⟨#[97, 98, 99]⟩)]
    (fun W => W.cell? ⟨g, 1, none⟩ = some (.string (all.getD 1 ⟨#[]⟩)) ∧ W.cell? ⟨g, 2, none⟩ = some (.string (all.getD 2 ⟨#[]⟩)) ∧ g < W.heap.size) (by kernel_rfl) (by kernel_rfl) (by kernel_rfl) (by kernel_rfl) (by kernel_rfl)
    (fun W W' h hb => ⟨(hb.cell (p := ⟨g, 1, none⟩) h.2.2).trans h.1, (hb.cell (p := ⟨g, 2, none⟩) h.2.2).trans h.2.1, Nat.lt_of_lt_of_le h.2.2 hb.size⟩) ⟨c1, c2, hg⟩ ?steps ?last
  case steps =>
    simp only [List.take_succ_cons, List.take_zero]
    refine ⟨?_, ?_, ?_, ?_, ?_, ?_, ?_, ?_, ?_, ?_, ?_, ?_, ?_, ?_, trivial⟩
    all_goals
      intro vs W ρ hρ hc hf hg hI hH hd R' hR
      obtain ⟨c1, c2, _⟩ := hI
      have HR := Lib.hid hR
      simp [depsOf, Region.binds, sayAt, Say.holds] at hd
      clear hR
      go_simp
      first
        | exact HR.out _ _ (by simp [sayAt, Say.holds]) (Below.refl _ _) (by simp [sayAt, Say.isBlk])
        | exact HR.out _ _ ⟨_, hH, by simp, rfl, heap_alloc_new _ _⟩ ((Below.refl _ _).alloc (Nat.le_refl _) _) (fun h => by cases h)
        | (obtain ⟨q, hq1, hq2, hq3, hq4⟩ := hd; simp only [hq3]; refine (HOb.out _ _ (shards2 hq4)).mono ?_; rintro e w' ⟨rfl, hb⟩; exact ⟨_, rfl, HR.out _ _ (by simp [sayAt, Say.holds]) hb (by simp [sayAt, Say.isBlk])⟩)
        | trace_state
  case last =>
    intro vs W hI hb hg hd
    have g13 := hg 13 (by omega)
    have g12 := hg 12 (by omega)
    simp only [sayAt, Say.holds, List.getD_cons_succ, List.getD_cons_zero] at g13 g12
    simp only [List.take_succ_cons, List.take_zero, List.drop_succ_cons, List.drop_zero, putAll, Act.put, List.setIfInBounds_toArray, List.set_cons_succ, List.set_cons_zero, Nat.zero_add, Nat.reduceAdd]
    rw [g13, g12]
    have B2 := Lib.hid (B1.out.trans (hb.mono B1.out.size))
    clear g13 g12 hg hd hb hI
    go_wp2_with fail
    go_ret
    exact ⟨rfl, B2.out⟩

end Go.Proofs.Ytemcjnbgcecinaa

/- What the three laws of layer 4 that go by the document's answer need, joined; it states nothing of its own. -/
namespace Go.Proofs.Ytemcjnbgcecinaa

end Go.Proofs.Ytemcjnbgcecinaa

/- A slice of shards as a law's argument: what its reading says. -/
namespace Go.Proofs.Ytemcjnbgcecinaa
open Go.ChangeShapes Go.WideShapes Go.ChangeAt Go.RowKit

theorem weights_of_all {H : Type} (P : Program) (e : TypeId) (x : Nat) : ∀ (ds : List (DataW H)) (d : DataW H), d ∈ ds → x ∈ d.weights P e → x ∈ DataW.weightsAll P e ds
  | [], _, h, _ => by simp at h
  | y :: r, d, h, hx => by
    show x ∈ y.weights P e ++ DataW.weightsAll P e r
    rw [List.mem_append]
    rcases List.mem_cons.1 h with rfl | h
    · exact .inl hx
    · exact .inr (weights_of_all P e x r d h hx)

theorem weights_pair {H : Type} (P : Program) (e : TypeId) {f0 f1 : Field} (he : P.underlying e = some (.struct #[f0, f1])) (d : DataW H) (s : ByteArray) :
    s.size ∈ (DataW.agg [d, .lit (.string s.data.toList)]).weights P e := by
  simp only [DataW.weights, he]
  show s.size ∈ d.weights P f0.type ++ ((DataW.lit (H := H) (.string s.data.toList)).weights P f1.type ++ [])
  rw [List.mem_append]
  right
  rw [List.append_nil]
  show s.size ∈ [s.data.toList.length]
  simp

set_option maxRecDepth 20000 in
theorem open_shardsOf {H : Type} {enc : TypeId × Value → H} {W : World} {base : Nat} {t e : TypeId} {f0 f1 : Field} {v : Value} {d : DataW H} {p : List MemPlace} {ts : List TypeId} {ds : List (DataW H)} {j : Nat}
    (ht : Try.prog.underlying t = some (.slice e)) (he : Try.prog.underlying e = some (.struct #[f0, f1])) (ce : Try.prog.cellsOf e = 2) (o0 : f0.offset = 0) (o1 : f1.offset = 1) (c0 : Try.prog.cellsOf f0.type = 1) (c1 : Try.prog.cellsOf f1.type = 1)
    (t0 : Try.prog.underlying f0.type = some (.int .i64)) (t1 : Try.prog.underlying f1.type = some .string)
    (hsz : (DataW.weightsEach Try.prog ts ds).all (· ≤ reachBytes) = true) (hj : ts[j]? = some t) (hd : ds[j]? = some d) (hb24 : Try.prog.bytesOf e = 24)
    (hv : Value.okWide Try.prog W .any base t v) (h : DataW.Trod enc Try.prog W 0 (fun _ => true) true t v d p) (hl : ∀ x ∈ p, x.block < W.heap.size) : ∃ L, ShardsOf W v L := by
  obtain ⟨a0, len, cap, rfl⟩ := okWide_slice ht hv
  obtain ⟨fuel, hf⟩ := h
  rcases Go.Deep.open_slice_pairs ht he ce o0 o1 c0 c1 hf with ⟨hcs, hx⟩ | ⟨a, len', cap', m, n, V0, V1, D0, D1, P0, P1, hcs, _, hl', hm, hmm, hx, hcell⟩
  · simp [Value.cells] at hcs
    obtain ⟨rfl, rfl, rfl⟩ := hcs
    exact ⟨[], none, 0, rfl, fun h => absurd h (by simp), fun _ => ⟨rfl, rfl⟩, by simp, fun i hi => absurd hi (by simp)⟩
  · simp [Value.cells] at hcs
    obtain ⟨rfl, rfl, rfl⟩ := hcs
    simp only [if_true] at hmm
    subst hmm
    simp only [Prod.mk.injEq] at hx
    obtain ⟨rfl, rfl⟩ := hx
    have each : ∀ i, ∃ q : Int × ByteArray, i < m → V0 i = .int .i64 q.1 ∧ V1 i = .string q.2 ∧ D1 i = .lit (.string q.2.data.toList) := fun i => by
      by_cases hi : i < m
      · obtain ⟨_, _, g0, g1⟩ := hcell i hi
        obtain ⟨x, u0, _, _⟩ := DataW.trod_int t0 g0
        obtain ⟨s, u1, e1, _⟩ := DataW.trod_string t1 g1
        simp only [List.cons.injEq, and_true] at u0 u1
        simp only [Prod.mk.injEq] at e1
        exact ⟨(x, s), fun _ => ⟨u0, u1, e1.1⟩⟩
      · exact ⟨(0, ⟨#[]⟩), fun h => absurd h hi⟩
    obtain ⟨q, hq⟩ := Classical.axiomOfChoice each
    have hlen : ((List.range len).map q).length = len := by simp
    have hat : ∀ i, i < len → ((List.range len).map q).getD i (0, ⟨#[]⟩) = q i := fun i hi => by
      rw [List.getD_eq_getElem?_getD, List.getElem?_map, List.getElem?_range hi]; rfl
    have hs := sized_slice hsz hj hd ht
    rw [hb24] at hs
    refine ⟨(List.range len).map q, some a, m, by rw [hlen], fun hpos => ⟨a, rfl, ?_, fun i hi => ?_⟩, fun h => (by cases h), ?_, fun i hi => ?_⟩
    · obtain ⟨b, off, spot⟩ := a
      rw [hlen] at hpos
      exact hl (.cell b off) (List.mem_append.2 (.inl (MemPlace.mem_row.2 ⟨0, by omega, by simp⟩)))
    · rw [hlen] at hi
      obtain ⟨h1, h2, _, _⟩ := hcell i (by omega)
      obtain ⟨h3, h4, _⟩ := hq i (by omega)
      unfold sI sS
      rw [hat i hi, h1, h2, h3, h4]
      exact ⟨rfl, rfl⟩
    · refine Nat.le_trans (Nat.mul_le_mul_right 24 ?_) hs
      rw [hlen]
      simp
    · rw [hlen] at hi
      obtain ⟨_, _, h5⟩ := hq i (by omega)
      unfold sS
      rw [hat i hi]
      have h1 := List.all_eq_true.1 hsz _ (DataW.weights_mem_each hj hd (q i).2.size (by
        simp only [DataW.weights, ht, List.mem_cons, List.mem_append]
        refine .inr (.inl (weights_of_all _ _ _ _ (.agg [D0 i, D1 i]) (List.mem_map.2 ⟨i, List.mem_range.2 hi, rfl⟩) ?_))
        rw [h5]
        exact weights_pair _ _ he _ _))
      have h2 : (q i).2.size ≤ reachBytes := by simpa using h1
      exact h2

end Go.Proofs.Ytemcjnbgcecinaa

/- The walk of the law that any k unlike rows of a generator have an inverse; no condition but the form's reach. -/
namespace Go.Proofs.Ytemcjnbgcecinaa
open Go.RowKit

/-- an append, of nothing too, at a step of a region that draws its order -/
theorem step_append_at {P : Program} {ops : Array Oper} {o : Oper} {a : Act} {w : World} {K : Act → World → Prop} {Q : Exit → Act → World → Prop} {E : Prop} (hgd : o.guard = none) (s x : Operand) (t : TypeId)
    (ho : o.op = .call { callee := .builtin .append, args := #[s, x], argTypes := #[t, t] })
    (base : Nat) (e : TypeId) (i : TypeInfo) (z : Value) (size bytes : Nat) (ht : P.underlying t = some (.slice e)) (hi : P.info? e = some i) (hz : i.zero = some z)
    (hsize : i.size = size) (hby : i.bytes = bytes) (hzs : z.cells.size = size) (hsz : 0 < size) (v : Value) (n : Nat) (xs : List Value) (hs : a.eval s = v) (hown : w.ownsRow base e size v n xs)
    (ad : Addr) (m c : Nat) (news : List Value) (hx : a.eval x = .slice (some ad) m c) (hl : news.length = m * size) (hnews : ∀ j u, news[j]? = some u → w.cell? (ad.add j) = some u) (h1 : ∀ u ∈ news, u.oneCell' = true)
    (h63 : n + m ≤ maxLen) (hbytes : (n + m) * bytes ≤ 140737488355328) (hbase : base ≤ w.heap.size)
    (h : ∀ v' w', w'.ownsRow base e size v' (n + m) (xs ++ news) → w.grownBy w' v.ownBlock → K (a.put o.dst v') w') :
    if Region.wanted o (yielded ops a.tmps) = true then Oper.wp P o a w K Q else E := by
  have hw : Region.wanted o (yielded ops a.tmps) = true := by simp [Region.wanted, hgd]
  rw [if_pos hw]
  obtain ⟨v', w', hr, h2, h3, _, _⟩ := run_append_own_at (P := P) w base t o.type e i z size bytes ht hi hz hsize hby hzs hsz v n xs hown ad m c news hl hnews h1 h63 hbytes hbase
  unfold Oper.wp execOp
  simp only [ho, resolve, invoke, builtin, Sem.run_bind, Sem.run_pure, Result.andThen_ok, List.map_toArray, List.map_cons, List.map_nil, hs, hx, hr]
  exact h v' w' h2 h3

/-- whole numbers as values -/
def numV (R : List Nat) : List Value := R.map fun n : Nat => Value.int .i64 (n : Int)

theorem numV_at (R : List Nat) (j : Nat) (h : j < R.length) : (numV R)[j]? = some (.int .i64 ((R[j] : Nat) : Int)) := by
  unfold numV; rw [List.getElem?_map, List.getElem?_eq_getElem h]; rfl

theorem numV_one (R : List Nat) : ∀ u ∈ numV R, u.oneCell' = true := by
  intro u hu
  obtain ⟨q, _, rfl⟩ := List.mem_map.1 hu
  rfl

theorem slice_behind (g r cap t : Nat) (h1 : t + 1 ≤ r) (h3 : ¬ cap = t + 1) (l : Int) (hl : l = (t : Int) + 1) (W : World) :
    (Instr.slice 43 (.slice (some ⟨g, 0, none⟩) r cap) (some (.int .i64 l)) none none).run Try.prog W = .ok (.slice (some ⟨g, t + 1, none⟩) (r - (t + 1)) (cap - (t + 1))) W := by
  subst hl
  have e : ((t : Int) + 1).toNat = t + 1 := by omega
  rw [run_slice_l W 43 _ r cap (by kernel_rfl) .i64 _ (by omega) (by omega)]
  have hs : (sizeOf (Try.prog.elem 43)).run Try.prog W = .ok 1 W := by kernel_rfl
  rw [hs]
  simp only [Result.andThen, sliced, e, if_neg h3, Option.map_some, Nat.mul_one]
  rw [addr_head]

theorem slice_none (g r cap t : Nat) (h1 : t + 1 ≤ r) (h2 : r ≤ cap) (h3 : cap = t + 1) (l : Int) (hl : l = (t : Int) + 1) (W : World) :
    (Instr.slice 43 (.slice (some ⟨g, 0, none⟩) r cap) (some (.int .i64 l)) none none).run Try.prog W = .ok (.slice (some ⟨g, 0, none⟩) 0 0) W := by
  subst hl
  have e : ((t : Int) + 1).toNat = t + 1 := by omega
  rw [run_slice_l W 43 _ r cap (by kernel_rfl) .i64 _ (by omega) (by omega)]
  have hs : (sizeOf (Try.prog.elem 43)).run Try.prog W = .ok 1 W := by kernel_rfl
  rw [hs]
  simp only [Result.andThen, sliced, e, if_pos h3, Nat.mul_one]
  rw [show r - (t + 1) = 0 by omega, show cap - (t + 1) = 0 by omega]

theorem slice_head (g r cap t : Nat) (h1 : t ≤ r) (h2 : r ≤ cap) (hc : 0 < cap) (h : Int) (hh : h = (t : Int)) (W : World) :
    (Instr.slice 43 (.slice (some ⟨g, 0, none⟩) r cap) none (some (.int .i64 h)) none).run Try.prog W = .ok (.slice (some ⟨g, 0, none⟩) t cap) W := by
  subst hh
  rw [run_slice_h W 43 _ r cap (by kernel_rfl) .i64 _ (by omega) (by omega)]
  have hs : (sizeOf (Try.prog.elem 43)).run Try.prog W = .ok 1 W := by kernel_rfl
  rw [hs]
  simp only [Result.andThen, sliced, Int.toNat_natCast, Nat.sub_zero, Nat.zero_mul, Option.map_some]
  rw [addr_head, if_neg (by omega)]

theorem owns_lower {w : World} {H H' n : Nat} {v : Value} {e : TypeId} {xs : List Value} (h : w.ownsRow H e 1 v n xs) (hH : H' ≤ H) : w.ownsRow H' e 1 v n xs := by
  refine ⟨h.1, ?_⟩
  rcases h.2 with h' | ⟨g, cap, cur, hv, h1, h2, h3, h4, h5, h6⟩
  · exact .inl h'
  · exact .inr ⟨g, cap, cur, hv, Nat.le_trans hH h1, h2, h3, h4, h5, h6⟩

/-- the cells of some of the rows' numbers, where a slice of them begins -/
theorem news_at {w W : World} {g r : Nat} {R : List Nat} (hR : r = R.length) (hc : ∀ j, j < r → w.cell? ⟨g, j, none⟩ = (numV R)[j]?) (hg : g < w.heap.size) (hb : Below w.heap.size w W) (o k : Nat) (hk : o + k ≤ r) :
    ∀ j u, (numV ((R.drop o).take k))[j]? = some u → W.cell? ((⟨g, o, none⟩ : Addr).add j) = some u := by
  intro j u hu
  have hadd : (⟨g, o, none⟩ : Addr).add j = ⟨g, o + j, none⟩ := by unfold Addr.add; split <;> simp_all
  have hj : j < k := by
    have h := (List.getElem?_eq_some_iff.1 hu).1
    unfold numV at h
    rw [List.length_map, List.length_take] at h
    omega
  rw [hadd, hb.cell (p := ⟨g, o + j, none⟩) hg, hc (o + j) (by omega), ← hu]
  unfold numV
  rw [List.getElem?_map, List.getElem?_map, List.getElem?_take, if_pos hj, List.getElem?_drop]

/-- the step behind the fold: which row is dropped -/
def dropAt (d r : Int) : Nat := (d % 18446744073709551616 % r).toNat

theorem drop_conv (d : Int) (r : Nat) (hr : 1 ≤ r) (hr2 : r ≤ 20) : wrap64 ((IntKind.u64.wrap d).tmod (IntKind.u64.wrap (r : Int))) = ((dropAt d r : Nat) : Int) ∧ dropAt d r < r := by
  have e1 : IntKind.u64.wrap d = d % 18446744073709551616 := by simp [IntKind.wrap, IntKind.bits, IntKind.signed]
  have e2 : IntKind.u64.wrap (r : Int) = (r : Int) := by simp [IntKind.wrap, IntKind.bits, IntKind.signed]; omega
  have e0 : 0 ≤ d % 18446744073709551616 := by omega
  have e3 : (d % 18446744073709551616).tmod (r : Int) = d % 18446744073709551616 % (r : Int) := Int.tmod_eq_emod_of_nonneg e0
  have h1 : 0 ≤ d % 18446744073709551616 % (r : Int) := Int.emod_nonneg _ (by omega)
  have h2 : d % 18446744073709551616 % (r : Int) < (r : Int) := Int.emod_lt_of_pos _ (by omega)
  rw [e1, e2, e3]
  unfold dropAt
  refine ⟨?_, by omega⟩
  rw [IntWalk.wrap64_in _ ⟨by omega, by omega⟩]
  omega

theorem erase_split (R : List Nat) (k : Nat) : numV (R.take k) ++ numV (R.drop (k + 1)) = numV (R.eraseIdx k) := by
  unfold numV
  rw [← List.map_append, List.eraseIdx_eq_take_drop_succ]

theorem erased_owns {w : World} {B B' t c : Nat} {v : Value} {A C D : List Nat} (h : w.ownsRow B 3 1 v (0 + t + c) ([] ++ numV A ++ numV C)) (hA : numV A ++ numV C = numV D) (hl : 0 + t + c = D.length) (hB : B' ≤ B) : w.ownsRow B' 3 1 v D.length (numV D) := by
  rw [List.nil_append, hA, hl] at h
  exact owns_lower h hB

theorem erase_form (R : List Nat) (r t : Nat) (hr : r = R.length) : numV ((R.drop 0).take t) ++ numV ((R.drop (t + 1)).take (r - (t + 1))) = numV (R.eraseIdx t) := by
  rw [List.drop_zero, List.take_of_length_le (l := R.drop (t + 1)) (by rw [List.length_drop]; omega), erase_split]

theorem erase_last (R : List Nat) (r t : Nat) (hr : r = R.length) (h : r = t + 1) : numV ((R.drop 0).take t) ++ numV ((R.drop 0).take 0) = numV (R.eraseIdx t) := by
  rw [List.drop_zero, List.take_zero, ← erase_split, List.drop_of_length_le (by omega)]

theorem erase_len (R : List Nat) (r t : Nat) (hr : r = R.length) (h : t < r) : (R.eraseIdx t).length = r - 1 := by
  rw [List.length_eraseIdx, if_pos (by omega), ← hr]

theorem erase_all (R : List Nat) (k : Nat) (hR : R.Nodup) (b : Nat) (hb : ∀ x ∈ R, x < b) : (R.eraseIdx k).Nodup ∧ ∀ x ∈ R.eraseIdx k, x < b :=
  ⟨hR.sublist (List.eraseIdx_sublist R k), fun x hx => hb x ((List.eraseIdx_sublist R k).subset hx)⟩

theorem sing_congr {n : Nat} {M M' : Nat → Nat → UInt8} (h : GfU.Sing n M) (e : GfU.sq n M M') : GfU.Sing n M' := by
  obtain ⟨v, c, hc, hv, h0⟩ := h
  refine ⟨v, c, hc, hv, fun i hi => ?_⟩
  have e1 : GfU.sum n (fun k => GfU.ml (M' i k) (v k)) = GfU.sum n (fun k => GfU.ml (M i k) (v k)) := GfU.sum_congr n fun k hk => by rw [e i k hi hk]
  rw [e1]; exact h0 i hi

theorem picked_not_sing (k m : Nat) (R : List Nat) (hk : k + m ≤ 255) (hR : R.Nodup) (hl : R.length = k) (hm : ∀ x ∈ R, x < k + m) :
    ¬ GfU.Sing k (cel ⟨(tabL k k (pickF (R.map fun n : Nat => (n : Int)) (cel ⟨(tabL (k + m) k (GfU.gen k)).toArray⟩ k))).toArray⟩ k) := by
  intro h
  refine GfU.gen_not_sing k R hR hl (fun i hi => by have := hm i hi; omega) (by omega) (sing_congr h ?_)
  intro i j hi hj
  rw [cel_tab k k _ i j hi hj]
  unfold pickF
  have hi' : i < R.length := by omega
  rw [List.getD_eq_getElem?_getD, List.getElem?_map, List.getElem?_eq_getElem hi', Option.map_some, Option.getD_some, Int.toNat_natCast, cel_tab (k + m) k _ _ j (hm _ (List.getElem_mem hi')) hj]
  show _ = GfU.gen k (R.getD i 0) j
  rw [List.getD_eq_getElem?_getD, List.getElem?_eq_getElem hi', Option.getD_some]

end Go.Proofs.Ytemcjnbgcecinaa
