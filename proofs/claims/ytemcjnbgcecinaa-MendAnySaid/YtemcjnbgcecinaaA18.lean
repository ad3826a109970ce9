/- Parts of the proof, joined: MpNew, MpShard2, MpData; their conditions stand with each. -/
import Derived.Test.YtemcjnbgcecinaaA1
import Derived.Test.YtemcjnbgcecinaaA8
import Derived.Test.YtemcjnbgcecinaaA12
import Derived.Test.YtemcjnbgcecinaaA13
import Derived.Test.YtemcjnbgcecinaaA14
import Derived.Test.YtemcjnbgcecinaaA15
import Derived.Test.YtemcjnbgcecinaaA17

/- What the landed package mend's maker is made of; contracts; no condition but that the shards go together. -/
namespace Go.Proofs.Ytemcjnbgcecinaa
open Go.RowKit

attribute [local go_sem ↓] Go.wp_at_zero Go.wp_at_succ
attribute [local go_sem] floatUpon pick

theorem run_makeMap_hint (k : Int) (W : World) : (Instr.makeMap 53 (some (.int .i64 k))).run Try.prog W = .ok (.map (some W.heap.size)) (W.alloc (.map #[] 0)) := by
  simp [Instr.makeMap, run_underlying (Try.underlying53), asInt, Result.andThen]
  rfl

/-- a maker's cells -/
def mkCells (fb mb k c : Nat) (A : Option Addr) (x y : Int) (G : ByteArray) (x' y' : Int) (R : ByteArray) : Array Value :=
  #[.pointer (some ⟨fb, 0, none⟩), .int .i64 x, .int .i64 y, .string G, .int .i64 x', .int .i64 y', .string R, .slice A k c, .map (some mb)]

/-- while a maker is made: i of the numbers stand -/
structure NwAt (w W : World) (p fb mb nb k c : Nat) (A : Option Addr) (L : List (Int × ByteArray)) (i : Nat) : Prop where
  fld : FieldAt W fb
  blk : W.heap[p]? = some (.cells (mkCells fb mb k c A 0 0 ⟨#[]⟩ 0 0 ⟨#[]⟩) 73 (0, 0))
  num : Cel W nb 3 (preV (rowsN (rowsL k L)) (.int .i64 0) i)
  map : MapAt W mb i (plF L i)
  bel : Below w.heap.size w W
  lo : w.heap.size ≤ p ∧ w.heap.size ≤ mb ∧ w.heap.size ≤ nb ∧ p ≠ nb ∧ fb ≠ nb ∧ fb ≠ p

theorem map_ne {W : World} {b i n : Nat} {a : Nat} {v : Value} {f : Int → Option Int} (h : MapAt W b n f) (hv : W.cell? ⟨a, i, none⟩ = some v) : a ≠ b := fun e => by
  subst e
  obtain ⟨D, ⟨es, clock, h1, _⟩, _⟩ := h
  unfold World.cell? at hv
  rw [h1] at hv
  cases hv

section
variable {w W W' : World} {p fb mb nb k c i : Nat} {A : Option Addr} {L : List (Int × ByteArray)}

theorem NwAt.below (h : NwAt w W p fb mb nb k c A L i) (hb : Below W.heap.size W W') : NwAt w W' p fb mb nb k c A L i :=
  ⟨h.fld.below hb h.fld.lt, (hb.block p (Array.getElem?_eq_some_iff.1 h.blk).1).trans h.blk, h.num.below hb, h.map.below hb, h.bel.trans (hb.mono h.bel.size), h.lo⟩

/-- a number more, and its place -/
theorem NwAt.step {W1 W2 : World} {at_ : Nat} (h : NwAt w W p fb mb nb k c A L i) (hi : i < k) (_hk : k ≤ L.length) (h1 : W1 = (W.setCell ⟨nb, i, none⟩ (.int .i64 (sI L i))).drewN at_) (hm : MapAt W2 mb (i + 1) (setK (plF L i) (sI L i) (i : Int))) (hg : W1.grownBy W2 (some mb)) (_hsz : W2.heap.size = W1.heap.size) :
    NwAt w W2 p fb mb nb k c A L (i + 1) := by
  have hmn : nb ≠ mb := map_ne h.map (Cel.cell h.num (preV_at (rowsN (rowsL k L)) (.int .i64 0) i i (by simp [rowsN, rowsL]; omega) (by simp [rowsN, rowsL]; omega)).choose_spec)
  have hmp : p ≠ mb := map_ne h.map (blk_cell (j := 0) h.blk rfl)
  have hmf : fb ≠ mb := map_ne h.map (h.fld.1 0 (by omega))
  have hz : W1.heap.size = W.heap.size := by rw [h1]; simp
  obtain ⟨l1, l2, l3, l4, l5, l6⟩ := h.lo
  have hblk : ∀ q, q < W.heap.size → q ≠ mb → q ≠ nb → W2.heap[q]? = W.heap[q]? := fun q hq h3 h4 => by
    rw [hg.block q (by omega) (by simpa using h3), h1]
    exact Below.heap_setCell W ⟨nb, i, none⟩ _ q h4
  have hcell : ∀ q o, q < W.heap.size → q ≠ mb → q ≠ nb → W2.cell? ⟨q, o, none⟩ = W.cell? ⟨q, o, none⟩ := fun q o hq h3 h4 => by
    unfold World.cell?
    rw [hblk q hq h3 h4]
  refine ⟨⟨fun j hj => (hcell fb j h.fld.lt hmf l5).trans (h.fld.1 j hj), fun j hj => (hcell fb _ h.fld.lt hmf l5).trans (h.fld.2 j hj)⟩, (hblk p (Array.getElem?_eq_some_iff.1 h.blk).1 hmp l4).trans h.blk, ?_, hm, ?_, h.lo⟩
  · have hs := Cel.set h.num (i := i) (v := .int .i64 (sI L i))
    rw [preV_set (rowsN (rowsL k L)) (.int .i64 0) (.int .i64 (sI L i)) i (by simp [rowsN, rowsL]; omega) (by
      rw [rowsN_at (by rw [rowsL_len]; exact hi)]
      congr 2
      simp [rowsL])] at hs
    have hb : W2.heap[nb]? = W1.heap[nb]? := hg.block nb (by rw [hz]; exact h.num.lt) (by simpa using hmn)
    unfold Cel
    rw [hb, h1]
    exact hs
  · have b1 : Below w.heap.size w W1 := by rw [h1]; exact below_drewN (h.bel.setCell l3 _) at_
    exact b1.grown hg b1.size (fun q hq => by cases hq; exact l2)

end

/-- when the numbers stand: what the maker's block holds -/
structure PhAt (w W : World) (p fb mb nb k : Nat) (L : List (Int × ByteArray)) (cs : Array Value) : Prop where
  blk : W.heap[p]? = some (.cells cs 73 (0, 0))
  fld : FieldAt W fb
  map : MapAt W mb k (plF L k)
  num : Cel W nb 3 (rowsN (rowsL k L))
  bel : Below w.heap.size w W
  lo : w.heap.size ≤ p ∧ p ≠ nb ∧ fb ≠ p ∧ mb ≠ p

section
variable {w W W' : World} {p fb mb nb k : Nat} {L : List (Int × ByteArray)} {cs : Array Value}

theorem PhAt.below (h : PhAt w W p fb mb nb k L cs) (hb : Below W.heap.size W W') : PhAt w W' p fb mb nb k L cs :=
  ⟨(hb.block p (Array.getElem?_eq_some_iff.1 h.blk).1).trans h.blk, h.fld.below hb h.fld.lt, h.map.below hb, h.num.below hb, h.bel.trans (hb.mono h.bel.size), h.lo⟩

theorem PhAt.set (h : PhAt w W p fb mb nb k L cs) (i : Nat) (v : Value) : PhAt w (W.setCell ⟨p, i, none⟩ v) p fb mb nb k L (cs.setIfInBounds i v) := by
  obtain ⟨l1, l2, l3, l4⟩ := h.lo
  have hk : ∀ q, q ≠ p → (W.setCell ⟨p, i, none⟩ v).heap[q]? = W.heap[q]? := fun q hq => Below.heap_setCell W ⟨p, i, none⟩ v q hq
  have hc : ∀ q o, q ≠ p → (W.setCell ⟨p, i, none⟩ v).cell? ⟨q, o, none⟩ = W.cell? ⟨q, o, none⟩ := fun q o hq => by unfold World.cell?; rw [hk q hq]
  refine ⟨?_, ⟨fun j hj => (hc fb j l3).trans (h.fld.1 j hj), fun j hj => (hc fb _ l3).trans (h.fld.2 j hj)⟩, ?_, (hk nb (Ne.symm l2)).trans h.num, h.bel.setCell l1 _, h.lo⟩
  · have hb := h.blk
    simp [World.setCell, Array.getElem?_modify, hb]
  · obtain ⟨D, ⟨es, clock, h1, h2⟩, h3⟩ := h.map
    exact ⟨D, ⟨es, clock, (hk mb l4).trans h1, h2⟩, h3⟩

end

def NewAns (w : World) (k m : Nat) (A : Option Addr) (c : Nat) (L : List (Int × ByteArray)) (e : Ending) (w' : World) : Prop :=
  ∃ p fb mb R, e = .returned (.pointer (some ⟨p, 0, none⟩)) ∧ MkAt w' p fb mb k m A c L ⟨(tabL (k + m) k (GfU.gen k)).toArray⟩ ⟨(tabL k k R).toArray⟩ ∧
    GfU.sq k (GfU.mm k R (gR k L)) GfU.one ∧ GfU.sq k (GfU.mm k (gR k L) R) GfU.one ∧ Below w.heap.size w w'

set_option maxRecDepth 20000 in
set_option maxHeartbeats 4000000 in
theorem mnew_any (k m : Nat) (A : Option Addr) (c : Nat) (L : List (Int × ByteArray)) (w : World) (h : ShardsAt w A L) (hck : CkOk k m L) (hcap : L.length ≤ c) :
    Calls Try.prog 30 #[.int .i64 (k : Int), .int .i64 (m : Int), .slice A L.length c] w fun e w' => NewAns w k m A c L e w' := by
  obtain ⟨i1, hi', hz0', hz1', hz2'⟩ := info_parts Try.infoInt'
  have HA := Lib.hid h
  have HK := Lib.hid hck
  have k1 := hck.k1
  have k2 := hck.km
  have k3 := hck.len
  have pc : (k : Int) ≤ (c : Int) := by omega
  obtain ⟨ad, rfl, hab, _⟩ := h (by omega)
  clear h hck
  go_enter Try.func30, Try.ntmps30
  go_upto_region 1 with fail
  have hmm := run_makeMap_hint (k : Int)
  refine wp_region_said 6 [13, 14, 15, 16, 17, 18]
    [.own (fun v W => ∃ fb, w.heap.size ≤ fb ∧ v = .pointer (some ⟨fb, 0, none⟩) ∧ FieldAt W fb) (fun v W W' ⟨fb, h0, h1, h2⟩ hb => ⟨fb, h0, h1, h2.below hb h2.lt⟩), .is (.slice (some ad) L.length c), .is (.int .i64 (k : Int)), .is (.slice (some ad) k c), .is (.int .i64 (k : Int)),
     .own (fun v W => ∃ mb, w.heap.size ≤ mb ∧ v = .map (some mb) ∧ MapAt W mb 0 (fun _ => none)) (fun v W W' ⟨mb, h0, h1, h2⟩ hb => ⟨mb, h0, h1, h2.below hb⟩)]
    (fun W => Below w.heap.size w W) (by kernel_rfl) (by kernel_rfl) (by kernel_rfl) (by kernel_rfl) (by kernel_rfl)
    (fun W W' h hb => h.trans (hb.mono h.size)) (Below.refl _ _) ?steps ?last
  case steps =>
    simp only [List.take_succ_cons, List.take_zero]
    refine ⟨?_, ?_, ?_, ?_, ?_, ?_, trivial⟩
    all_goals
      intro vs W ρ hρ hc hf hg hI hH hd R' hR
      have HR := Lib.hid hR
      simp [depsOf, Region.binds, sayAt, Say.holds] at hd
      clear hR
      go_simp
      first
        | exact HR.out _ _ (by simp [sayAt, Say.holds]) (Below.refl _ _) (by simp [sayAt, Say.isBlk])
        | (refine (new_below _).mono ?_; rintro e w' ⟨rfl, hF, hb⟩; exact ⟨_, rfl, HR.out _ _ ⟨_, hH, rfl, hF⟩ hb (by simp [sayAt, Say.isBlk])⟩)
        | exact HR.out _ _ ⟨_, hH, rfl, mapAt_made _⟩ ((Below.refl _ _).alloc (Nat.le_refl _) _) (by simp [sayAt, Say.isBlk])
        | trace_state
  case last =>
    intro vs W hI hb hg hd
    obtain ⟨fb, hf0, g0, hF⟩ := hg 0 (by omega)
    have g3 := hg 3 (by omega)
    obtain ⟨mb, hm0, g5, hM⟩ := hg 5 (by omega)
    simp only [sayAt, Say.holds, List.getD_cons_succ, List.getD_cons_zero] at g3
    simp only [List.take_succ_cons, List.take_zero, List.drop_succ_cons, List.drop_zero, putAll, Act.put, List.setIfInBounds_toArray, List.set_cons_succ, List.set_cons_zero, Nat.zero_add, Nat.reduceAdd]
    rw [g0, g3, g5]
    clear g0 g3 g5 hg hd hmm
    have B0 := Lib.hid hb
    have F0 := Lib.hid hF
    have M0 := Lib.hid hM
    clear hb hF hM hI
    go_upto_region 2 with fail
    have hb1 : Below W.heap.size W (W.alloc (.cells (mkCells fb mb k c (some ad) 0 0 ⟨#[]⟩ 0 0 ⟨#[]⟩) 73)) := (Below.refl _ W).alloc (Nat.le_refl _) _
    have K1 : Hid ((W.alloc (.cells (mkCells fb mb k c (some ad) 0 0 ⟨#[]⟩ 0 0 ⟨#[]⟩) 73)).heap[W.heap.size]? = some (.cells (mkCells fb mb k c (some ad) 0 0 ⟨#[]⟩ 0 0 ⟨#[]⟩) 73 (0, 0))) := heap_alloc_new W _
    have F1 := Lib.hid (F0.out.below hb1 F0.out.lt)
    have M1 := Lib.hid (M0.out.below hb1)
    have B1 := Lib.hid (B0.out.trans (hb1.mono B0.out.size))
    have hp0 := B0.out.size
    have hfp : fb < W.heap.size := F0.out.lt
    have hz1 : (W.alloc (.cells (mkCells fb mb k c (some ad) 0 0 ⟨#[]⟩ 0 0 ⟨#[]⟩) 73)).heap.size = W.heap.size + 1 := by simp
    simp only [mkCells] at K1 F1 M1 B1 hz1
    generalize (W.alloc (.cells #[.pointer (some ⟨fb, 0, none⟩), .int .i64 0, .int .i64 0, .string ⟨#[]⟩, .int .i64 0, .int .i64 0, .string ⟨#[]⟩, .slice (some ad) k c, .map (some mb)] 73)) = w1 at K1 F1 M1 B1 hz1 ⊢
    generalize hpp : W.heap.size = p at K1 hp0 hfp hz1 ⊢
    clear hb1 B0 F0 M0
    go_upto_region 3 with (at_make; refine wpList_make_full _ rfl (.tmp 21) (.tmp 21) 43 rfl w1.heap.size 3 i1 (.int .i64 0) 1 Try.underlying43 hi' hz0' hz1' .i64 .i64 _ _ k rfl rfl rfl rfl (by rw [hz2']; omega) (by unfold maxLen; omega) (by simp) ?_; intro w2 hown hgrow)
    have hC0 : Cel w2 w1.heap.size 3 (preV (rowsN (rowsL k L)) (.int .i64 0) 0) := by
      rw [preV_zero (rowsN (rowsL k L)) (.int .i64 0) k (by simp [rowsN, rowsL]) rfl] at hown
      exact owns_blk0 hown
    have hb2 : Below w1.heap.size w1 w2 := (Below.refl _ _).grown hgrow (Nat.le_refl _) (fun k hk => by cases hk)
    have hmbl := M1.out.lt
    have hl1 := B1.out.size
    rw [hz1] at hC0
    have E2 : Hid (NwAt w w2 p fb mb (p + 1) k c (some ad) L 0) :=
      ⟨F1.out.below hb2 F1.out.lt, (hb2.block p (by omega)).trans K1.out, hC0, (M1.out.below hb2).congr (fun _ => rfl), B1.out.trans (hb2.mono hl1), ⟨hp0, hm0, by omega, by omega, by omega, by omega⟩⟩
    clear hown hgrow hC0 hb2 K1 F1 M1 B1
    obtain ⟨p7, p8⟩ : w2.cell? ⟨p, 7, none⟩ = some (.slice (some ad) k c) ∧ w2.cell? ⟨p, 8, none⟩ = some (.map (some mb)) := ⟨blk_cell E2.out.blk rfl, blk_cell E2.out.blk rfl⟩
    go_wp2_with fail
    clear p7 p8
    go_loopw [28] (fun u wr => ∃ i : Nat, i ≤ k ∧ u = .int .i64 (i : Int) ∧ Hid (NwAt w wr p fb mb (p + 1) k c (some ad) L i)) (fun u _ => k - (intOf u).toNat)
    case atStart => exact ⟨0, by omega, rfl, E2.out⟩
    case round =>
      obtain ⟨i, hi, rfl, hE⟩ := hrel
      clear E2
      by_cases hlt : i < k
      · have pi : (i : Int) < (k : Int) := by omega
        obtain ⟨ad', had, hab1, hcl⟩ := (HA.out.below hE.out.bel) (by omega)
        obtain rfl := Option.some.inj had
        obtain ⟨x1, x2⟩ := hcl i (by omega)
        have x3 : wr.cell? ⟨(ad.add (i * 2)).block, (ad.add (i * 2)).off + 1, none⟩ = some (.string (sS L i)) := by rw [add_field]; exact x2
        clear x2 hcl had
        go_upto_region 6 with fail
        clear x1 x3
        obtain ⟨s1, b1⟩ := blk1 wr (.cells #[.int .i64 (sI L i), .string (sS L i)] 50)
        have E3 := Lib.hid (hE.out.below ((Below.refl _ wr).alloc (Nat.le_refl _) (.cells #[.int .i64 (sI L i), .string (sS L i)] 50)))
        have hnl := hE.out.num.lt
        generalize wr.alloc (.cells #[.int .i64 (sI L i), .string (sS L i)] 50) = W3 at s1 b1 E3 ⊢
        have z1 := blk_cell (j := 0) b1 rfl
        have hold := E3.out.num.cell (preV_at (rowsN (rowsL k L)) (.int .i64 0) i i (by simp [rowsN, rowsL]; omega) (by simp [rowsN, rowsL]; omega)).choose_spec
        have hfree := E3.out.num.free (i := i)
        have z2 : (W3.setCell ⟨p + 1, i, none⟩ (.int .i64 (sI L i))).cell? ⟨wr.heap.size, 0, none⟩ = some (.int .i64 (sI L i)) := by
          unfold World.cell?
          rw [Below.heap_setCell W3 ⟨p + 1, i, none⟩ _ wr.heap.size (by show wr.heap.size ≠ p + 1; omega)]
          exact z1
        have z3 : (W3.setCell ⟨p + 1, i, none⟩ (.int .i64 (sI L i))).cell? ⟨p, 8, none⟩ = some (.map (some mb)) := by
          unfold World.cell?
          rw [Below.heap_setCell W3 ⟨p + 1, i, none⟩ _ p (by show p ≠ p + 1; omega)]
          exact blk_cell (j := 8) E3.out.blk rfl
        generalize wr.heap.size = g at s1 b1 z1 z2 hnl ⊢
        clear b1 hE
        go_upto_region 7 with fail
        refine wp_region_quiet_tail 7 (by kernel_rfl) (by kernel_rfl) ?_
        simp only [List.take_succ_cons, List.take_zero, List.drop_succ_cons, List.drop_zero]
        repeat (go_big_quiet_step (fail))
        refine wpQuiet_nil ?_
        intro d
        have hM4 : MapAt ((W3.setCell ⟨p + 1, i, none⟩ (.int .i64 (sI L i))).drewN d) mb i (plF L i) := by
          have hne : p + 1 ≠ mb := map_ne E3.out.map hold
          obtain ⟨D, ⟨es, clock, h1, h2⟩, h3⟩ := E3.out.map
          refine ⟨D, ⟨es, clock, ?_, h2⟩, h3⟩
          show (W3.setCell ⟨p + 1, i, none⟩ (.int .i64 (sI L i))).heap[mb]? = _
          rw [Below.heap_setCell W3 ⟨p + 1, i, none⟩ _ mb (Ne.symm hne)]
          exact h1
        have hrg := HK.out.rng (i := i) (by omega)
        go_wp2_with (first | (at_mapUpdate; refine wpList_mapSet _ rfl _ _ _ rfl mb i (plF L i) rfl hM4 (by unfold maxLen; omega) (sI L i) (i : Int) rfl rfl (by omega) (by omega) (by omega) (by omega) ?_; intro w4 M4 G4 S4))
        have E4 := Lib.hid (E3.out.step hlt k3 rfl M4 G4 S4)
        clear M4 G4 S4 hM4 E3
        go_wp2_with fail
        go_roundw
        case rel => exact ⟨i + 1, by omega, by go_num, E4.out⟩
        case measure => simp [intOf]; omega
      · obtain rfl : i = k := by omega
        have hnum : Hid (Cel wr (p + 1) 3 (rowsN (rowsL i L))) := by
          have h := hE.out.num
          have e := preV_end (rowsN (rowsL i L)) (.int .i64 0)
          rw [show (rowsN (rowsL i L)).length = i by simp [rowsN, rowsL]] at e
          rw [e] at h
          exact h
        have KB := Lib.hid hE.out.blk
        have F5 := Lib.hid hE.out.fld
        have M5 := Lib.hid hE.out.map
        have B5 := Lib.hid hE.out.bel
        clear hE
        go_wp2_with fail
        refine (gen_yes i m _ k1 k2).mono ?_
        rintro e w6 ⟨rfl, hb⟩
        have P6 : Hid (PhAt w w6 p fb mb (p + 1) i L (mkCells fb mb i c (some ad) 0 0 ⟨#[]⟩ 0 0 ⟨#[]⟩)) :=
          ⟨(hb.block p (Array.getElem?_eq_some_iff.1 KB.out).1).trans KB.out, F5.out.below hb F5.out.lt, M5.out.below hb, hnum.out.below hb, B5.out.trans (hb.mono B5.out.size), ⟨hp0, by omega, by omega, Ne.symm (map_ne M5.out (blk_cell (j := 0) KB.out rfl))⟩⟩
        have HPR := Lib.hid (pick_rows HK.out)
        have HSs := Lib.hid (size_tab (i + m) i (GfU.gen i))
        have F : Hid (∀ e w' R, e = Ending.returned (.pointer (some ⟨p, 0, none⟩)) → PhAt w w' p fb mb (p + 1) i L (mkCells fb mb i c (some ad) ((i : Int) + (m : Int)) (i : Int) ⟨(tabL (i + m) i (GfU.gen i)).toArray⟩ (i : Int) (i : Int) ⟨(tabL i i R).toArray⟩) →
          GfU.sq i (GfU.mm i R (gR i L)) GfU.one → GfU.sq i (GfU.mm i (gR i L) R) GfU.one → NewAns w i m (some ad) c L e w') := fun e w' R h1 h2 h3 h4 => ⟨p, fb, mb, R, h1, ⟨h2.fld, h2.blk, h2.map, HA.out.below h2.bel⟩, h3, h4, h2.bel⟩
        clear hb hnum KB F5 M5 B5
        generalize (⟨(tabL (i + m) i (GfU.gen i)).toArray⟩ : ByteArray) = S at HPR HSs F ⊢
        obtain ⟨⟨p1, p2, p3⟩, pf⟩ : (w6.cell? ⟨p, 1, none⟩ = some (.int .i64 0) ∧ w6.cell? ⟨p, 2, none⟩ = some (.int .i64 0) ∧ w6.cell? ⟨p, 3, none⟩ = some (.string ⟨#[]⟩)) ∧ ∀ o, w6.frozen? ⟨p, o, none⟩ = false :=
          ⟨⟨blk_cell P6.out.blk rfl, blk_cell P6.out.blk rfl, blk_cell P6.out.blk rfl⟩, blk_free P6.out.blk⟩
        go_upto_region 10 with fail
        have P7 : Hid (PhAt w (((w6.setCell ⟨p, 1, none⟩ (.int .i64 ((i : Int) + (m : Int)))).setCell ⟨p, 2, none⟩ (.int .i64 (i : Int))).setCell ⟨p, 3, none⟩ (.string S)) p fb mb (p + 1) i L (mkCells fb mb i c (some ad) ((i : Int) + (m : Int)) (i : Int) S 0 0 ⟨#[]⟩)) :=
          ((P6.out.set 1 (.int .i64 ((i : Int) + (m : Int)))).set 2 (.int .i64 (i : Int))).set 3 (.string S)
        clear p1 p2 p3 pf P6
        generalize (((w6.setCell ⟨p, 1, none⟩ (.int .i64 ((i : Int) + (m : Int)))).setCell ⟨p, 2, none⟩ (.int .i64 (i : Int))).setCell ⟨p, 3, none⟩ (.string S)) = w7 at P7 ⊢
        obtain ⟨p1, p2, p3⟩ : w7.cell? ⟨p, 1, none⟩ = some (.int .i64 ((i : Int) + (m : Int))) ∧ w7.cell? ⟨p, 2, none⟩ = some (.int .i64 (i : Int)) ∧ w7.cell? ⟨p, 3, none⟩ = some (.string S) :=
          ⟨blk_cell P7.out.blk rfl, blk_cell P7.out.blk rfl, blk_cell P7.out.blk rfl⟩
        go_wp2_with fail
        have hpk := pick_some (i + m) i S ⟨p + 1, 0, none⟩ i (rowsL i L) w7 (by omega) k2 k1 (by omega) HSs.out P7.out.num.lt (fun j hj => by rw [addr_head]; exact Cel.cell P7.out.num (rowsN_at hj)) (by rw [rowsL_len]; omega)
        rw [HPR.out, rowsL_len, Int.natCast_add] at hpk
        have HPk := Lib.hid hpk
        clear hpk p1 p2 p3
        refine HPk.out.mono ?_
        rintro e w8 ⟨rfl, hb⟩
        have P8 := Lib.hid (P7.out.below hb)
        clear hb P7 HPk HPR
        go_upto_region 11 with fail
        have hb9 : Below w8.heap.size w8 (w8.alloc (.cells #[.int .i64 (i : Int), .int .i64 (i : Int), .string ⟨(tabL i i (gR i L)).toArray⟩] 59)) := (Below.refl _ w8).alloc (Nat.le_refl _) _
        have P9 := Lib.hid (P8.out.below hb9)
        obtain ⟨_, b9⟩ := blk1 w8 (.cells #[.int .i64 (i : Int), .int .i64 (i : Int), .string ⟨(tabL i i (gR i L)).toArray⟩] 59)
        generalize (w8.alloc (.cells #[.int .i64 (i : Int), .int .i64 (i : Int), .string ⟨(tabL i i (gR i L)).toArray⟩] 59)) = w9 at P9 b9 ⊢
        have y0 := blk_cell (j := 0) b9 rfl
        have y1 := blk_cell (j := 1) b9 rfl
        have y2 := blk_cell (j := 2) b9 rfl
        clear hb9 b9 P8
        go_wp2_with fail
        refine (inv_yes i ⟨(tabL i i (gR i L)).toArray⟩ _ k1 (by omega) (size_tab _ _ _)).mono ?_
        rintro e w10 ⟨hres, hb⟩
        obtain ⟨R, rfl, hR1, hR2⟩ := inv_made HK.out hres
        have P10 := Lib.hid (P9.out.below hb)
        have HR1 := Lib.hid hR1
        have HR2 := Lib.hid hR2
        obtain ⟨⟨p1, p2, p3⟩, pf⟩ : (w10.cell? ⟨p, 4, none⟩ = some (.int .i64 0) ∧ w10.cell? ⟨p, 5, none⟩ = some (.int .i64 0) ∧ w10.cell? ⟨p, 6, none⟩ = some (.string ⟨#[]⟩)) ∧ ∀ o, w10.frozen? ⟨p, o, none⟩ = false :=
          ⟨⟨blk_cell P10.out.blk rfl, blk_cell P10.out.blk rfl, blk_cell P10.out.blk rfl⟩, blk_free P10.out.blk⟩
        clear hb hres hR1 hR2 y0 y1 y2 P9
        have FR := Lib.hid (fun e w' => F.out e w' R)
        clear F
        generalize hRT : (⟨(tabL i i R).toArray⟩ : ByteArray) = RT at FR ⊢
        have P11 : Hid (PhAt w (((w10.setCell ⟨p, 4, none⟩ (.int .i64 (i : Int))).setCell ⟨p, 5, none⟩ (.int .i64 (i : Int))).setCell ⟨p, 6, none⟩ (.string RT)) p fb mb (p + 1) i L (mkCells fb mb i c (some ad) ((i : Int) + (m : Int)) (i : Int) S (i : Int) (i : Int) RT)) :=
          ((P10.out.set 4 (.int .i64 (i : Int))).set 5 (.int .i64 (i : Int))).set 6 (.string RT)
        clear hRT
        go_wp2_with fail
        go_ret
        exact FR.out _ _ rfl P11.out HR1.out HR2.out

end Go.Proofs.Ytemcjnbgcecinaa

/- What the landed package mend's maker answers of a shard; one contract; no condition but that the shards go together. -/
namespace Go.Proofs.Ytemcjnbgcecinaa
open Go.RowKit

section
variable {k m : Nat} {L : List (Int × ByteArray)} {R : Nat → Nat → UInt8}

theorem allL_mm (hR1 : GfU.sq k (GfU.mm k R (gR k L)) GfU.one) (hR2 : GfU.sq k (GfU.mm k (gR k L) R) GfU.one) : allL k m L = undL k (k + m) (GfU.mm k (GfU.gen k) R) (haveL k L) (sS L 0).size := by
  unfold allL dataL
  rw [undL_mm]
  refine undL_ext fun i p _ _ => ?_
  unfold accB
  refine GfU.sum_congr k fun x hx => ?_
  rw [show GfU.mm k (GfU.gen k) (invF k L) i x = GfU.mm k (GfU.gen k) R i x from by
    unfold GfU.mm
    exact GfU.sum_congr k fun y hy => by rw [(invF_of hR1 hR2).1 y x hy hx]]

theorem shard_made (hR1 : GfU.sq k (GfU.mm k R (gR k L)) GfU.one) (hR2 : GfU.sq k (GfU.mm k (gR k L) R) GfU.one) {i : Nat} (hi : i < k + m) :
    undS k (facG (facS k ⟨(tabL (k + m) k (GfU.gen k)).toArray⟩ ⟨(tabL k k R).toArray⟩ i)) (haveL k L) (sS L 0).size 0 = (allL k m L).getD i ⟨#[]⟩ := by
  rw [allL_mm hR1 hR2, undL_at _ _ _ _ _ _ hi]
  unfold undS
  congr 2
  apply List.map_congr_left
  intro p _
  unfold accB
  refine GfU.sum_congr k fun x hx => ?_
  rw [show facG (facS k ⟨(tabL (k + m) k (GfU.gen k)).toArray⟩ ⟨(tabL k k R).toArray⟩ i) 0 x = GfU.mm k (GfU.gen k) R i x from by
    unfold facG
    rw [facS_at _ _ _ _ _ hx]
    unfold GfU.mm
    exact GfU.sum_congr k fun y hy => by
      show GfU.ml (cel ⟨(tabL (k + m) k (GfU.gen k)).toArray⟩ k i y) _ = _
      rw [cel_tab (k + m) k _ i y hi hy, cel_tab k k _ y x hy hx]]

theorem shard_there (hck : CkOk k m L) (hR1 : GfU.sq k (GfU.mm k R (gR k L)) GfU.one) (hR2 : GfU.sq k (GfU.mm k (gR k L) R) GfU.one) {t : Nat} (ht : t < k) : (allL k m L).getD (nI L t) ⟨#[]⟩ = sS L t := by
  have hn := (hck.nat (i := t) (Nat.lt_of_lt_of_le ht hck.len)).2
  rw [allL_mm hR1 hR2, undL_at _ _ _ _ _ _ hn]
  have h1 := undL_one (haveL k L) (sS L 0).size (haveL_len k L) hck.have_size
  have h2 : (undL k k GfU.one (haveL k L) (sS L 0).size).getD t ⟨#[]⟩ = sS L t := by rw [h1, haveL_at k L t ht]
  rw [undL_at _ _ _ _ _ _ ht] at h2
  rw [← h2]
  unfold undS
  congr 2
  apply List.map_congr_left
  intro p _
  unfold accB
  exact GfU.sum_congr k fun x hx => by rw [show GfU.mm k (GfU.gen k) R (nI L t) x = GfU.one t x from hR2 t x ht hx]

end

set_option maxRecDepth 20000 in
set_option maxHeartbeats 4000000 in
theorem mshard_any (p fb mb k m c i : Nat) (A : Option Addr) (L : List (Int × ByteArray)) (R : Nat → Nat → UInt8) (w : World) (hck : CkOk k m L) (hR1 : GfU.sq k (GfU.mm k R (gR k L)) GfU.one) (hR2 : GfU.sq k (GfU.mm k (gR k L) R) GfU.one)
    (hE : MkAt w p fb mb k m A c L ⟨(tabL (k + m) k (GfU.gen k)).toArray⟩ ⟨(tabL k k R).toArray⟩) (hi : i < k + m) :
    Calls Try.prog 31 #[.pointer (some ⟨p, 0, none⟩), .int .i64 (i : Int)] w fun e w' => e = .returned (.string ((allL k m L).getD i ⟨#[]⟩)) ∧ Below w.heap.size w w' := by
  have k1 := hck.k1
  have k2 := hck.km
  have k3 := hck.len
  have hl := hE.map.look (x := (i : Int)) (by omega) (by omega)
  obtain ⟨_, _, _, c7, c8⟩ := hE.cells
  cases hp : plF L k (i : Int) with
  | some y =>
    rw [hp] at hl
    obtain ⟨t, ht, rfl, hit⟩ := plF_some hp
    have hnt : nI L t = i := by unfold nI; omega
    have E := Lib.hid (shard_there hck hR1 hR2 ht)
    rw [hnt] at E
    obtain ⟨ad, rfl, hab, hcl⟩ := hE.sh (by omega)
    have y3 : w.cell? ⟨(ad.add (t * 2)).block, (ad.add (t * 2)).off + 1, none⟩ = some (.string (sS L t)) := by rw [add_field]; exact (hcl t (by omega)).2
    have pt : (t : Int) < (k : Int) := by omega
    have hsz := (hck.size (i := t) (by omega))
    have HCl := Lib.hid (fun w => clone_any (sS L t) w (by omega))
    simp only [Option.getD_some, Option.isSome_some] at hl
    clear hcl hck hR1 hR2 hE hp hnt hit hsz
    go_enter Try.func31, Try.ntmps31
    go_wp2_with fail
    refine (HCl.out _).mono ?_
    rintro e w' ⟨rfl, hb⟩
    go_wp2_with fail
    go_ret
    exact ⟨by rw [E.out]; rfl, hb⟩
  | none =>
    rw [hp] at hl
    have E := Lib.hid (shard_made (L := L) hR1 hR2 hi)
    simp only [Option.getD_none, Option.isSome_none] at hl
    have HF := Lib.hid (mfactors_any p fb mb k m c i A L ⟨(tabL (k + m) k (GfU.gen k)).toArray⟩ ⟨(tabL k k R).toArray⟩ w hE k1 k2 hi (size_tab _ _ _) (size_tab _ _ _))
    have HM := Lib.hid (fun W hE => mmix_any p fb mb k m (sS L 0).size c A L ⟨(tabL (k + m) k (GfU.gen k)).toArray⟩ ⟨(tabL k k R).toArray⟩ (facS k ⟨(tabL (k + m) k (GfU.gen k)).toArray⟩ ⟨(tabL k k R).toArray⟩ i) W hE k1 (by omega) k3
      (fun j hj => (hck.size (i := j) (by omega)).1) (by have := (hck.size (i := 0) (by omega)).2; omega) (facS_size _ _ _ _))
    have HE := Lib.hid hE
    clear hck hR1 hR2 hE hp
    go_enter Try.func31, Try.ntmps31
    go_wp2_with fail
    refine HF.out.mono ?_
    rintro e w1 ⟨rfl, hb⟩
    have B1 := Lib.hid hb
    go_wp2_with fail
    refine (HM.out _ (HE.out.below hb)).mono ?_
    rintro e w2 ⟨rfl, hb2⟩
    have B2 := Lib.hid (B1.out.trans (hb2.mono B1.out.size))
    clear hb hb2
    go_wp2_with fail
    go_ret
    exact ⟨by rw [E.out]; rfl, B2.out⟩

end Go.Proofs.Ytemcjnbgcecinaa

/- What the landed package mend's Data, Object, One and Agree answer; contracts; no condition but the range. -/
namespace Go.Proofs.Ytemcjnbgcecinaa
open Go.RowKit

theorem allL_data {k m : Nat} {L : List (Int × ByteArray)} {i : Nat} (hi : i < k) : (allL k m L).getD i ⟨#[]⟩ = (dataL k L).getD i ⟨#[]⟩ := by
  unfold allL
  rw [md_gen_all (dataL_len k L) (dataL_size k L), List.getD_eq_getElem?_getD, List.getElem?_append_left (by rw [dataL_len]; exact hi), ← List.getD_eq_getElem?_getD]

theorem dataL_at {k : Nat} {L : List (Int × ByteArray)} {i : Nat} (hi : i < k) : (strV (dataL k L))[i]? = some (.string ((dataL k L).getD i ⟨#[]⟩)) := by
  unfold strV
  rw [List.getElem?_map, List.getElem?_eq_getElem (by rw [dataL_len]; exact hi), List.getD_eq_getElem?_getD, List.getElem?_eq_getElem (by rw [dataL_len]; exact hi)]; rfl

set_option maxRecDepth 20000 in
set_option maxHeartbeats 4000000 in
theorem mdata_any : MdDataAll := by
  intro k m A c L w h hcap hn hmax
  have HCk := mcheck_any k m A c L w h hn hmax
  unfold ckAns at HCk
  by_cases hz : (ckV k m L).2 = 0
  · obtain ⟨a, b, rfl, rfl, hck, hv⟩ := ck_form hz
    obtain ⟨i0, hi, hz0, hz1, hz2⟩ := info_parts Try.infoStr
    have E : Hid (∀ e w' v, e = Ending.returned (.tuple #[v, .int .i64 0]) → w'.ownsRow w.heap.size 9 1 v a (strV (dataL a L)) → RDataAns w.heap.size (a : Int) (b : Int) L e w') := fun e w' v he ho => by
      unfold RDataAns; rw [if_pos hz, Int.toNat_natCast]; exact ⟨v, he, ho⟩
    rw [hv] at HCk
    have HC := Lib.hid HCk
    have HA := Lib.hid h
    have HK := Lib.hid hck
    have k1 := hck.k1
    have k2 := hck.km
    have k3 := hck.len
    clear HCk hz hv h hmax hck
    go_enter Try.func15, Try.ntmps15
    go_wp2_with fail
    refine HC.out.mono ?_
    rintro e w1 ⟨rfl, hb⟩
    have A1 := Lib.hid (HA.out.below hb)
    have B1 := Lib.hid hb
    clear HC HA hb
    go_wp2_with fail
    refine (mnew_any a b A c L w1 A1.out HK.out hcap).mono ?_
    rintro e w2 ⟨p, fb, mb, R, rfl, hE, hR1, hR2, hb⟩
    have E2 := Lib.hid hE
    have B2 := Lib.hid (B1.out.trans (hb.mono B1.out.size))
    have HSh := Lib.hid (fun i W hE hi => mshard_any p fb mb a b c i A L R W HK.out hR1 hR2 hE hi)
    clear hE hR1 hR2 hb A1 B1
    go_upto_region 6 with (at_make; refine wpList_make_full _ rfl (.tmp 27) (.tmp 27) 32 rfl w2.heap.size 9 i0 (.string ⟨#[]⟩) 1 Try.underlying32 hi hz0 hz1 .i64 .i64 _ _ a rfl rfl rfl rfl (by rw [hz2]; omega) (by unfold maxLen; omega) (by simp) ?_; intro w3 hown hgrow)
    have hC0 : Cel w3 w2.heap.size 9 (preV (strV (dataL a L)) (.string ⟨#[]⟩) 0) := by
      rw [preV_zero (strV (dataL a L)) (.string ⟨#[]⟩) a (by rw [strV_len, dataL_len]) rfl] at hown
      exact owns_blk0 hown
    have C3 := Lib.hid hC0
    have hb3 : Below w2.heap.size w2 w3 := (Below.refl _ _).grown hgrow (Nat.le_refl _) (fun k hk => by cases hk)
    have B3 := Lib.hid (B2.out.trans (hb3.mono B2.out.size))
    have E3 := Lib.hid (E2.out.below hb3)
    have hpg : p < w2.heap.size := E2.out.lt
    have hwg := B2.out.size
    have E2w := Lib.hid E2.out
    clear hown hgrow hC0 E2
    have BB3 := Lib.hid hb3
    clear hb3
    go_wp2_with fail
    go_loopw [31] (fun u wr => ∃ i : Nat, i ≤ a ∧ u = .int .i64 (i : Int) ∧ Hid (Cel wr w2.heap.size 9 (preV (strV (dataL a L)) (.string ⟨#[]⟩) i)) ∧ Hid (Below w2.heap.size w2 wr)) (fun u _ => a - (intOf u).toNat)
    case atStart => exact ⟨0, by omega, rfl, C3.out, BB3.out⟩
    case round =>
      obtain ⟨i, hia, rfl, hcel, hbel⟩ := hrel
      clear C3 B3 E3 BB3
      by_cases hlt : i < a
      · have pi : (i : Int) < (a : Int) := by omega
        have Er := Lib.hid (E2w.out.below hbel.out)
        go_wp2_with fail
        refine (HSh.out i _ Er.out (by omega)).mono ?_
        rintro e w5 ⟨rfl, hb⟩
        have hc5 := hcel.out.below hb
        have hold := hc5.cell (preV_at (strV (dataL a L)) (.string ⟨#[]⟩) i i (by rw [strV_len, dataL_len]; exact hia) (by rw [strV_len, dataL_len]; exact hlt)).choose_spec
        have hfree := hc5.free (i := i)
        have hset := hc5.set (i := i) (v := .string ((dataL a L).getD i ⟨#[]⟩))
        rw [preV_set (strV (dataL a L)) (.string ⟨#[]⟩) _ i (by rw [strV_len, dataL_len]; exact hlt) (dataL_at hlt)] at hset
        have HSET := Lib.hid hset
        have B5 := Lib.hid (hbel.out.trans (hb.mono hbel.out.size))
        rw [allL_data hlt]
        clear hb hset hcel hbel hc5 Er
        go_wp2_with fail
        go_roundw
        case rel => exact ⟨i + 1, by omega, by go_num, HSET.out, B5.out.setCell (Nat.le_refl _) _⟩
        case measure => simp [intOf]; omega
      · obtain rfl : i = a := by omega
        have HG : StrBlk wr w2.heap.size (dataL i L) := by
          have h := hcel.out
          have e : preV (strV (dataL i L)) (.string ⟨#[]⟩) i = strV (dataL i L) := by
            have h2 := preV_end (strV (dataL i L)) (.string ⟨#[]⟩)
            rw [strV_len, dataL_len] at h2
            exact h2
          rw [e] at h
          exact h
        have ho := HG.own (H := w.heap.size) hwg (by rw [dataL_len]; omega)
        rw [dataL_len] at ho
        have HO := Lib.hid ho
        have B6 := Lib.hid (B2.out.trans (hbel.out.mono B2.out.size))
        clear HG ho hcel hbel
        go_wp2_with fail
        go_ret2
        exact ⟨E.out _ _ _ rfl HO.out, B6.out⟩
  · have E : Hid (∀ e w', e = Ending.returned (.tuple #[.slice none 0 0, .int .i64 (ckV k m L).2]) → RDataAns w.heap.size k m L e w') := fun e w' he => by
      unfold RDataAns; rw [if_neg hz]; exact he
    have hne : ((ckV k m L).2 != 0) = true := by simp [hz]
    have HC := Lib.hid HCk
    generalize (ckV k m L).2 = er at *
    generalize (ckV k m L).1 = at_ at *
    clear HCk hz h hmax
    go_enter Try.func15, Try.ntmps15
    go_wp2_with fail
    refine HC.out.mono ?_
    rintro e w1 ⟨rfl, hb⟩
    have B1 := Lib.hid hb
    clear hb
    go_wp2_with fail
    go_ret2
    exact ⟨E.out _ _ rfl, B1.out⟩

set_option maxRecDepth 20000 in
set_option maxHeartbeats 2000000 in
theorem mobject_any : MdObjectAll := by
  intro k m A c L w h hcap hn hmax
  have HD := Lib.hid (mdata_any k m A c L w h hcap hn hmax)
  by_cases hz : (ckV k m L).2 = 0
  · obtain ⟨a, b, rfl, rfl, hck, _⟩ := ck_form hz
    have E : Hid (objAns (a : Int) (b : Int) L = joinV (dataL a L)) := by show _ = _; unfold objAns; rw [if_pos hz, Int.toNat_natCast]
    have ED : Hid (∀ H e w', RDataAns H (a : Int) (b : Int) L e w' → ∃ g cap, e = .returned (.tuple #[.slice (some ⟨g, 0, none⟩) a cap, .int .i64 0]) ∧ w'.ownsRow H 9 1 (.slice (some ⟨g, 0, none⟩) a cap) a (strV (dataL a L))) := fun H e w' h => by
      unfold RDataAns at h; rw [if_pos hz, Int.toNat_natCast] at h
      obtain ⟨v, e1, e2⟩ := h
      obtain ⟨g, cap, rfl, _⟩ := World.ownsRow.form e2 (by have := hck.k1; omega)
      exact ⟨g, cap, e1, e2⟩
    have HZ := Lib.hid (show (sS L 0).size ≤ 100000 by have := (hck.size (i := 0) (by have := hck.len; have := hck.k1; omega)).2; omega)
    have HL := Lib.hid (show (dataL a L).length ≤ 1000000000000000000 by rw [dataL_len]; have := hck.km; omega)
    clear hz h hmax hck
    go_enter Try.func17, Try.ntmps17
    go_wp2_with fail
    refine HD.out.mono ?_
    rintro e w1 ⟨hans, hb⟩
    obtain ⟨g, cap, rfl, hown⟩ := ED.out _ _ _ hans
    have B1 := Lib.hid hb
    have hj := join_any (some ⟨g, 0, none⟩) cap (dataL a L) w1 (StrsAt.own hown (dataL_len a L).symm) (by have := HL.out; omega) (fun s hs => by rw [dataL_size a L s hs]; have := HZ.out; omega)
    rw [dataL_len] at hj
    obtain ⟨s, er, hjf⟩ := joinV_form (dataL a L)
    rw [hjf] at hj
    have HJ := Lib.hid hj
    have HF := Lib.hid hjf
    clear hans hb hown HD ED hj hjf
    go_wp2_with fail
    refine HJ.out.mono ?_
    rintro e w2 ⟨rfl, hb⟩
    have B2 := Lib.hid (B1.out.trans (hb.mono B1.out.size))
    clear hb
    go_wp2_with fail
    go_ret2
    exact ⟨by rw [E.out, HF.out]; rfl, B2.out⟩
  · have E : Hid (objAns k m L = .tuple #[.string ⟨#[]⟩, .int .i64 (ckV k m L).2]) := by show _ = _; unfold objAns; rw [if_neg hz]
    have ED : Hid (∀ H e w', RDataAns H k m L e w' → e = .returned (.tuple #[.slice none 0 0, .int .i64 (ckV k m L).2])) := fun H e w' h => by
      unfold RDataAns at h; rw [if_neg hz] at h; exact h
    have hne : ((ckV k m L).2 != 0) = true := by simp [hz]
    generalize (ckV k m L).2 = er at *
    clear hz h hmax
    go_enter Try.func17, Try.ntmps17
    go_wp2_with fail
    refine HD.out.mono ?_
    rintro e w1 ⟨hans, hb⟩
    have he := ED.out _ _ _ hans
    subst he
    have B1 := Lib.hid hb
    clear hans hb HD
    go_wp2_with fail
    go_ret2
    exact ⟨by rw [E.out]; rfl, B1.out⟩

set_option maxRecDepth 20000 in
set_option maxHeartbeats 2000000 in
theorem mone_any : MdOneAll := by
  intro k m i A c L w h hcap hn hmax
  have HCk := mcheck_any k m A c L w h hn hmax
  unfold ckAns at HCk
  by_cases hz : (ckV k m L).2 = 0
  · obtain ⟨a, b, rfl, rfl, hck, hv⟩ := ck_form hz
    have k2 := hck.km
    have E1 : Hid (0 ≤ i ∧ i < (a : Int) + (b : Int) → oneAns (a : Int) (b : Int) L i = .tuple #[.string ((allL a b L).getD i.toNat ⟨#[]⟩), .int .i64 0]) := fun hi => by
      unfold oneAns; rw [if_pos hz, if_pos hi, Int.toNat_natCast, Int.toNat_natCast]
    have E2 : Hid (¬ (0 ≤ i ∧ i < (a : Int) + (b : Int)) → oneAns (a : Int) (b : Int) L i = .tuple #[.string ⟨#[]⟩, .int .i64 1]) := fun hi => by
      unfold oneAns; rw [if_pos hz, if_neg hi]
    rw [hv] at HCk
    have HC := Lib.hid HCk
    have HA := Lib.hid h
    have HK := Lib.hid hck
    clear HCk hz hv h hmax hck
    by_cases hr : 0 ≤ i ∧ i < (a : Int) + (b : Int)
    · obtain ⟨q, rfl⟩ : ∃ q : Nat, i = (q : Int) := ⟨i.toNat, by omega⟩
      have hq : q < a + b := by omega
      have E := Lib.hid (E1.out hr)
      rw [Int.toNat_natCast] at E
      have hnb : numB ((a : Int) + (b : Int)) (q : Int) = true := by unfold numB; simp; omega
      clear E1 E2 hr
      go_enter Try.func20, Try.ntmps20
      go_wp2_with fail
      refine HC.out.mono ?_
      rintro e w1 ⟨rfl, hb⟩
      have A1 := Lib.hid (HA.out.below hb)
      have B1 := Lib.hid hb
      clear HC HA hb
      go_wp2_with fail
      refine (isNumber_any _ _ _).mono ?_
      rintro e w' ⟨rfl, rfl⟩
      rw [hnb]
      go_wp2_with fail
      refine (mnew_any a b A c L w' A1.out HK.out hcap).mono ?_
      rintro e w2 ⟨p, fb, mb, R, rfl, hE, hR1, hR2, hb⟩
      have B2 := Lib.hid (B1.out.trans (hb.mono B1.out.size))
      have HSh := Lib.hid (mshard_any p fb mb a b c q A L R w2 HK.out hR1 hR2 hE hq)
      clear hE hR1 hR2 hb A1 B1
      go_wp2_with fail
      refine HSh.out.mono ?_
      rintro e w3 ⟨rfl, hb⟩
      have B3 := Lib.hid (B2.out.trans (hb.mono B2.out.size))
      clear hb
      go_wp2_with fail
      go_ret2
      exact ⟨by rw [E.out]; rfl, B3.out⟩
    · have E := Lib.hid (E2.out hr)
      have hnb : numB ((a : Int) + (b : Int)) i = false := by unfold numB; simp; omega
      clear E1 E2 hr
      go_enter Try.func20, Try.ntmps20
      go_wp2_with fail
      refine HC.out.mono ?_
      rintro e w1 ⟨rfl, hb⟩
      have B1 := Lib.hid hb
      clear HC HA hb
      go_wp2_with fail
      refine (isNumber_any _ _ _).mono ?_
      rintro e w' ⟨rfl, rfl⟩
      rw [hnb]
      go_wp2_with fail
      go_ret2
      exact ⟨by rw [E.out]; rfl, B1.out⟩
  · have E : Hid (oneAns k m L i = .tuple #[.string ⟨#[]⟩, .int .i64 (ckV k m L).2]) := by show _ = _; unfold oneAns; rw [if_neg hz]
    have hne : ((ckV k m L).2 != 0) = true := by simp [hz]
    have HC := Lib.hid HCk
    generalize (ckV k m L).2 = er at *
    generalize (ckV k m L).1 = at_ at *
    clear HCk hz h hmax
    go_enter Try.func20, Try.ntmps20
    go_wp2_with fail
    refine HC.out.mono ?_
    rintro e w1 ⟨rfl, hb⟩
    have B1 := Lib.hid hb
    clear hb
    go_wp2_with fail
    go_ret2
    exact ⟨by rw [E.out]; rfl, B1.out⟩

end Go.Proofs.Ytemcjnbgcecinaa
