/- Parts of the proof, joined: MdData, MdMore, MdAgree, MdLend; their conditions stand with each. -/
import Derived.Maps.AppendAt
import Derived.BigQuiet
import Derived.Deep.QuietTactic
import Derived.Laws.StructEq
import Derived.Test.YtemcjnbgcecinaaA7
import Derived.Test.YtemcjnbgcecinaaA8
import Derived.Test.YtemcjnbgcecinaaA9
import Derived.Test.YtemcjnbgcecinaaA10
import Derived.Test.YtemcjnbgcecinaaA11
import Derived.Test.YtemcjnbgcecinaaA12

/- What the document's Data, Object, All, One and Agree answer; contracts; no condition but the range. -/
namespace Go.Proofs.Ytemcjnbgcecinaa
open Go.RowKit

theorem Try.infoInt' : (Try.prog.info? 3).map (fun i => (i.zero, i.size, i.bytes)) = some (some (.int .i64 0), 1, 8) := by kernel_rfl

/-- Check finds nothing wrong, or an error -/
theorem ck_form {k m : Int} {L : List (Int × ByteArray)} (h : (ckV k m L).2 = 0) : ∃ a b : Nat, k = (a : Int) ∧ m = (b : Int) ∧ CkOk a b L ∧ ckV k m L = (0, 0) := by
  cases hc : codeB k m
  · unfold ckV at h; rw [if_neg (by simp [hc])] at h; cases h
  · obtain ⟨a, b, rfl, rfl, h1, h2⟩ := codeB_nat hc
    have hv := h
    unfold ckV at h
    rw [if_pos hc] at h
    cases hf : (List.range L.length).find? (fun i => badE ((a : Int) + (b : Int)) L i != 0) with
    | some i =>
      rw [hf] at h
      have := List.find?_some hf
      simp only at h
      simp [h] at this
    | none =>
      rw [hf] at h
      simp only at h
      by_cases hl : (L.length : Int) < (a : Int)
      · rw [if_pos hl] at h; cases h
      · have hall : ∀ i, i < L.length → badE ((a : Int) + (b : Int)) L i = 0 := fun i hi => by
          have := List.find?_eq_none.1 hf i (List.mem_range.2 hi)
          simpa using this
        refine ⟨a, b, rfl, rfl, ⟨h1, h2, hall, by omega⟩, ?_⟩
        rw [ck_none hc hall, if_neg hl]

def rowsL (k : Nat) (L : List (Int × ByteArray)) : List Int := (List.range k).map (sI L)

def rowsN (L : List Int) : List Value := L.map (Value.int .i64)

theorem rowsL_len (k : Nat) (L : List (Int × ByteArray)) : (rowsL k L).length = k := by simp [rowsL]

theorem rowsN_at {L : List Int} {i : Nat} (h : i < L.length) : (rowsN L)[i]? = some (.int .i64 L[i]) := by
  unfold rowsN
  rw [List.getElem?_map, List.getElem?_eq_getElem h]; rfl

theorem rowsL_take (k : Nat) (L : List (Int × ByteArray)) (i : Nat) (h : i < k) : rowsN ((rowsL k L).take i) ++ [.int .i64 (sI L i)] = rowsN ((rowsL k L).take (i + 1)) := by
  have e : (rowsL k L)[i]? = some (sI L i) := by unfold rowsL; rw [List.getElem?_map, List.getElem?_range h]; rfl
  unfold rowsN
  rw [List.take_add_one, e, List.map_append]; rfl

theorem pick_rows {k m : Nat} {L : List (Int × ByteArray)} (h : CkOk k m L) :
    pickAns (k + m) k ⟨(tabL (k + m) k (GfU.gen k)).toArray⟩ (rowsL k L) = .tuple #[.agg #[.int .i64 (k : Int), .int .i64 (k : Int), .string ⟨(tabL k k (gR k L)).toArray⟩], .int .i64 0] := by
  have hk := h.k1
  have hkm := h.km
  have hat : ∀ i (hi : i < (rowsL k L).length), (rowsL k L)[i] = sI L i := fun i hi => by
    have e : (rowsL k L)[i]? = some (sI L i) := by unfold rowsL; rw [List.getElem?_map, List.getElem?_range (by rwa [rowsL_len] at hi)]; rfl
    rw [List.getElem?_eq_getElem hi] at e
    exact Option.some.inj e
  unfold pickAns
  rw [if_pos (fun i hi => by
    rw [hat i hi]
    have := h.rng (i := i) (Nat.lt_of_lt_of_le (by rwa [rowsL_len] at hi) h.len)
    omega), if_neg (by rw [rowsL_len]; omega), if_neg (by rw [rowsL_len]; omega), rowsL_len]
  have ht : tabL k k (pickF (rowsL k L) (cel ⟨(tabL (k + m) k (GfU.gen k)).toArray⟩ k)) = tabL k k (gR k L) := tab_congr k k fun i j hi hj => by
    have e : (rowsL k L).getD i 0 = sI L i := by unfold rowsL; rw [List.getD_eq_getElem?_getD, List.getElem?_map, List.getElem?_range hi]; rfl
    unfold pickF gR
    rw [e]
    exact cel_tab (k + m) k (GfU.gen k) (nI L i) j (h.nat (Nat.lt_of_lt_of_le hi h.len)).2 hj
  rw [ht]

theorem inv_made {k m : Nat} {L : List (Int × ByteArray)} (h : CkOk k m L) {e : Ending} (hr : InvRes k ⟨(tabL k k (gR k L)).toArray⟩ e) :
    ∃ R, e = .returned (.tuple #[.agg #[.int .i64 (k : Int), .int .i64 (k : Int), .string ⟨(tabL k k R).toArray⟩], .int .i64 0]) ∧ GfU.sq k (GfU.mm k R (gR k L)) GfU.one ∧ GfU.sq k (GfU.mm k (gR k L) R) GfU.one := by
  have hsq : GfU.sq k (gR k L) (cel ⟨(tabL k k (gR k L)).toArray⟩ k) := fun i j hi hj => (cel_tab k k (gR k L) i j hi hj).symm
  rcases hr with ⟨R, he, h1, h2⟩ | ⟨_, v, c, hc, hv, hs⟩
  · exact ⟨R, he, GfU.sq_trans (GfU.sq_mm (GfU.sq_refl k R) hsq) h1, GfU.sq_trans (GfU.sq_mm hsq (GfU.sq_refl k R)) h2⟩
  · exact absurd ⟨v, c, hc, hv, fun i hi => by rw [← hs i hi]; exact GfU.sum_congr k fun x hx => by rw [hsq i x hi hx]⟩ h.not_sing

/-- two rows that the call owns, and that share no block -/
structure Two (H : Nat) (W : World) (e1 e2 : TypeId) (v u : Value) (n m : Nat) (xs ys : List Value) : Prop where
  r0 : W.ownsRow H e1 1 v n xs
  r1 : W.ownsRow H e2 1 u m ys
  d : Unlike v u

theorem Two.rot {H : Nat} {W : World} {e1 e2 : TypeId} {v u : Value} {n m : Nat} {xs ys : List Value} (h : Two H W e1 e2 v u n m xs ys) : Two H W e2 e1 u v m n ys xs := ⟨h.r1, h.r0, h.d.symm⟩

theorem Two.below {H : Nat} {W W' : World} {e1 e2 : TypeId} {v u : Value} {n m : Nat} {xs ys : List Value} (h : Two H W e1 e2 v u n m xs ys) (hb : Below W.heap.size W W') : Two H W' e1 e2 v u n m xs ys := ⟨st_keep h.r0 hb, st_keep h.r1 hb, h.d⟩

theorem Two.step {H : Nat} {W W1 : World} {e1 e2 : TypeId} {v u v' : Value} {n m n' : Nat} {xs ys xs' : List Value} (h : Two H W e1 e2 v u n m xs ys) (ho : W1.ownsRow H e1 1 v' n' xs') (hg : W.grownBy W1 v.ownBlock) (hat : v'.ownBlock = v.ownBlock ∨ v'.ownBlock = some W.heap.size) :
    Two H W1 e1 e2 v' u n' m xs' ys :=
  ⟨ho, h.r1.kept hg h.d.symm.ne, (h.d.symm.next (fun j hj => (h.r1.lt j hj).2) hat (Nat.le_refl _)).symm⟩

/-- what Data answers -/
def RDataAns (H : Nat) (k m : Int) (L : List (Int × ByteArray)) (e : Ending) (w' : World) : Prop :=
  if (ckV k m L).2 = 0 then ∃ v, e = .returned (.tuple #[v, .int .i64 0]) ∧ w'.ownsRow H 9 1 v k.toNat (strV (dataL k.toNat L))
  else e = .returned (.tuple #[.slice none 0 0, .int .i64 (ckV k m L).2])

set_option maxRecDepth 100000 in
set_option maxHeartbeats 4000000 in
theorem rdata_any (k m : Int) (A : Option Addr) (c : Nat) (L : List (Int × ByteArray)) (w : World) (h : ShardsAt w A L) (hn : L.length ≤ 4000000000000000000) (hmax : ∀ i, i < L.length → (sS L i).size ≤ 9223372036854775807) :
    Calls Try.prog 16 #[.int .i64 k, .int .i64 m, .slice A L.length c] w fun e w' => RDataAns w.heap.size k m L e w' ∧ Below w.heap.size w w' := by
  have HCk := rmcheck_any k m A c L w h hn hmax
  unfold ckAns at HCk
  by_cases hz : (ckV k m L).2 = 0
  · obtain ⟨a, b, rfl, rfl, hck, hv⟩ := ck_form hz
    obtain ⟨i0, hi, hz0, hz1, hz2⟩ := info_parts Try.infoStr
    obtain ⟨i1, hi', hz0', hz1', hz2'⟩ := info_parts Try.infoInt'
    have E : Hid (∀ e w' v, e = Ending.returned (.tuple #[v, .int .i64 0]) → w'.ownsRow w.heap.size 9 1 v a (strV (dataL a L)) → RDataAns w.heap.size (a : Int) (b : Int) L e w') := fun e w' v he ho => by
      unfold RDataAns; rw [if_pos hz, Int.toNat_natCast]; exact ⟨v, he, ho⟩
    rw [hv] at HCk
    have HC := Lib.hid HCk
    have HA := Lib.hid h
    have HK := Lib.hid hck
    have k1 := hck.k1
    have k2 := hck.km
    have k3 := hck.len
    have HTr := Lib.hid (fun i h => rowsL_take a L i h)
    have HTh := Lib.hid (fun i h => haveL_take a L i h)
    clear HCk hz hv h hmax hck
    go_enter Try.func16, Try.ntmps16
    go_wp2_with fail
    refine HC.out.mono ?_
    rintro e w1 ⟨rfl, d, rfl⟩
    have A1 := Lib.hid (HA.out.below (below_drewN (Below.refl w.heap.size w) d))
    have B1 := Lib.hid (below_drewN (Below.refl w.heap.size w) d)
    generalize w.drewN d = w1 at A1 B1 ⊢
    clear HC HA
    go_wp2_with fail
    have hT0 : Hid (Two w1.heap.size w1 3 9 (.slice none 0 0) (.slice none 0 0) 0 0 (rowsN ((rowsL a L).take 0)) (strV ((haveL a L).take 0))) :=
      ⟨World.ownsRow_nil _ _ _ _, World.ownsRow_nil _ _ _ _, fun j h => by simp [Value.ownBlock] at h⟩
    go_loopw [10, 11, 12] (fun u v x wr => ∃ i : Nat, i ≤ a ∧ x = .int .i64 (i : Int) ∧ Hid (Two w1.heap.size wr 3 9 u v i i (rowsN ((rowsL a L).take i)) (strV ((haveL a L).take i))) ∧ Hid (Below w1.heap.size w1 wr)) (fun _ _ x _ => a - (intOf x).toNat)
    case atStart => exact ⟨0, by omega, rfl, hT0.out, Below.refl _ _⟩
    case round =>
      obtain ⟨i, hia, rfl, hT, hbel⟩ := hrel
      clear hT0
      by_cases hlt : i < a
      · have pi : (i : Int) < (a : Int) := by omega
        have pl : (i : Int) < (L.length : Int) := by omega
        obtain ⟨ad, rfl, hab, hcl⟩ := (A1.out.below hbel.out) (by omega)
        obtain ⟨x1, x2⟩ := hcl i (by omega)
        have x3 : wr.cell? ⟨(ad.add (i * 2)).block, (ad.add (i * 2)).off + 1, none⟩ = some (.string (sS L i)) := by rw [add_field]; exact x2
        clear x2 hcl
        go_wp2_with (at_builtin; refine wpList_append_own_at _ rfl _ _ 43 rfl w1.heap.size 3 i1 (.int .i64 0) 1 8 Try.underlying43 hi' hz0' hz1' hz2' rfl (by decide) _ _ _ rfl (hT.out.r0.alloc _) ⟨wr.heap.size, 0, none⟩ 1 1 [.int .i64 (sI L i)] rfl rfl ?c1 ?c2 ?c3 ?c4 ?c5 ?_)
        case c1 => exact cell_one_new _ _ _
        case c2 => intro q hq; simp at hq; subst hq; rfl
        case c3 => unfold maxLen; omega
        case c4 => omega
        case c5 => have := hbel.out.size; simp; omega
        intro va w3 hown' hgrow _ hat
        rw [HTr.out i hlt] at hown'
        have T3 := Lib.hid (((hT.out.below ((Below.refl _ wr).alloc (Nat.le_refl _) _)).step hown' hgrow (by simpa using hat)).rot)
        have B3 := Lib.hid (below_append hT.out.r0 hbel.out (Nat.le_refl _) hgrow)
        have x4 : w3.cell? ⟨(ad.add (i * 2)).block, (ad.add (i * 2)).off + 1, none⟩ = some (.string (sS L i)) := by
          obtain ⟨ad', had, _, hcl⟩ := (A1.out.below B3.out) (by omega)
          obtain rfl := Option.some.inj had
          rw [add_field]; exact (hcl i (by omega)).2
        clear hown' hgrow hat x1 x3
        go_wp2_with (at_builtin; refine wpList_append_own_at _ rfl _ _ 32 rfl w1.heap.size 9 i0 (.string ⟨#[]⟩) 1 16 Try.underlying32 hi hz0 hz1 hz2 rfl (by decide) _ _ _ rfl (T3.out.r0.alloc _) ⟨w3.heap.size, 0, none⟩ 1 1 [.string (sS L i)] rfl rfl ?c1 ?c2 ?c3 ?c4 ?c5 ?_)
        case c1 => exact cell_one_new _ _ _
        case c2 => intro q hq; simp at hq; subst hq; rfl
        case c3 => unfold maxLen; omega
        case c4 => omega
        case c5 => have := B3.out.size; simp; omega
        intro vb w4 hown' hgrow _ hat
        rw [HTh.out i hlt] at hown'
        have T4 := Lib.hid (((T3.out.below ((Below.refl _ w3).alloc (Nat.le_refl _) _)).step hown' hgrow (by simpa using hat)).rot)
        have B4 := Lib.hid (below_append T3.out.r0 B3.out (Nat.le_refl _) hgrow)
        clear hown' hgrow hat x4 T3 B3 hT hbel
        go_wp2_with fail
        go_roundw
        case rel => exact ⟨i + 1, by omega, by go_num, T4.out, B4.out⟩
        case measure => simp [intOf]; omega
      · obtain rfl : a = i := by omega
        have hT2 := hT.out
        rw [List.take_of_length_le (by rw [rowsL_len]; exact Nat.le_refl _), List.take_of_length_le (by rw [haveL_len]; exact Nat.le_refl _)] at hT2
        obtain ⟨ga, capa, rfl, _, hla⟩ := World.ownsRow.form hT2.r0 (by omega)
        obtain ⟨gb, capb, rfl, _, _⟩ := World.ownsRow.form hT2.r1 (by omega)
        have HB := Lib.hid (B1.out.trans (hbel.out.mono B1.out.size))
        have HRows : Hid (ga < wr.heap.size ∧ ∀ i (h : i < (rowsL a L).length), wr.cell? ((⟨ga, 0, none⟩ : Addr).add i) = some (.int .i64 (rowsL a L)[i])) := ⟨hla, fun i h => by
          rw [addr_head, World.ownsRow.cellAt hT2.r0 i (by rw [rowsL_len] at h; omega)]
          exact rowsN_at h⟩
        have HHave := Lib.hid (StrsAt.own hT2.r1 (haveL_len a L).symm)
        clear hT hT2 hbel hla HTr HTh
        go_wp2_with fail
        refine (rmade_any a b _ k1 k2).mono ?_
        rintro e w2 ⟨rfl, hb⟩
        have B2 := Lib.hid (HB.out.trans (hb.mono HB.out.size))
        have R2 : Hid (ga < w2.heap.size ∧ ∀ i (h : i < (rowsL a L).length), w2.cell? ((⟨ga, 0, none⟩ : Addr).add i) = some (.int .i64 (rowsL a L)[i])) :=
          ⟨Nat.lt_of_lt_of_le HRows.out.1 hb.size, fun i h => (cell_kept hb _ (by rw [st_block]; exact HRows.out.1)).trans (HRows.out.2 i h)⟩
        have H2 := Lib.hid (HHave.out.below hb)
        clear hb HB HRows HHave
        go_wp2_with fail
        have hpk := rpick_some (a + b) a ⟨(tabL (a + b) a (GfU.gen a)).toArray⟩ ⟨ga, 0, none⟩ capa (rowsL a L) w2 (by omega) k2 k1 (by omega) (size_tab _ _ _) R2.out.1 R2.out.2 (by rw [rowsL_len]; omega)
        rw [pick_rows HK.out, rowsL_len, Int.natCast_add] at hpk
        have HPk := Lib.hid hpk
        clear hpk
        refine HPk.out.mono ?_
        rintro e w3 ⟨rfl, hb⟩
        have B3 := Lib.hid (B2.out.trans (hb.mono B2.out.size))
        have H3 := Lib.hid (H2.out.below hb)
        clear hb B2 R2 H2 HPk
        go_wp2_with fail
        refine (rinv_yes a ⟨(tabL a a (gR a L)).toArray⟩ _ k1 (by omega) (size_tab _ _ _)).mono ?_
        rintro e w4 ⟨hres, hb⟩
        obtain ⟨R, rfl, hR1, hR2⟩ := inv_made HK.out hres
        have B4 := Lib.hid (B3.out.trans ((below_new hb).mono B3.out.size))
        have H4 := Lib.hid (H3.out.below (below_new hb))
        have HR := Lib.hid (undL_alike (GfU.sq_symm (invF_of hR1 hR2).1) (haveL a L) (sS L 0).size)
        clear hb hres hR1 hR2 B3 H3
        go_wp2_with fail
        have hun := fun W hW => under_any a a (sS L 0).size R (some ⟨gb, 0, none⟩) capb (haveL a L) W hW k1 (by omega) (by omega) (haveL_len a L) HK.out.have_size (by have := (HK.out.size (i := 0) (by omega)).2; omega)
        rw [haveL_len, HR.out] at hun
        have HUn := Lib.hid hun
        clear hun
        have B5 := Lib.hid (B4.out.alloc B4.out.size (.cells #[.int .i64 (a : Int), .int .i64 (a : Int), .string ⟨(tabL a a R).toArray⟩] 59))
        have H5 := Lib.hid (H4.out.below ((Below.refl _ w4).alloc (Nat.le_refl _) (.cells #[.int .i64 (a : Int), .int .i64 (a : Int), .string ⟨(tabL a a R).toArray⟩] 59)))
        refine (HUn.out _ H5.out).mono ?_
        rintro e w6 ⟨v, rfl, hown, hb⟩
        have B6 := Lib.hid (B5.out.trans (hb.mono B5.out.size))
        have O6 : Hid (w6.ownsRow w.heap.size 9 1 v a (strV (dataL a L))) := st_lower hown B5.out.size
        clear hb hown B4 B5 H4 H5 HUn HR
        go_wp2_with fail
        go_ret2
        exact ⟨E.out _ _ _ rfl O6.out, B6.out⟩
  · have E : Hid (∀ e w', e = Ending.returned (.tuple #[.slice none 0 0, .int .i64 (ckV k m L).2]) → RDataAns w.heap.size k m L e w') := fun e w' he => by
      unfold RDataAns; rw [if_neg hz]; exact he
    have hne : ((ckV k m L).2 == 0) = false := by simp [hz]
    have HC := Lib.hid HCk
    generalize (ckV k m L).2 = er at *
    generalize (ckV k m L).1 = at_ at *
    clear HCk hz h hmax
    go_enter Try.func16, Try.ntmps16
    go_wp2_with fail
    refine HC.out.mono ?_
    rintro e w1 ⟨rfl, d, rfl⟩
    go_wp2_with fail
    go_ret2
    exact ⟨E.out _ _ rfl, below_drewN (Below.refl _ _) d⟩

end Go.Proofs.Ytemcjnbgcecinaa

/- What the document's All, Object, One and Agree answer; contracts; no condition but the range. -/
namespace Go.Proofs.Ytemcjnbgcecinaa
open Go.RowKit

/-- what All answers -/
def RAllAns (H : Nat) (k m : Int) (L : List (Int × ByteArray)) (e : Ending) (w' : World) : Prop :=
  if (ckV k m L).2 = 0 then ∃ v, e = .returned (.tuple #[v, .int .i64 0]) ∧ w'.ownsRow H 9 1 v (k.toNat + m.toNat) (strV (allL k.toNat m.toNat L))
  else e = .returned (.tuple #[.slice none 0 0, .int .i64 (ckV k m L).2])

theorem dataL_len (k : Nat) (L : List (Int × ByteArray)) : (dataL k L).length = k := undL_len _ _ _ _ _

theorem allL_len (k m : Nat) (L : List (Int × ByteArray)) : (allL k m L).length = k + m := undL_len _ _ _ _ _

theorem dataL_size (k : Nat) (L : List (Int × ByteArray)) : ∀ s ∈ dataL k L, s.size = (sS L 0).size := undL_size _ _ _ _ _

theorem allL_size (k m : Nat) (L : List (Int × ByteArray)) : ∀ s ∈ allL k m L, s.size = (sS L 0).size := undL_size _ _ _ _ _

set_option maxRecDepth 20000 in
set_option maxHeartbeats 2000000 in
theorem rall_any (k m : Int) (A : Option Addr) (c : Nat) (L : List (Int × ByteArray)) (w : World) (h : ShardsAt w A L) (hn : L.length ≤ 4000000000000000000) (hmax : ∀ i, i < L.length → (sS L i).size ≤ 9223372036854775807) :
    Calls Try.prog 39 #[.int .i64 k, .int .i64 m, .slice A L.length c] w fun e w' => RAllAns w.heap.size k m L e w' ∧ Below w.heap.size w w' := by
  have HD := Lib.hid (rdata_any k m A c L w h hn hmax)
  by_cases hz : (ckV k m L).2 = 0
  · obtain ⟨a, b, rfl, rfl, hck, _⟩ := ck_form hz
    have E : Hid (∀ e w' v, e = Ending.returned (.tuple #[v, .int .i64 0]) → w'.ownsRow w.heap.size 9 1 v (a + b) (strV (allL a b L)) → RAllAns w.heap.size (a : Int) (b : Int) L e w') := fun e w' v he ho => by
      unfold RAllAns; rw [if_pos hz, Int.toNat_natCast, Int.toNat_natCast]; exact ⟨v, he, ho⟩
    have ED : Hid (∀ H e w', RDataAns H (a : Int) (b : Int) L e w' → ∃ g cap, e = .returned (.tuple #[.slice (some ⟨g, 0, none⟩) a cap, .int .i64 0]) ∧ w'.ownsRow H 9 1 (.slice (some ⟨g, 0, none⟩) a cap) a (strV (dataL a L))) := fun H e w' h => by
      unfold RDataAns at h; rw [if_pos hz, Int.toNat_natCast] at h
      obtain ⟨v, e1, e2⟩ := h
      obtain ⟨g, cap, rfl, _⟩ := World.ownsRow.form e2 (by have := hck.k1; omega)
      exact ⟨g, cap, e1, e2⟩
    have k1 := hck.k1
    have k2 := hck.km
    have HZ := Lib.hid (show (sS L 0).size ≤ 100000 by have := (hck.size (i := 0) (by have := hck.len; omega)).2; omega)
    clear hz h hmax hck
    go_enter Try.func39, Try.ntmps39
    go_wp2_with fail
    refine HD.out.mono ?_
    rintro e w1 ⟨hans, hb⟩
    obtain ⟨g, cap, rfl, hown⟩ := ED.out _ _ _ hans
    have B1 := Lib.hid hb
    have S1 := Lib.hid (StrsAt.own hown (dataL_len a L).symm)
    clear hans hb hown HD ED
    go_wp2_with fail
    refine (rmade_any a b _ k1 k2).mono ?_
    rintro e w2 ⟨rfl, hb⟩
    have B2 := Lib.hid (B1.out.trans (hb.mono B1.out.size))
    have S2 := Lib.hid (S1.out.below hb)
    clear hb B1 S1
    have hun := under_any a (a + b) (sS L 0).size (GfU.gen a) (some ⟨g, 0, none⟩) cap (dataL a L) w2 S2.out k1 k2 (by omega) (dataL_len a L) (dataL_size a L) HZ.out
    rw [dataL_len, Int.natCast_add] at hun
    have HUn := Lib.hid hun
    clear hun
    go_wp2_with fail
    refine HUn.out.mono ?_
    rintro e w3 ⟨v, rfl, hown, hb⟩
    have B3 := Lib.hid (B2.out.trans (hb.mono B2.out.size))
    have O3 : Hid (w3.ownsRow w.heap.size 9 1 v (a + b) (strV (allL a b L))) := st_lower hown B2.out.size
    clear hb hown HUn B2 S2
    go_wp2_with fail
    go_ret2
    exact ⟨E.out _ _ _ rfl O3.out, B3.out⟩
  · have E : Hid (∀ e w', e = Ending.returned (.tuple #[.slice none 0 0, .int .i64 (ckV k m L).2]) → RAllAns w.heap.size k m L e w') := fun e w' he => by
      unfold RAllAns; rw [if_neg hz]; exact he
    have ED : Hid (∀ H e w', RDataAns H k m L e w' → e = .returned (.tuple #[.slice none 0 0, .int .i64 (ckV k m L).2])) := fun H e w' h => by
      unfold RDataAns at h; rw [if_neg hz] at h; exact h
    have hne : ((ckV k m L).2 == 0) = false := by simp [hz]
    generalize (ckV k m L).2 = er at *
    clear hz h hmax
    go_enter Try.func39, Try.ntmps39
    go_wp2_with fail
    refine HD.out.mono ?_
    rintro e w1 ⟨hans, hb⟩
    have he := ED.out _ _ _ hans
    subst he
    have B1 := Lib.hid hb
    clear hans hb HD
    go_wp2_with fail
    go_ret2
    exact ⟨E.out _ _ rfl, B1.out⟩

/-- what Object answers -/
noncomputable def objAns (k m : Int) (L : List (Int × ByteArray)) : Value :=
  if (ckV k m L).2 = 0 then joinV (dataL k.toNat L) else .tuple #[.string ⟨#[]⟩, .int .i64 (ckV k m L).2]

theorem joinV_form (l : List ByteArray) : ∃ s e, joinV l = .tuple #[.string s, .int .i64 e] := ⟨_, _, rfl⟩

set_option maxRecDepth 20000 in
set_option maxHeartbeats 2000000 in
theorem robject_any (k m : Int) (A : Option Addr) (c : Nat) (L : List (Int × ByteArray)) (w : World) (h : ShardsAt w A L) (hn : L.length ≤ 4000000000000000000) (hmax : ∀ i, i < L.length → (sS L i).size ≤ 9223372036854775807) :
    Calls Try.prog 18 #[.int .i64 k, .int .i64 m, .slice A L.length c] w fun e w' => e = .returned (objAns k m L) ∧ Below w.heap.size w w' := by
  have HD := Lib.hid (rdata_any k m A c L w h hn hmax)
  by_cases hz : (ckV k m L).2 = 0
  · obtain ⟨a, b, rfl, rfl, hck, _⟩ := ck_form hz
    have E : Hid (objAns (a : Int) (b : Int) L = joinV (dataL a L)) := by show _ = _; unfold objAns; rw [if_pos hz, Int.toNat_natCast]
    have ED : Hid (∀ H e w', RDataAns H (a : Int) (b : Int) L e w' → ∃ g cap, e = .returned (.tuple #[.slice (some ⟨g, 0, none⟩) a cap, .int .i64 0]) ∧ w'.ownsRow H 9 1 (.slice (some ⟨g, 0, none⟩) a cap) a (strV (dataL a L))) := fun H e w' h => by
      unfold RDataAns at h; rw [if_pos hz, Int.toNat_natCast] at h
      obtain ⟨v, e1, e2⟩ := h
      obtain ⟨g, cap, rfl, _⟩ := World.ownsRow.form e2 (by have := hck.k1; omega)
      exact ⟨g, cap, e1, e2⟩
    have HZ := Lib.hid (show (sS L 0).size ≤ 100000 by have := (hck.size (i := 0) (by have := hck.len; have := hck.k1; omega)).2; omega)
    have HL := Lib.hid (show (dataL a L).length ≤ 1000000000000000000 by rw [dataL_len]; have := hck.km; omega)
    clear hz h hmax hck
    go_enter Try.func18, Try.ntmps18
    go_wp2_with fail
    refine HD.out.mono ?_
    rintro e w1 ⟨hans, hb⟩
    obtain ⟨g, cap, rfl, hown⟩ := ED.out _ _ _ hans
    have B1 := Lib.hid hb
    have hj := rjoin_any (some ⟨g, 0, none⟩) cap (dataL a L) w1 (StrsAt.own hown (dataL_len a L).symm) HL.out (fun s hs => by rw [dataL_size a L s hs]; have := HZ.out; omega)
    rw [dataL_len] at hj
    obtain ⟨s, er, hjf⟩ := joinV_form (dataL a L)
    rw [hjf] at hj
    have HJ := Lib.hid hj
    have HF := Lib.hid hjf
    clear hans hb hown HD ED hj hjf
    go_wp2_with fail
    refine HJ.out.mono ?_
    rintro e w2 ⟨rfl, hb⟩
    have B2 := Lib.hid (B1.out.trans (hb.mono B1.out.size))
    clear hb
    go_wp2_with fail
    go_ret2
    exact ⟨by rw [E.out, HF.out]; rfl, B2.out⟩
  · have E : Hid (objAns k m L = .tuple #[.string ⟨#[]⟩, .int .i64 (ckV k m L).2]) := by show _ = _; unfold objAns; rw [if_neg hz]
    have ED : Hid (∀ H e w', RDataAns H k m L e w' → e = .returned (.tuple #[.slice none 0 0, .int .i64 (ckV k m L).2])) := fun H e w' h => by
      unfold RDataAns at h; rw [if_neg hz] at h; exact h
    have hne : ((ckV k m L).2 == 0) = false := by simp [hz]
    generalize (ckV k m L).2 = er at *
    clear hz h hmax
    go_enter Try.func18, Try.ntmps18
    go_wp2_with fail
    refine HD.out.mono ?_
    rintro e w1 ⟨hans, hb⟩
    have he := ED.out _ _ _ hans
    subst he
    have B1 := Lib.hid hb
    clear hans hb HD
    go_wp2_with fail
    go_ret2
    exact ⟨by rw [E.out]; rfl, B1.out⟩

end Go.Proofs.Ytemcjnbgcecinaa

/- What the document's One and Agree answer; contracts; no condition but the range. -/
namespace Go.Proofs.Ytemcjnbgcecinaa
open Go.RowKit

/-- what One answers -/
noncomputable def oneAns (k m : Int) (L : List (Int × ByteArray)) (i : Int) : Value :=
  if (ckV k m L).2 = 0 then
    if 0 ≤ i ∧ i < k + m then .tuple #[.string ((allL k.toNat m.toNat L).getD i.toNat ⟨#[]⟩), .int .i64 0] else .tuple #[.string ⟨#[]⟩, .int .i64 1]
  else .tuple #[.string ⟨#[]⟩, .int .i64 (ckV k m L).2]

open Classical in
/-- whether the shards are those that are made -/
noncomputable def agreeB (k m : Nat) (L : List (Int × ByteArray)) : Bool := decide (∀ t, t < L.length → (allL k m L).getD (nI L t) ⟨#[]⟩ = sS L t)

/-- what Agree answers -/
noncomputable def agrAns (k m : Int) (L : List (Int × ByteArray)) : Value :=
  if (ckV k m L).2 = 0 then .tuple #[.bool (agreeB k.toNat m.toNat L), .int .i64 0] else .tuple #[.bool false, .int .i64 (ckV k m L).2]

/-- All, of shards that go together -/
theorem rall_yes {k m : Nat} {L : List (Int × ByteArray)} (hz : (ckV (k : Int) (m : Int) L).2 = 0) (hk : 1 ≤ k) : ∀ H e w', RAllAns H (k : Int) (m : Int) L e w' → ∃ g cap, e = .returned (.tuple #[.slice (some ⟨g, 0, none⟩) (k + m) cap, .int .i64 0]) ∧ g < w'.heap.size ∧ ∀ q, q < k + m → w'.cell? ⟨g, q, none⟩ = some (.string ((allL k m L).getD q ⟨#[]⟩)) := fun H e w' h => by
  unfold RAllAns at h; rw [if_pos hz, Int.toNat_natCast, Int.toNat_natCast] at h
  obtain ⟨v, e1, e2⟩ := h
  obtain ⟨g, cap, rfl, _, hg⟩ := World.ownsRow.form e2 (by omega)
  refine ⟨g, cap, e1, hg, fun q hq => ?_⟩
  have hq' : q < (allL k m L).length := by rw [allL_len]; exact hq
  rw [World.ownsRow.cellAt e2 q (by omega), strV_at hq', List.getD_eq_getElem?_getD, List.getElem?_eq_getElem hq', Option.getD_some]

theorem rall_no {k m : Int} {L : List (Int × ByteArray)} (hz : ¬ (ckV k m L).2 = 0) : ∀ H e w', RAllAns H k m L e w' → e = .returned (.tuple #[.slice none 0 0, .int .i64 (ckV k m L).2]) := fun H e w' h => by
  unfold RAllAns at h; rw [if_neg hz] at h; exact h

set_option maxRecDepth 20000 in
set_option maxHeartbeats 2000000 in
theorem rone_any' (k m i : Int) (A : Option Addr) (c : Nat) (L : List (Int × ByteArray)) (w : World) (h : ShardsAt w A L) (hn : L.length ≤ 4000000000000000000) (hmax : ∀ i, i < L.length → (sS L i).size ≤ 9223372036854775807) :
    Calls Try.prog 21 #[.int .i64 k, .int .i64 m, .slice A L.length c, .int .i64 i] w fun e w' => e = .returned (oneAns k m L i) ∧ Below w.heap.size w w' := by
  have HD := Lib.hid (rall_any k m A c L w h hn hmax)
  by_cases hz : (ckV k m L).2 = 0
  · obtain ⟨a, b, rfl, rfl, hck, _⟩ := ck_form hz
    have ED := Lib.hid (rall_yes hz hck.k1)
    have k2 := hck.km
    have E1 : Hid (0 ≤ i ∧ i < (a : Int) + (b : Int) → oneAns (a : Int) (b : Int) L i = .tuple #[.string ((allL a b L).getD i.toNat ⟨#[]⟩), .int .i64 0]) := fun hi => by
      unfold oneAns; rw [if_pos hz, if_pos hi, Int.toNat_natCast, Int.toNat_natCast]
    have E2 : Hid (¬ (0 ≤ i ∧ i < (a : Int) + (b : Int)) → oneAns (a : Int) (b : Int) L i = .tuple #[.string ⟨#[]⟩, .int .i64 1]) := fun hi => by
      unfold oneAns; rw [if_pos hz, if_neg hi]
    clear hz h hmax hck
    by_cases r1 : i < 0
    · have E := Lib.hid (E2.out (by omega))
      clear E1 E2
      go_enter Try.func21, Try.ntmps21
      go_wp2_with fail
      refine HD.out.mono ?_
      rintro e w1 ⟨hans, hb⟩
      obtain ⟨g, cap, rfl, _, _⟩ := ED.out _ _ _ hans
      have B1 := Lib.hid hb
      clear hans hb HD ED
      go_wp2_with fail
      go_ret2
      exact ⟨by rw [E.out]; rfl, B1.out⟩
    · have r1' : (0 : Int) ≤ i := by omega
      by_cases r2 : i < (a : Int) + (b : Int)
      · obtain ⟨q, rfl⟩ : ∃ q : Nat, i = (q : Int) := ⟨i.toNat, by omega⟩
        have hq : q < a + b := by omega
        have E := Lib.hid (E1.out ⟨r1', r2⟩)
        have E' : Hid (oneAns (a : Int) (b : Int) L (q : Int) = .tuple #[.string ((allL a b L).getD q ⟨#[]⟩), .int .i64 0]) := by
          have h := E.out; rwa [Int.toNat_natCast] at h
        clear E1 E2 E r1
        go_enter Try.func21, Try.ntmps21
        go_wp2_with fail
        refine HD.out.mono ?_
        rintro e w1 ⟨hans, hb⟩
        obtain ⟨g, cap, rfl, _, hcl⟩ := ED.out _ _ _ hans
        have hc := hcl q hq
        have B1 := Lib.hid hb
        clear hans hb HD ED hcl
        go_wp2_with fail
        go_ret2
        exact ⟨by rw [E'.out]; rfl, B1.out⟩
      · have r2' : (a : Int) + (b : Int) ≤ i := by omega
        have E := Lib.hid (E2.out (by omega))
        clear E1 E2 r1 r2
        go_enter Try.func21, Try.ntmps21
        go_wp2_with fail
        refine HD.out.mono ?_
        rintro e w1 ⟨hans, hb⟩
        obtain ⟨g, cap, rfl, _, _⟩ := ED.out _ _ _ hans
        have B1 := Lib.hid hb
        clear hans hb HD ED
        go_wp2_with fail
        go_ret2
        exact ⟨by rw [E.out]; rfl, B1.out⟩
  · have ED := Lib.hid (rall_no hz)
    have E : Hid (oneAns k m L i = .tuple #[.string ⟨#[]⟩, .int .i64 (ckV k m L).2]) := by show _ = _; unfold oneAns; rw [if_neg hz]
    have hne : ((ckV k m L).2 == 0) = false := by simp [hz]
    generalize (ckV k m L).2 = er at *
    clear hz h hmax
    go_enter Try.func21, Try.ntmps21
    go_wp2_with fail
    refine HD.out.mono ?_
    rintro e w1 ⟨hans, hb⟩
    have he := ED.out _ _ _ hans
    subst he
    have B1 := Lib.hid hb
    clear hans hb HD
    go_wp2_with fail
    go_ret2
    exact ⟨by rw [E.out]; rfl, B1.out⟩

set_option maxRecDepth 20000 in
set_option maxHeartbeats 2000000 in
theorem ragree_any (k m : Int) (A : Option Addr) (c : Nat) (L : List (Int × ByteArray)) (w : World) (h : ShardsAt w A L) (hn : L.length ≤ 4000000000000000000) (hmax : ∀ i, i < L.length → (sS L i).size ≤ 9223372036854775807) :
    Calls Try.prog 23 #[.int .i64 k, .int .i64 m, .slice A L.length c] w fun e w' => e = .returned (agrAns k m L) ∧ Below w.heap.size w w' := by
  have HD := Lib.hid (rall_any k m A c L w h hn hmax)
  by_cases hz : (ckV k m L).2 = 0
  · obtain ⟨a, b, rfl, rfl, hck, _⟩ := ck_form hz
    have ED := Lib.hid (rall_yes hz hck.k1)
    have k2 := hck.km
    have HA := Lib.hid h
    have HN := Lib.hid (fun i hi => hck.nat (i := i) hi)
    have E : Hid (agrAns (a : Int) (b : Int) L = .tuple #[.bool (agreeB a b L), .int .i64 0]) := by show _ = _; unfold agrAns; rw [if_pos hz, Int.toNat_natCast, Int.toNat_natCast]
    have E1 : Hid ((∀ t, t < L.length → (allL a b L).getD (nI L t) ⟨#[]⟩ = sS L t) → agreeB a b L = true) := fun h => by unfold agreeB; exact decide_eq_true h
    have E2 : Hid (∀ t, t < L.length → (allL a b L).getD (nI L t) ⟨#[]⟩ ≠ sS L t → agreeB a b L = false) := fun t ht hne => by unfold agreeB; exact decide_eq_false fun h => hne (h t ht)
    clear hz h hmax hck
    generalize allL a b L = all at *
    go_enter Try.func23, Try.ntmps23
    go_wp2_with fail
    refine HD.out.mono ?_
    rintro e w1 ⟨hans, hb⟩
    obtain ⟨g, cap, rfl, hg, hcl⟩ := ED.out _ _ _ hans
    have HCl := Lib.hid hcl
    have B1 := Lib.hid hb
    have A1 := Lib.hid (HA.out.below hb)
    clear hans hb HD ED hcl HA
    go_wp2_with fail
    go_loopw [10] (fun u wr => ∃ i d : Nat, i ≤ L.length ∧ u = .int .i64 (i : Int) ∧ Hid (∀ t, t < i → all.getD (nI L t) ⟨#[]⟩ = sS L t) ∧ wr = w1.drewN d) (fun u _ => L.length - (intOf u).toNat)
    case atStart => exact ⟨0, 0, by omega, rfl, fun t ht => absurd ht (by omega), rfl⟩
    case round =>
      obtain ⟨i, d, hi, rfl, h0, rfl⟩ := hrel
      by_cases hlt : i < L.length
      · have pi : (i : Int) < (L.length : Int) := by omega
        obtain ⟨ad, rfl, hab, hcl⟩ := A1.out (by omega)
        obtain ⟨x1, x2⟩ := hcl i hlt
        obtain ⟨n1, n2⟩ := HN.out i hlt
        rw [n1] at x1
        have x3 := HCl.out (nI L i) n2
        have E2i := Lib.hid (E2.out i hlt)
        generalize hq : nI L i = q at n2 x1 x3 E2i
        have HQ := Lib.hid hq
        have pq : (q : Int) < (a : Int) + (b : Int) := by omega
        generalize hW : w1.drewN d = W
        have HW := Lib.hid hW
        have y1 : W.cell? (ad.add (i * 2)) = some (.int .i64 (q : Int)) := by rw [← hW]; exact x1
        have y2 : W.cell? ⟨(ad.add (i * 2)).block, (ad.add (i * 2)).off + 1, none⟩ = some (.string (sS L i)) := by rw [add_field, ← hW]; exact x2
        have y3 : W.cell? ⟨g, q, none⟩ = some (.string (all.getD q ⟨#[]⟩)) := by rw [← hW]; exact x3
        clear hW hq x1 x2 x3 hcl n1
        by_cases he : all.getD q ⟨#[]⟩ = sS L i
        · rw [he] at y3
          have qq := text_eq (sS L i)
          have HE := Lib.hid he
          clear he
          go_wp2_with fail
          go_quiet (fail)
          go_wp2_with fail
          go_roundw
          case rel => exact ⟨i + 1, _, by omega, by go_num, (fun t ht => by
            by_cases e : t = i
            · subst e; rw [HQ.out]; exact HE.out
            · exact h0.out t (by omega)), by rw [← HW.out, World.drewN_drewN]⟩
          case measure => simp [intOf]; omega
        · have qq := text_ne he
          have EE := Lib.hid (E2i.out he)
          generalize all.getD q ⟨#[]⟩ = sv at *
          clear he
          go_wp2_with fail
          go_quiet (fail)
          go_wp2_with fail
          go_ret2
          exact ⟨by rw [E.out, EE.out]; rfl, by rw [← HW.out, World.drewN_drewN]; exact below_drewN B1.out _⟩
      · obtain rfl : i = L.length := by omega
        have EE := Lib.hid (E1.out h0.out)
        go_wp2_with fail
        go_ret2
        exact ⟨by rw [E.out, EE.out]; rfl, below_drewN B1.out d⟩
  · have ED := Lib.hid (rall_no hz)
    have E : Hid (agrAns k m L = .tuple #[.bool false, .int .i64 (ckV k m L).2]) := by show _ = _; unfold agrAns; rw [if_neg hz]
    have hne : ((ckV k m L).2 == 0) = false := by simp [hz]
    generalize (ckV k m L).2 = er at *
    clear hz h hmax
    go_enter Try.func23, Try.ntmps23
    go_wp2_with fail
    refine HD.out.mono ?_
    rintro e w1 ⟨hans, hb⟩
    have he := ED.out _ _ _ hans
    subst he
    have B1 := Lib.hid hb
    clear hans hb HD
    go_wp2_with fail
    go_ret2
    exact ⟨by rw [E.out]; rfl, B1.out⟩

end Go.Proofs.Ytemcjnbgcecinaa

/- Shards as an argument; copies that are lent, with room of their own behind the end, and whether they are as they were; no condition but the range. -/
namespace Go.Proofs.Ytemcjnbgcecinaa
open Go.RowKit

/-- the slice v holds the shards L, in blocks that are there -/
def ShardsOf (w : World) (v : Value) (L : List (Int × ByteArray)) : Prop :=
  ∃ (A : Option Addr) (c : Nat), v = .slice A L.length c ∧ ShardsAt w A L ∧ (A = none → L = [] ∧ c = 0) ∧ L.length * 24 ≤ 140737488351232 ∧ ∀ i, i < L.length → (sS L i).size ≤ 140737488351232

theorem ShardsOf.below {w w' : World} {v : Value} {L : List (Int × ByteArray)} (h : ShardsOf w v L) (hb : Below w.heap.size w w') : ShardsOf w' v L := by
  obtain ⟨A, c, h1, h2, h3⟩ := h
  exact ⟨A, c, h1, h2.below hb, h3⟩

theorem Try.infoShard : (Try.prog.info? 50).map (fun i => (i.zero, i.size, i.bytes)) = some (some (.agg #[.int .i64 0, .string ⟨#[]⟩]), 2, 24) := by kernel_rfl

def shV (L : List (Int × ByteArray)) : List Value := L.flatMap fun s => [.int .i64 s.1, .string s.2]

theorem shV_len : ∀ L : List (Int × ByteArray), (shV L).length = L.length * 2
  | [] => rfl
  | x :: r => by
    have := shV_len r
    unfold shV at this ⊢
    rw [List.flatMap_cons, List.length_append, this, List.length_cons]
    simp; omega

theorem shV_at : ∀ (L : List (Int × ByteArray)) (i : Nat), i < L.length → (shV L)[i * 2]? = some (.int .i64 (sI L i)) ∧ (shV L)[i * 2 + 1]? = some (.string (sS L i))
  | [], i, h => by simp at h
  | x :: r, 0, _ => by unfold shV sI sS; simp
  | x :: r, i + 1, h => by
    have h1 := shV_at r i (by simpa using h)
    have e : shV (x :: r) = .int .i64 x.1 :: .string x.2 :: shV r := by unfold shV; rw [List.flatMap_cons]; rfl
    rw [e, show (i + 1) * 2 = i * 2 + 1 + 1 by omega]
    simp only [List.getElem?_cons_succ]
    unfold sI sS at h1 ⊢
    simpa using h1

theorem shV_one (L : List (Int × ByteArray)) : ∀ u ∈ shV L, u.oneCell' = true := fun u hu => by
  unfold shV at hu
  obtain ⟨s, _, hs⟩ := List.mem_flatMap.1 hu
  simp at hs
  rcases hs with rfl | rfl <;> rfl

theorem ShardsAt.news {w : World} {ad : Addr} {L : List (Int × ByteArray)} (h : ShardsAt w (some ad) L) : ∀ j u, (shV L)[j]? = some u → w.cell? (ad.add j) = some u := fun j u hu => by
  have hj : j < L.length * 2 := by
    have := (List.getElem?_eq_some_iff.1 hu).1
    rwa [shV_len] at this
  obtain ⟨a', e, _, h3⟩ := h (by omega)
  obtain rfl := Option.some.inj e
  obtain ⟨h4, h5⟩ := h3 (j / 2) (by omega)
  obtain ⟨h6, h7⟩ := shV_at L (j / 2) (by omega)
  rcases Nat.mod_two_eq_zero_or_one j with hm | hm
  · rw [show j / 2 * 2 = j by omega] at h4 h6
    rw [h6] at hu
    rw [h4, ← hu]
  · rw [show j / 2 * 2 + 1 = j by omega] at h5 h7
    rw [h7] at hu
    rw [h5, ← hu]

/-- behind the lent shards' end -/
def markV : List Value := [.int .i64 (-77), .string ⟨#[]⟩]

theorem mark_new {w : World} {g : Nat} {t : TypeId} (h : w.heap[g]? = some (.cells #[.int .i64 (-77), .string ⟨#[]⟩] t (0, 0))) : ∀ j u, markV[j]? = some u → w.cell? ((⟨g, 0, none⟩ : Addr).add j) = some u := fun j u hu => by
  match j with
  | 0 => simp [markV] at hu; subst hu; rw [addr_head]; exact blk_cell h rfl
  | 1 => simp [markV] at hu; subst hu; rw [addr_head]; exact blk_cell h rfl
  | j + 2 => simp [markV] at hu

theorem below_append' {H : Nat} {w wr w1 : World} {v : Value} {o : Obj} {e : TypeId} {size n : Nat} {xs : List Value} (hown : wr.ownsRow H e size v n xs) (hb : Below H w wr) (hH : H ≤ w.heap.size) (hg : (wr.alloc o).grownBy w1 v.ownBlock) : Below H w w1 :=
  (hb.alloc (Nat.le_trans hH hb.size) o).grown hg (by have := hb.size; simp; omega) (fun j hj => (hown.lt j hj).1)

set_option maxRecDepth 20000 in
set_option maxHeartbeats 2000000 in
theorem mdlend_any (v : Value) (L : List (Int × ByteArray)) (w : World) (h : ShardsOf w v L) :
    Calls Try.prog 10 #[v] w fun e w' =>
      ∃ g cap, e = .returned (.slice (some ⟨g, 0, none⟩) L.length cap) ∧ w'.ownsRow w.heap.size 50 2 (.slice (some ⟨g, 0, none⟩) (L.length + 1) cap) (L.length + 1) (shV L ++ markV) ∧ Below w.heap.size w w' := by
  obtain ⟨i0, hi, hz0, hz1, hz2⟩ := info_parts Try.infoShard
  obtain ⟨A, c, rfl, hst, hnil, hn24, hmax⟩ := h
  have HSt := Lib.hid hst
  have HN24 : L.length * 24 ≤ 140737488351232 := hn24
  have hOwn : (w.alloc (.cells #[] 50)).ownsRow w.heap.size 50 2 (.slice (some ⟨w.heap.size, 0, none⟩) 0 0) 0 [] := World.ownsRow_lit (base := w.heap.size) (e := 50) (size := 2) w #[] 0 (Nat.le_refl _) (by unfold maxLen; omega) rfl
  have HO := Lib.hid hOwn
  have hB1 : Below w.heap.size w (w.alloc (.cells #[] 50)) := (Below.refl _ w).alloc (Nat.le_refl _) _
  have HB1 := Lib.hid hB1
  have hH1 : w.heap.size ≤ (w.alloc (.cells #[] 50)).heap.size := by simp
  clear hst hmax hn24 hOwn hB1
  cases A with
  | none =>
    obtain ⟨rfl, rfl⟩ := hnil rfl
    have hap := run_append_owned_none (P := Try.prog) _ w.heap.size 22 22 50 i0 2 Try.underlying22 hi _ _ _ HO.out
    clear hnil HN24
    go_enter Try.func10, Try.ntmps10
    go_upto_region 2 with fail
    have HO2 : Hid ((w.alloc (.cells #[] 50)).ownsRow w.heap.size 50 2 (.slice (some ⟨w.heap.size, 0, none⟩) 0 0) 0 []) := HO.out
    have HB2 := HB1
    clear HO HB1 hap HSt hH1
    generalize hW2 : w.alloc (.cells #[] 50) = W2 at HO2 HB2 ⊢
    clear hW2
    go_wp2_with (at_builtin; refine wpList_append_own _ rfl _ _ 22 rfl w.heap.size 50 i0 (.agg #[.int .i64 0, .string ⟨#[]⟩]) 2 24 Try.underlying22 hi hz0 hz1 hz2 rfl (by decide) _ _ _ rfl (HO2.out.alloc _) ⟨W2.heap.size, 0, none⟩ 1 1 markV rfl rfl ?d1 ?d2 ?d3 ?d4 ?d5 ?_)
    case d1 => exact mark_new (heap_alloc_new _ _)
    case d2 => intro q hq; simp [markV] at hq; rcases hq with rfl | rfl <;> rfl
    case d3 => unfold maxLen; omega
    case d4 => omega
    case d5 => have := HB2.out.size; simp; omega
    intro v' w5 hown' hgrow _
    have HB5 := Lib.hid (below_append' HO2.out HB2.out (Nat.le_refl _) hgrow)
    obtain ⟨g, cap, rfl, _, hlt⟩ := World.ownsRow.form hown' (by omega)
    have hcap : 0 + 1 ≤ cap := by
      rcases hown'.2 with ⟨h1, h2⟩ | ⟨g', cap', cur, h1, _, _, h3, _⟩
      · simp at h1
      · simp only [Value.slice.injEq] at h1; omega
    have hcapM : cap ≤ 9223372036854775807 := by
      rcases hown'.2 with ⟨h1, h2⟩ | ⟨g', cap', cur, h1, _, _, _, h3, _⟩
      · simp at h1
      · simp only [Value.slice.injEq] at h1; unfold maxLen at h3; omega
    have HO5 := Lib.hid hown'
    have hcl : (0 : Int) ≤ (cap : Int) := by omega
    have hc0 : ¬ cap = 0 := by omega
    clear hown' hgrow HO2 HB2
    go_wp2_with fail
    go_ret
    exact ⟨g, cap, rfl, HO5.out, HB5.out⟩
  | some ad =>
    clear hnil
    go_enter Try.func10, Try.ntmps10
    go_upto_region 2 with (at_builtin; refine wpList_append_own _ rfl _ _ 22 rfl w.heap.size 50 i0 (.agg #[.int .i64 0, .string ⟨#[]⟩]) 2 24 Try.underlying22 hi hz0 hz1 hz2 rfl (by decide) _ _ _ rfl HO.out ad L.length c (shV L) rfl (shV_len L) ?c1 ?c2 ?c3 ?c4 hH1 ?_)
    case c1 => exact (HSt.out.below ((Below.refl _ w).alloc (Nat.le_refl _) _)).news
    case c2 => exact shV_one L
    case c3 => unfold maxLen; omega
    case c4 => omega
    intro v2 W2 hown hgrow _
    have HB2 : Hid (Below w.heap.size w W2) := HB1.out.grown hgrow hH1 (fun k hk => (World.ownsRow.lt HO.out k hk).1)
    have HO2 := Lib.hid hown
    clear hown hgrow HO HB1 HSt hH1
    go_wp2_with (at_builtin; refine wpList_append_own _ rfl _ _ 22 rfl w.heap.size 50 i0 (.agg #[.int .i64 0, .string ⟨#[]⟩]) 2 24 Try.underlying22 hi hz0 hz1 hz2 rfl (by decide) _ _ _ rfl (HO2.out.alloc _) ⟨W2.heap.size, 0, none⟩ 1 1 markV rfl rfl ?c1 ?c2 ?c3 ?c4 ?c5 ?_)
    case c1 => exact mark_new (heap_alloc_new _ _)
    case c2 => intro q hq; simp [markV] at hq; rcases hq with rfl | rfl <;> rfl
    case c3 => unfold maxLen; omega
    case c4 => omega
    case c5 => have := HB2.out.size; simp; omega
    intro v' w5 hown' hgrow _
    have HB5 := Lib.hid (below_append' HO2.out HB2.out (Nat.le_refl _) hgrow)
    obtain ⟨g, cap, rfl, _, hlt⟩ := World.ownsRow.form hown' (by omega)
    have hcap : L.length + 1 ≤ cap := by
      rcases hown'.2 with ⟨h1, h2⟩ | ⟨g', cap', cur, h1, _, _, h3, _⟩
      · simp at h1
      · simp only [Value.slice.injEq] at h1; omega
    have hcapM : cap ≤ 9223372036854775807 := by
      rcases hown'.2 with ⟨h1, h2⟩ | ⟨g', cap', cur, h1, _, _, _, h3, _⟩
      · simp at h1
      · simp only [Value.slice.injEq] at h1; unfold maxLen at h3; omega
    have HO5 := Lib.hid hown'
    have hcl : (L.length : Int) ≤ (cap : Int) := by omega
    have hc0 : ¬ cap = 0 := by omega
    clear hown' hgrow HO2 HB2
    go_wp2_with fail
    go_ret
    exact ⟨g, cap, rfl, HO5.out, HB5.out⟩

end Go.Proofs.Ytemcjnbgcecinaa
