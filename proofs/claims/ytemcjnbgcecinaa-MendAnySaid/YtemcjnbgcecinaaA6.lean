/- Parts of the proof, joined: StUncut, MatTold, MatLand, MatMark; their conditions stand with each. -/
import Derived.Deep.RegionHeld3
import Derived.Deep.DeepCutAuto
import Derived.Deep.DrawnRows
import Derived.Deep.RegionHeldLaw
import Derived.Deep.RegionWith
import Derived.Shelf.Abstract
import Derived.Laws.IdiomStrings
import Derived.Test.YtemcjnbgcecinaaA3
import Derived.Test.YtemcjnbgcecinaaA5

/- What the landed package stripe does: the object of data shards, and Join; no condition but the range. -/
namespace Go.Proofs.Ytemcjnbgcecinaa
open Go.RowKit

attribute [local go_sem ↓] Go.wp_at_zero Go.wp_at_succ
attribute [local go_sem] floatUpon pick

/-- what the call owns stays owned while no old block is written -/
theorem st_keep {H size n : Nat} {w W : World} {e : TypeId} {v : Value} {xs : List Value} (h : w.ownsRow H e size v n xs) (hb : Below w.heap.size w W) : W.ownsRow H e size v n xs := by
  refine ⟨h.1, ?_⟩
  rcases h.2 with h' | ⟨g, cap, cur, hv, h1, h2, h3⟩
  · exact .inl h'
  · exact .inr ⟨g, cap, cur, hv, h1, (hb.block g (Array.getElem?_eq_some_iff.1 h2).1).trans h2, h3⟩

theorem own_bytes {w : World} {H g n cap : Nat} {L : List UInt8} (h : w.ownsRow H 5 1 (.slice (some ⟨g, 0, none⟩) n cap) n (Lib.byteCells L)) (hn : n = L.length) (lo m c : Nat) (hlo : lo + m ≤ L.length) :
    (convert 48 9 (.slice (some ⟨g, lo, none⟩) m c)).run Try.prog w = .ok (.string ⟨((L.drop lo).take m).toArray⟩) w := by
  have hlen : ((L.drop lo).take m).length = m := by rw [List.length_take, List.length_drop]; omega
  have := run_convert_bytes_back (P := Try.prog) w 48 9 5 ⟨g, lo, none⟩ c ((L.drop lo).take m) Try.underlying48 Try.underlying5 Try.underlying9 (fun j hj => by
    have hj' : j < m := by rw [hlen] at hj; exact hj
    have hadd : (⟨g, lo, none⟩ : Addr).add j = ⟨g, lo + j, none⟩ := by unfold Addr.add; split <;> simp_all
    rw [hadd, World.ownsRow.cellAt h (lo + j) (by omega)]
    unfold Lib.byteCells
    rw [List.getElem?_map, List.getElem?_eq_getElem (by omega), Option.map_some, List.getElem_take, List.getElem_drop])
  rwa [hlen] at this

theorem own_all {w : World} {H g n cap : Nat} {L : List UInt8} (h : w.ownsRow H 5 1 (.slice (some ⟨g, 0, none⟩) n cap) n (Lib.byteCells L)) (hn : n = L.length) :
    (convert 48 9 (.slice (some ⟨g, 0, none⟩) n cap)).run Try.prog w = .ok (.string ⟨L.toArray⟩) w := by
  have := own_bytes h hn 0 n cap (by omega)
  rw [List.drop_zero, List.take_of_length_le (by omega)] at this
  exact this

/-- 'all[4:4+m]', and its text -/
theorem cut_string {w : World} {H g n cap : Nat} {L : List UInt8} (h : w.ownsRow H 5 1 (.slice (some ⟨g, 0, none⟩) n cap) n (Lib.byteCells L)) (hn : n = L.length) (m : Nat) (hm : 4 + m ≤ L.length) :
    ∃ A c, (∀ (i : Int) (W : World), i = 4 + (m : Int) → (Instr.slice 48 (.slice (some ⟨g, 0, none⟩) n cap) (some (.int .i64 4)) (some (.int .i64 i)) none).run Try.prog W = .ok (.slice A m c) W) ∧
      (convert 48 9 (.slice A m c)).run Try.prog w = .ok (.string ⟨((L.drop 4).take m).toArray⟩) w := by
  have hcap : n ≤ cap := by
    rcases h.2 with ⟨h1, h2⟩ | ⟨g', cap', cur, h1, _, _, h3, _⟩
    · simp at h1
    · simp only [Value.slice.injEq] at h1; omega
  by_cases h4 : cap = 4
  · obtain rfl : m = 0 := by omega
    refine ⟨some ⟨g, 0, none⟩, 0, fun i W hi => ?_, ?_⟩
    · subst hi
      rw [run_slice_lh W 48 _ n cap (by kernel_rfl) .i64 .i64 _ _ (by omega) (by omega) (by omega), bytes_size]
      simp only [Result.andThen, sliced, h4, Int.natCast_zero, Int.add_zero, show (4 : Int).toNat = 4 from rfl, if_true, Nat.sub_self, Nat.mul_one]
    · have := own_bytes h hn 0 0 0 (by omega)
      rw [List.take_zero] at this ⊢
      exact this
  · refine ⟨some ⟨g, 4, none⟩, cap - 4, fun i W hi => ?_, own_bytes h hn 4 m (cap - 4) hm⟩
    have := slice_mid 48 (by kernel_rfl) bytes_size g n cap 4 (4 + m) (by omega) (by omega) (by omega) 4 i rfl (by omega) W
    rw [show 4 + m - 4 = m by omega] at this
    exact this

/-- what the object of data shards is told to be -/
def UncutAns (l : List ByteArray) (e : Ending) : Prop := match St.uncut l.length (St.joinL l) with
  | some s => e = .returned (.tuple #[.string s, .bool true])
  | none => ∃ o, e = .returned (.tuple #[.string o, .bool false])

theorem bytes_eq {X Y : List UInt8} : ((⟨X.toArray⟩ : ByteArray) = ⟨Y.toArray⟩) ↔ X = Y := ⟨fun h => by injection h with h; simpa using h, fun h => by rw [h]⟩

set_option maxRecDepth 100000 in
set_option maxHeartbeats 4000000 in
theorem uncut_any (A : Option Addr) (c : Nat) (l : List ByteArray) (w : World) (h : StrsAt w A l) (hpos : 1 ≤ l.length) (hn : l.length ≤ 255) (hE : St.Even l) (hmax : ∀ s ∈ l, s.size ≤ 9223372036854775807) :
    Calls Try.prog 57 #[.slice A l.length c] w fun e w' => UncutAns l e ∧ Below w.heap.size w w' := by
  obtain ⟨ad, rfl, hab, hc⟩ := h hpos
  have c0 : w.cell? ad = some (.string (l[0]'hpos)) := by have := hc 0 (by omega); rwa [add_zero'] at this
  have hd0 : l.headD ⟨#[]⟩ = l[0] := by cases l with | nil => simp at hpos | cons x r => rfl
  have hel : (St.joinL l).length = l.length * l[0].size := by have := St.even_len l hE; rwa [hd0] at this
  have hev : ∀ s ∈ l, s.size = l[0].size := fun s hs => by have := hE s hs; rwa [hd0] at this
  have HA := Lib.hid h
  have p0 : (0 : Int) < (l.length : Int) := by omega
  have p0n : 0 < l.length := hpos
  have hm0 := hmax l[0] (List.getElem_mem _)
  have hsz := St.sz_bound1 (k := l.length) hpos (Nat.le_refl 2048)
  have HSmall := Lib.hid (St.sz_bound1 (k := l.length) hpos (Nat.le_refl 2048))
  have HOK : Hid (w.cell? ad = some (.string l[0]) ∧ ad.block < w.heap.size) := ⟨c0, hab⟩
  clear hmax hE hd0 hc c0
  go_enter Try.func57, Try.ntmps57
  go_upto_region 1 with fail
  refine wp_region_said 8 [8, 9, 10, 11, 12, 13, 14, 15]
    [.is (.slice (some ad) l.length c), .is (.pointer (some ad)), .is (.string l[0]), .is (.int .i64 (l[0].size : Int)), .is (.slice (some ad) l.length c), .is (.int .i64 (l.length : Int)), .is (.int .i64 ((St.szN l.length 2048 : Nat) : Int)), .is (.bool (decide (((St.szN l.length 2048 : Nat) : Int) < (l[0].size : Int))))]
    (fun W => W.cell? ad = some (.string l[0]) ∧ ad.block < W.heap.size) (by kernel_rfl) (by kernel_rfl) (by kernel_rfl) (by kernel_rfl) (by kernel_rfl)
    (fun W W' h hb => ⟨(hb.cell h.2).trans h.1, Nat.lt_of_lt_of_le h.2 hb.size⟩) HOK.out ?steps ?last
  case steps =>
    simp only [List.take_succ_cons, List.take_zero]
    refine ⟨?_, ?_, ?_, ?_, ?_, ?_, ?_, ?_, trivial⟩
    all_goals
      intro vs W ρ hρ hc hf hg hI hH hd R hR
      obtain ⟨c0, _⟩ := hI
      have HR := Lib.hid hR
      simp [depsOf, Region.binds, sayAt, Say.holds] at hd
      clear hR
      go_simp
      first
        | exact HR.out _ _ (by simp [sayAt, Say.holds]) (Below.refl _ _) (by simp [sayAt, Say.isBlk])
        | (refine (size_any l.length 2048 _ hpos (by omega) (by omega)).mono ?_; rintro e w' ⟨rfl, rfl⟩; exact ⟨_, rfl, HR.out _ _ (by simp [sayAt, Say.holds]) (Below.refl _ _) (by simp [sayAt, Say.isBlk])⟩)
        | trace_state
  case last =>
    intro vs W1 hI hb1 hg hd
    have g7 := hg 7 (by omega)
    simp only [sayAt, Say.holds, List.getD_cons_succ, List.getD_cons_zero] at g7
    simp only [List.take_succ_cons, List.take_zero, List.drop_succ_cons, List.drop_zero, putAll, Act.put, List.setIfInBounds_toArray, List.set_cons_succ, List.set_cons_zero, Nat.zero_add, Nat.reduceAdd]
    rw [g7]
    have HB1 := Lib.hid hb1
    clear g7 hg hd hI hb1 HOK
    by_cases hbig : St.szN l.length 2048 < l[0].size
    · have hb : decide (((St.szN l.length 2048 : Nat) : Int) < (l[0].size : Int)) = true := by simp; omega
      have E : Hid (∀ o e, e = Ending.returned (.tuple #[.string o, .bool false]) → UncutAns l e) := fun o e he => by
        unfold UncutAns
        rw [St.uncut_long hpos hel hbig]
        exact ⟨o, he⟩
      rw [hb]
      clear hbig hb
      go_wp2_with fail
      go_ret2
      exact ⟨E.out _ _ rfl, HB1.out⟩
    · have hb : decide (((St.szN l.length 2048 : Nat) : Int) < (l[0].size : Int)) = false := by simp; omega
      rw [hb]
      have HL := Lib.hid (fun w' h => lay_any (some ad) c l w' h hn fun s hs => by rw [hev s hs]; have := HSmall.out; omega)
      have hlen : (St.joinL l).length ≤ 255 * 2052 := by rw [hel]; exact Nat.mul_le_mul hn (by have := HSmall.out; omega)
      clear hbig hb hel hev
      go_wp2_with fail
      refine (HL.out _ (HA.out.below HB1.out)).mono ?_
      rintro e w2 ⟨v, rfl, hown, hb2⟩
      have B2 := Lib.hid (HB1.out.trans (hb2.mono HB1.out.size))
      obtain ⟨L, hL⟩ : ∃ L, L = St.joinL l := ⟨_, rfl⟩
      rw [← hL] at hown hlen
      have HLJ := Lib.hid hL
      have HO := Lib.hid hown
      clear hown hb2 HB1 hL HL
      go_wp2_with fail
      have hUA : ∀ o e, (match St.uncut l.length L with | some s => e = Ending.returned (.tuple #[.string s, .bool true]) | none => e = Ending.returned (.tuple #[.string o, .bool false])) → UncutAns l e := fun o e he => by
        unfold UncutAns
        rw [← HLJ.out]
        cases hu : St.uncut l.length L with
        | some s => rw [hu] at he; exact he
        | none => rw [hu] at he; exact ⟨o, he⟩
      have HUA := Lib.hid hUA
      clear hUA
      by_cases hbad : L.length < 4 ∨ 2048 < St.numL L ∨ L.length - 4 < St.numL L
      · have hla : lenAns L = .tuple #[.int .i64 0, .bool false] := by unfold lenAns; rw [if_pos hbad]
        have E : Hid (∀ e, e = Ending.returned (.tuple #[.string ⟨#[]⟩, .bool false]) → UncutAns l e) := fun e he => by
          refine HUA.out ⟨#[]⟩ e ?_
          have : St.uncut l.length L = none := by
            unfold St.uncut
            by_cases h4 : L.length < 4
            · rw [if_pos h4]
            · rw [if_neg h4, if_pos (hbad.resolve_left h4)]
          rw [this]; exact he
        have hc := length_any _ v L w2 HO.out (by omega)
        rw [hla] at hc
        have HC := Lib.hid hc
        clear hbad hc hla
        refine (HC.out).mono ?_
        rintro e w3 ⟨rfl, rfl⟩
        go_wp2_with fail
        go_ret2
        exact ⟨E.out _ rfl, B2.out⟩
      · obtain ⟨m, hm⟩ : ∃ m, m = St.numL L := ⟨_, rfl⟩
        have hla : lenAns L = .tuple #[.int .i64 (m : Int), .bool true] := by unfold lenAns; rw [if_neg hbad, hm]
        have hc := length_any _ v L w2 HO.out (by omega)
        rw [hla] at hc
        have HC := Lib.hid hc
        rw [← hm] at hbad
        have h4 : 4 + m ≤ L.length := by omega
        have hm2 : m ≤ 2048 := by omega
        have hUV : Hid (∀ o, o = (⟨((L.drop 4).take m).toArray⟩ : ByteArray) → St.uncut l.length L = if St.plainL l.length o = L then some o else none) := fun o ho => by
          subst ho
          unfold St.uncut
          rw [← hm, if_neg (by omega), if_neg (by omega)]
        obtain ⟨g, cap, rfl, _, hgl⟩ := World.ownsRow.form HO.out (by omega)
        obtain ⟨A, cc, hsl, hcv⟩ := cut_string HO.out rfl m h4
        have hsl' := fun W => hsl (4 + (m : Int)) W rfl
        obtain ⟨o, ho⟩ : ∃ o : ByteArray, o = ⟨((L.drop 4).take m).toArray⟩ := ⟨_, rfl⟩
        rw [← ho] at hcv
        have hos : o.size ≤ 2048 := by
          rw [ho]
          show ((L.drop 4).take m).toArray.size ≤ 2048
          rw [List.size_toArray, List.length_take]; omega
        have HUV := Lib.hid (hUV.out o ho)
        clear hbad hc hla hm hsl hUV ho h hgl
        refine (HC.out).mono ?_
        rintro e w3 ⟨rfl, rfl⟩
        go_upto_region 8 with fail
        have HPL := Lib.hid (fun w => plain_any l.length o w hpos hn hos)
        have hpn := St.plain_len (k := l.length) hpos o
        obtain ⟨P, hP⟩ : ∃ P, P = St.plainL l.length o := ⟨_, rfl⟩
        obtain ⟨N, hN⟩ : ∃ N, N = l.length * St.szN l.length o.size := ⟨_, rfl⟩
        rw [← hP] at hpn HPL
        rw [← hN] at hpn HPL
        have HP := Lib.hid hP
        have HPN := Lib.hid hpn
        clear hpn hP hN hsl' hcv
        refine wp_region_said 10 [30, 31, 32, 33, 34, 35, 36, 37, 38, 2]
          [.is (.string o), .is (.slice (some ad) l.length c), .is (.int .i64 (l.length : Int)), .is (.string o), .arr 5 (Lib.byteCells P).toArray N N, .is (.string ⟨P.toArray⟩), .is (.slice (some ⟨g, 0, none⟩) L.length cap), .is (.string ⟨L.toArray⟩), .is (.bool (P == L)), .is (.string o)]
          (fun W => W.ownsRow _ 5 1 (.slice (some ⟨g, 0, none⟩) L.length cap) L.length (Lib.byteCells L)) (by kernel_rfl) (by kernel_rfl) (by kernel_rfl) (by kernel_rfl) (by kernel_rfl)
          (fun W W' h hb => st_keep h hb) HO.out ?steps ?last
        case steps =>
          simp only [List.take_succ_cons, List.take_zero]
          refine ⟨?_, ?_, ?_, ?_, ?_, ?_, ?_, ?_, ?_, ?_, trivial⟩
          · intro vs W ρ hρ hc hf hg hI hH hd R hR
            have HR := Lib.hid hR
            simp [depsOf, Region.binds, sayAt, Say.holds] at hd
            clear hR
            go_simp
            exact HR.out _ _ (by simp [sayAt, Say.holds]) (Below.refl _ _) (by simp [sayAt, Say.isBlk])
          · intro vs W ρ hρ hc hf hg hI hH hd R hR
            have HR := Lib.hid hR
            simp [depsOf, Region.binds, sayAt, Say.holds] at hd
            clear hR
            go_simp
            exact HR.out _ _ (by simp [sayAt, Say.holds]) (Below.refl _ _) (by simp [sayAt, Say.isBlk])
          · intro vs W ρ hρ hc hf hg hI hH hd R hR
            have HR := Lib.hid hR
            simp [depsOf, Region.binds, sayAt, Say.holds] at hd
            clear hR
            go_simp
            exact HR.out _ _ (by simp [sayAt, Say.holds]) (Below.refl _ _) (by simp [sayAt, Say.isBlk])
          · intro vs W ρ hρ hc hf hg hI hH hd R hR
            have HR := Lib.hid hR
            simp [depsOf, Region.binds, sayAt, Say.holds] at hd
            clear hR
            go_simp
            exact HR.out _ _ (by simp [sayAt, Say.holds]) (Below.refl _ _) (by simp [sayAt, Say.isBlk])
          · intro vs W ρ hρ hc hf hg hI hH hd R hR
            have HR := Lib.hid hR
            simp [depsOf, Region.binds, sayAt, Say.holds] at hd
            clear hR
            go_simp
            refine (HPL.out _).mono ?_
            rintro e w' ⟨rfl, hblk, hb⟩
            exact ⟨_, rfl, HR.out _ _ ⟨_, hH, (Array.getElem?_eq_some_iff.1 hblk).1, rfl, hblk⟩ hb (by simp [sayAt, Say.isBlk])⟩
          · intro vs W ρ hρ hc hf hg hI hH hd R hR
            have HR := Lib.hid hR
            simp [depsOf, Region.binds, sayAt, Say.holds] at hd
            clear hR
            obtain ⟨p, hp1, hp2, hv, hblk⟩ := hd
            have hcv2 := bytes_string hblk 0 N N (by rw [HPN.out]; omega)
            rw [List.drop_zero, List.take_of_length_le (by rw [HPN.out]; omega)] at hcv2
            go_simp
            exact HR.out _ _ (by simp [sayAt, Say.holds]) (Below.refl _ _) (by simp [sayAt, Say.isBlk])
          · intro vs W ρ hρ hc hf hg hI hH hd R hR
            have HR := Lib.hid hR
            simp [depsOf, Region.binds, sayAt, Say.holds] at hd
            clear hR
            go_simp
            exact HR.out _ _ (by simp [sayAt, Say.holds]) (Below.refl _ _) (by simp [sayAt, Say.isBlk])
          · intro vs W ρ hρ hc hf hg hI hH hd R hR
            have HR := Lib.hid hR
            simp [depsOf, Region.binds, sayAt, Say.holds] at hd
            clear hR
            have hcv2 := own_all hI rfl
            go_simp
            exact HR.out _ _ (by simp [sayAt, Say.holds]) (Below.refl _ _) (by simp [sayAt, Say.isBlk])
          · intro vs W ρ hρ hc hf hg hI hH hd R hR
            have HR := Lib.hid hR
            simp [depsOf, Region.binds, sayAt, Say.holds] at hd
            clear hR
            go_simp
            exact HR.out _ _ (by simp [sayAt, Say.holds]) (Below.refl _ _) (by simp [sayAt, Say.isBlk])
          · intro vs W ρ hρ hc hf hg hI hH hd R hR
            have HR := Lib.hid hR
            simp [depsOf, Region.binds, sayAt, Say.holds] at hd
            clear hR
            go_simp
            exact HR.out _ _ (by simp [sayAt, Say.holds]) (Below.refl _ _) (by simp [sayAt, Say.isBlk])
        case last =>
          intro vs W4 hI hb4 hg hd
          have g8 := hg 8 (by omega)
          have g9 := hg 9 (by omega)
          simp only [sayAt, Say.holds, List.getD_cons_succ, List.getD_cons_zero] at g8 g9
          simp only [List.take_succ_cons, List.take_zero, List.drop_succ_cons, List.drop_zero, putAll, Act.put, List.setIfInBounds_toArray, List.set_cons_succ, List.set_cons_zero, Nat.zero_add, Nat.reduceAdd]
          rw [g8, g9]
          have B4 := Lib.hid (B2.out.trans (hb4.mono B2.out.size))
          clear g8 g9 hg hd hI hb4
          have E : Hid (∀ e, e = Ending.returned (.tuple #[.string o, .bool (P == L)]) → UncutAns l e) := fun e he => by
            refine HUA.out o e ?_
            rw [HUV.out, ← HP.out]
            by_cases hpl : P = L
            · rw [if_pos hpl]
              rw [show (P == L) = true by simpa using hpl] at he
              exact he
            · rw [if_neg hpl]
              rw [show (P == L) = false by simpa using hpl] at he
              exact he
          generalize (P == L) = bq at E ⊢
          go_wp2_with fail
          go_ret2
          exact ⟨E.out _ rfl, B4.out⟩

/-- what Join answers -/
def joinV (l : List ByteArray) : Value := .tuple #[.string (St.joinAns l).1, .int .i64 ((St.joinAns l).2 : Int)]

set_option maxRecDepth 20000 in
set_option maxHeartbeats 1000000 in
theorem join_any (A : Option Addr) (c : Nat) (l : List ByteArray) (w : World) (h : StrsAt w A l) (hn : l.length ≤ 9223372036854775807) (hmax : ∀ s ∈ l, s.size ≤ 9223372036854775807) :
    Calls Try.prog 36 #[.slice A l.length c] w fun e w' => e = .returned (joinV l) ∧ Below w.heap.size w w' := by
  by_cases hr : l.length < 1 ∨ 255 < l.length
  · have E := Lib.hid (show joinV l = .tuple #[.string ⟨#[]⟩, .int .i64 1] by unfold joinV St.joinAns; rw [if_pos hr]; rfl)
    have hc := isCode_any (l.length : Int) 0 w
    rw [show codeB (l.length : Int) 0 = false by unfold codeB; simp; omega] at hc
    have HC := Lib.hid hc
    clear hr h hmax hc
    go_enter Try.func36, Try.ntmps36
    go_wp2_with fail
    refine HC.out.mono ?_
    rintro e w' ⟨rfl, rfl⟩
    go_wp2_with fail
    go_ret2
    exact ⟨by rw [E.out]; rfl, Below.refl _ _⟩
  · have hc := isCode_any (l.length : Int) 0 w
    rw [show codeB (l.length : Int) 0 = true by unfold codeB; simp; omega] at hc
    have HC := Lib.hid hc
    have hpos : 1 ≤ l.length := by omega
    have he := even_any A c l w h hpos hn
    have HA := Lib.hid h
    by_cases hE : St.Even l
    · rw [show decide (St.Even l) = true by simpa using hE] at he
      have HEv := Lib.hid he
      have hu := uncut_any A c l w h hpos (by omega) hE hmax
      have HU := Lib.hid hu
      have E : Hid (∀ e, UncutAns l e → ∃ o b, e = .returned (.tuple #[.string o, .bool b]) ∧ ((b = true ∧ joinV l = .tuple #[.string o, .int .i64 0]) ∨ (b = false ∧ joinV l = .tuple #[.string ⟨#[]⟩, .int .i64 41]))) := fun e he => by
        unfold UncutAns at he
        unfold joinV St.joinAns
        rw [if_neg hr, if_neg (fun z => z hE)]
        cases hx : St.uncut l.length (St.joinL l) with
        | some s => rw [hx] at he; exact ⟨s, true, he, .inl ⟨rfl, rfl⟩⟩
        | none => rw [hx] at he; obtain ⟨o, ho⟩ := he; exact ⟨o, false, ho, .inr ⟨rfl, rfl⟩⟩
      clear hr h hmax hc he hu hE
      go_enter Try.func36, Try.ntmps36
      go_wp2_with fail
      refine HC.out.mono ?_
      rintro e w' ⟨rfl, rfl⟩
      go_wp2_with fail
      refine HEv.out.mono ?_
      rintro e w' ⟨rfl, rfl⟩
      go_wp2_with fail
      refine HU.out.mono ?_
      rintro e w2 ⟨hans, hb⟩
      have HB := Lib.hid hb
      obtain ⟨o, b, rfl, ⟨rfl, hj⟩ | ⟨rfl, hj⟩⟩ := E.out e hans
      · have HJ := Lib.hid hj
        clear hans hb hj
        go_wp2_with fail
        go_ret2
        exact ⟨by rw [HJ.out]; rfl, HB.out⟩
      · have HJ := Lib.hid hj
        clear hans hb hj
        go_wp2_with fail
        go_ret2
        exact ⟨by rw [HJ.out]; rfl, HB.out⟩
    · rw [show decide (St.Even l) = false by simpa using hE] at he
      have HEv := Lib.hid he
      have E := Lib.hid (show joinV l = .tuple #[.string ⟨#[]⟩, .int .i64 4] by unfold joinV St.joinAns; rw [if_neg hr, if_pos hE]; rfl)
      clear hr h hmax hc he hE
      go_enter Try.func36, Try.ntmps36
      go_wp2_with fail
      refine HC.out.mono ?_
      rintro e w' ⟨rfl, rfl⟩
      go_wp2_with fail
      refine HEv.out.mono ?_
      rintro e w' ⟨rfl, rfl⟩
      go_wp2_with fail
      go_ret2
      exact ⟨by rw [E.out]; rfl, Below.refl _ _⟩

end Go.Proofs.Ytemcjnbgcecinaa

/- What the laws' walks are told of the package's functions (each is proved of the landed code elsewhere). -/
namespace Go.Proofs.Ytemcjnbgcecinaa
open Go.RowKit

/-- a matrix stands in block p -/
abbrev MatAt (w : World) (p : Nat) (r c : Int) (s : ByteArray) : Prop :=
  w.cell? ⟨p, 0, none⟩ = some (.int .i64 r) ∧ w.cell? ⟨p, 1, none⟩ = some (.int .i64 c) ∧ w.cell? ⟨p, 2, none⟩ = some (.string s) ∧ p < w.heap.size

theorem matAt_below {w w' : World} {p : Nat} {r c : Int} {s : ByteArray} (h : MatAt w p r c s) (hb : Below w.heap.size w w') : MatAt w' p r c s :=
  ⟨(hb.cell (p := ⟨p, 0, none⟩) h.2.2.2).trans h.1, (hb.cell (p := ⟨p, 1, none⟩) h.2.2.2).trans h.2.1, (hb.cell (p := ⟨p, 2, none⟩) h.2.2.2).trans h.2.2.1, Nat.lt_of_lt_of_le h.2.2.2 hb.size⟩

theorem matAt_new (w : World) (r c : Int) (s : ByteArray) (T : TypeId) : MatAt (w.alloc (.cells #[.int .i64 r, .int .i64 c, .string s] T)) w.heap.size r c s :=
  ⟨World.cell?_alloc_new _ _ _ _, World.cell?_alloc_new _ _ _ _, World.cell?_alloc_new _ _ _ _, by simp⟩

theorem matAt_alloc {w : World} {p : Nat} {r c : Int} {s : ByteArray} (h : MatAt w p r c s) (o : Obj) : MatAt (w.alloc o) p r c s :=
  matAt_below h ((Below.refl _ w).alloc (Nat.le_refl _) o)

theorem matAt_drew {w : World} {p : Nat} {r c : Int} {s : ByteArray} (h : MatAt w p r c s) : MatAt w.drew p r c s := h

/-- what Inverse answers of a square matrix -/
def InvRes (n : Nat) (s : ByteArray) (e : Ending) : Prop :=
  (∃ R, e = .returned (.tuple #[.agg #[.int .i64 (n : Int), .int .i64 (n : Int), .string ⟨(tabL n n R).toArray⟩], .int .i64 0]) ∧ GfU.sq n (GfU.mm n R (cel s n)) GfU.one ∧ GfU.sq n (GfU.mm n (cel s n) R) GfU.one) ∨
  (e = .returned (.tuple #[.agg #[.int .i64 0, .int .i64 0, .string ⟨#[]⟩], .int .i64 20]) ∧ GfU.Sing n (cel s n))

def InvYes : Prop := ∀ (n : Nat) (s : ByteArray) (w : World), 1 ≤ n → n ≤ 255 → s.size = n * n →
  Calls Try.prog 46 #[.agg #[.int .i64 (n : Int), .int .i64 (n : Int), .string s]] w fun e w' => InvRes n s e ∧ Below w.heap.size w w'

def MulYes : Prop := ∀ (ra ca cb : Nat) (a b : ByteArray) (w : World), 1 ≤ ra → ra ≤ 255 → 1 ≤ ca → ca ≤ 255 → 1 ≤ cb → cb ≤ 255 → a.size = ra * ca → b.size = ca * cb →
  Calls Try.prog 78 #[.agg #[.int .i64 (ra : Int), .int .i64 (ca : Int), .string a], .agg #[.int .i64 (ca : Int), .int .i64 (cb : Int), .string b]] w fun e w' =>
    e = .returned (.tuple #[.agg #[.int .i64 (ra : Int), .int .i64 (cb : Int), .string ⟨(tabL ra cb (timesF ca cb a b)).toArray⟩], .int .i64 0]) ∧ Below w.heap.size w w'

end Go.Proofs.Ytemcjnbgcecinaa

/- What the landed package matrix does, its small functions: sides, an identity's cells, Check, a row's text, fill; no condition but the range. -/
namespace Go.Proofs.Ytemcjnbgcecinaa
open Go.RowKit

theorem isSide_v (n : Int) (b : Bool) (w : World) (h : decide (1 ≤ n ∧ n ≤ 255) = b) :
    Calls Try.prog 64 #[.int .i64 n] w fun e w' => e = .returned (.bool b) ∧ w' = w := by
  by_cases h1 : 1 ≤ n
  · by_cases h2 : n ≤ 255
    · obtain rfl : b = true := by rw [← h]; simp [h1, h2]
      clear h
      go_enter Try.func64, Try.ntmps64
      go_wp2
      go_ret
      exact ⟨rfl, rfl⟩
    · obtain rfl : b = false := by rw [← h]; simp [h2]
      clear h
      go_enter Try.func64, Try.ntmps64
      go_wp2
      go_ret
      exact ⟨rfl, rfl⟩
  · obtain rfl : b = false := by rw [← h]; simp [h1]
    clear h
    go_enter Try.func64, Try.ntmps64
    go_wp2
    go_ret
    exact ⟨rfl, rfl⟩

theorem unit_any (i j : Nat) (w : World) (_hi : i < 1000) (_hj : j < 1000) :
    Calls Try.prog 67 #[.int .i64 (i : Int), .int .i64 (j : Int)] w fun e w' => e = .returned (.int .u8 ((GfU.one i j).toNat : Int)) ∧ w' = w := by
  by_cases h : i = j
  · have E : Hid (((GfU.one i j).toNat : Int) = 1) := by show _ = _; unfold GfU.one; rw [if_pos h]; rfl
    have t : ((i : Int) == (j : Int)) = true := by simp [h]
    clear h
    go_enter Try.func67, Try.ntmps67
    go_wp2
    go_ret
    exact ⟨by rw [E.out]; rfl, rfl⟩
  · have E : Hid (((GfU.one i j).toNat : Int) = 0) := by show _ = _; unfold GfU.one; rw [if_neg h]; rfl
    have t : ((i : Int) == (j : Int)) = false := by simp; omega
    clear h
    go_enter Try.func67, Try.ntmps67
    go_wp2
    go_ret
    exact ⟨by rw [E.out]; rfl, rfl⟩

set_option maxRecDepth 20000 in
set_option maxHeartbeats 1000000 in
theorem check_any (r c : Int) (s : ByteArray) (w : World) :
    Calls Try.prog 69 #[.agg #[.int .i64 r, .int .i64 c, .string s]] w fun e w' => e = .returned (.int .i64 ((chk r c s : Nat) : Int)) ∧ Below w.heap.size w w' := by
  cases hr : decide (1 ≤ r ∧ r ≤ 255)
  · have E : Hid (chk r c s = 4) := if_neg (fun h => by unfold may at h; simp at hr; omega)
    go_enter Try.func69, Try.ntmps69
    go_wp2_with (go_at_call 64; refine (isSide_v _ _ _ (by assumption)).mono ?_; rintro e w' ⟨rfl, rfl⟩)
    go_ret
    exact ⟨by rw [E.out]; rfl, (Below.refl _ _).alloc (Nat.le_refl _) _⟩
  cases hc : decide (1 ≤ c ∧ c ≤ 255)
  · have E : Hid (chk r c s = 4) := if_neg (fun h => by unfold may at h; simp at hc; omega)
    go_enter Try.func69, Try.ntmps69
    go_wp2_with (go_at_call 64; refine (isSide_v _ _ _ (by assumption)).mono ?_; rintro e w' ⟨rfl, rfl⟩)
    go_ret
    exact ⟨by rw [E.out]; rfl, (Below.refl _ _).alloc (Nat.le_refl _) _⟩
  obtain ⟨r1, r2⟩ := of_decide_eq_true hr
  obtain ⟨c1, c2⟩ := of_decide_eq_true hc
  obtain ⟨p1, p2⟩ := prod_rng (r := r) (c := c) (by omega) (by omega) (by omega) (by omega)
  by_cases h5 : (s.size : Int) = r * c
  · have E : Hid (chk r c s = 0) := if_pos ⟨by omega, by omega, by omega, by omega, h5⟩
    have t5 : ((s.size : Int) != r * c) = false := by simp [h5]
    clear h5
    go_enter Try.func69, Try.ntmps69
    go_wp2_with (go_at_call 64; refine (isSide_v _ _ _ (by assumption)).mono ?_; rintro e w' ⟨rfl, rfl⟩)
    go_ret
    exact ⟨by rw [E.out]; rfl, (Below.refl _ _).alloc (Nat.le_refl _) _⟩
  · have E : Hid (chk r c s = 4) := if_neg (fun h => h5 h.2.2.2.2)
    have t5 : ((s.size : Int) != r * c) = true := by simpa using h5
    clear h5
    go_enter Try.func69, Try.ntmps69
    go_wp2_with (go_at_call 64; refine (isSide_v _ _ _ (by assumption)).mono ?_; rintro e w' ⟨rfl, rfl⟩)
    go_ret
    exact ⟨by rw [E.out]; rfl, (Below.refl _ _).alloc (Nat.le_refl _) _⟩

/-- the bytes of a row -/
def rowS (s : ByteArray) (c i : Nat) : ByteArray := s.extract (i * c) ((i + 1) * c)

set_option maxRecDepth 20000 in
set_option maxHeartbeats 1000000 in
theorem cells_any (r c i : Nat) (s : ByteArray) (w : World) (hr : r ≤ 255) (hc : c ≤ 255) (hi : i < r) (hs : s.size = r * c) :
    Calls Try.prog 71 #[.agg #[.int .i64 (r : Int), .int .i64 (c : Int), .string s], .int .i64 (i : Int)] w fun e w' => e = .returned (.string (rowS s c i)) ∧ Below w.heap.size w w' := by
  have h1 : (i + 1) * c ≤ r * c := Nat.mul_le_mul_right c hi
  have h2 : r * c ≤ 255 * 255 := Nat.mul_le_mul hr hc
  have h3 : i * c ≤ (i + 1) * c := Nat.mul_le_mul_right c (by omega)
  have q1 : (i : Int) * (c : Int) = ((i * c : Nat) : Int) := by rw [Int.natCast_mul]
  have q2 : ((i : Int) + 1) * (c : Int) = (((i + 1) * c : Nat) : Int) := by rw [Int.natCast_mul]; rfl
  have E : Hid (rowS s c i = s.extract (i * c) ((i + 1) * c)) := rfl
  have HS := Lib.hid hs
  generalize hA : i * c = A at *
  generalize hB : (i + 1) * c = B at *
  have hsz : B ≤ s.size := by omega
  have b1 : B ≤ 65025 := by omega
  clear hs h1 h2 hA hB
  go_enter Try.func71, Try.ntmps71
  go_wp2
  go_ret
  exact ⟨by rw [E.out]; rfl, (Below.refl _ _).alloc (Nat.le_refl _) _⟩

theorem owns_any {w w' : World} {H n : Nat} {v : Value} {e : TypeId} {xs : List Value} (h : w.ownsRow H e 1 v n xs) (hb : Below w.heap.size w w') : w'.ownsRow H e 1 v n xs :=
  h.kept (row := none) ⟨hb.os, hb.tape, hb.output, hb.size, fun k hk _ => hb.block k hk⟩ (by cases hv : v.ownBlock <;> simp)

/-- a function value tells the cells of a table, in each world that comes after W -/
def Gives2 (K : Nat) (fst cap : Array Value) (W : World) (n c : Nat) (f : Nat → Nat → UInt8) : Prop :=
  ∀ (i j : Nat) (w : World), i < n → j < c → Below W.heap.size W w →
    Calls Try.prog K (fst ++ (#[.int .i64 (i : Int), .int .i64 (j : Int)] ++ cap)) w fun e w' => e = .returned (.int .u8 ((f i j).toNat : Int)) ∧ Below w.heap.size w w'

set_option maxRecDepth 20000 in
set_option maxHeartbeats 2000000 in
theorem fill_any (K : Nat) (fst cap : Array Value) (n c : Nat) (f : Nat → Nat → UInt8) (w : World) (h1 : 1 ≤ n) (h2 : n ≤ 255) (h3 : 1 ≤ c) (h4 : c ≤ 255)
    (eg : ∀ args w, (callFunc K args).run Try.prog w = .ok (.enter K args) w) (hg : Gives2 K fst cap w n c f) :
    Calls Try.prog 65 #[.int .i64 (n : Int), .int .i64 (c : Int), .func (.func K) fst cap] w fun e w' =>
      e = .returned (.agg #[.int .i64 (n : Int), .int .i64 (c : Int), .string ⟨(tabL n c f).toArray⟩]) ∧ Below w.heap.size w w' := by
  obtain ⟨i0, hi, hz0, hz1, hz2'⟩ := info_parts Try.infoU8
  have hN : n * c ≤ 65025 := Nat.mul_le_mul h2 h4
  have hN1 : 1 ≤ n * c := Nat.mul_le_mul h1 h3
  have G := Lib.hid hg
  clear hg
  go_enter Try.func65, Try.ntmps65
  go_wp2_with (at_make; refine wpList_make_own _ rfl _ (.tmp 12) 48 rfl (w.heap.size + 1) 5 i0 (.int .u8 0) 1 Try.underlying48 hi hz0 hz1 .i64 .i64 _ (n * c) rfl rfl (Int.natCast_mul n c).symm (by rw [hz2']; omega) (by unfold maxLen; omega) (by simp) ?_; intro w1 hown hgrow)
  have hs0 : (w.alloc (.cells #[.int .i64 0, .int .i64 0, .string ⟨#[]⟩] 59)).heap.size = w.heap.size + 1 := by simp
  have bZ0 := (blk1 w (.cells #[.int .i64 0, .int .i64 0, .string ⟨#[]⟩] 59)).2
  have HB0 : Hid (Below (w.heap.size + 1) (w.alloc (.cells #[.int .i64 0, .int .i64 0, .string ⟨#[]⟩] 59)) w1) := (Below.refl _ _).grown hgrow (by simp) (fun k hk => by cases hk)
  rw [hs0] at hown
  have HBW : Hid (Below w.heap.size w (w.alloc (.cells #[.int .i64 0, .int .i64 0, .string ⟨#[]⟩] 59))) := (Below.refl _ w).alloc (Nat.le_refl _) _
  generalize (w.alloc (.cells #[.int .i64 0, .int .i64 0, .string ⟨#[]⟩] 59)) = w0 at *
  have S0 := Lib.hid hs0
  have BZ := Lib.hid bZ0
  have HO0 := Lib.hid hown
  clear hown hgrow bZ0 hs0
  go_loopw [7, 15] (fun v i wr => ∃ k : Nat, k ≤ n ∧ i = .int .i64 (k : Int) ∧ Hid (wr.ownsRow (w.heap.size + 1) 5 1 v (k * c) (cellsU ((tabL n c f).take (k * c)))) ∧ Hid (Below (w.heap.size + 1) w0 wr)) (fun _ i _ => n - (intOf i).toNat)
  case atStart => exact ⟨0, by omega, rfl, by rw [Nat.zero_mul]; exact HO0.out, HB0.out⟩
  case round =>
    obtain ⟨k, hk, rfl, hown, hbel⟩ := hrel
    have hq := hbel.out.size
    by_cases hlt : k < n
    · go_wp2_with fail
      obtain ⟨wn, rfl⟩ : ∃ wn : World, wn = wr := ⟨_, rfl⟩
      go_loopw [7, 19] (fun v i wr => ∃ j : Nat, j ≤ c ∧ i = .int .i64 (j : Int) ∧ Hid (wr.ownsRow (w.heap.size + 1) 5 1 v (k * c + j) (cellsU ((tabL n c f).take (k * c + j)))) ∧ Hid (Below (w.heap.size + 1) w0 wr)) (fun _ i _ => c - (intOf i).toNat)
      case atStart => exact ⟨0, by omega, rfl, hown, hbel⟩
      case round =>
        clear hown hbel hq
        obtain ⟨j, hj, rfl, hown, hbel⟩ := hrel
        by_cases hlt2 : j < c
        · have hpl := place_lt (r := n) (c := c) hlt hlt2
          have cS := G.out k j wr hlt hlt2 (HBW.out.trans (hbel.out.mono (by omega)))
          go_wp2_with fail
          refine cS.mono ?_
          rintro e w2 ⟨rfl, hb2⟩
          have HB2 : Hid (Below wr.heap.size wr w2) := hb2
          have hz2 := hb2.size
          clear hb2
          have hown2 := Lib.hid (owns_any hown.out HB2.out)
          go_wp2_with (at_builtin; refine wpList_append_own _ rfl _ _ 48 rfl (w.heap.size + 1) 5 i0 (.int .u8 0) 1 1 Try.underlying48 hi hz0 hz1 hz2' rfl (by decide) _ _ _ rfl (hown2.out.alloc _) ⟨w2.heap.size, 0, none⟩ 1 1 [.int .u8 ((f k j).toNat : Int)] rfl rfl ?c1 ?c2 ?c3 ?c4 ?c5 ?_)
          case c1 => exact cell_one_new _ _ _
          case c2 => intro u hu; simp at hu; subst hu; rfl
          case c3 => unfold maxLen; omega
          case c4 => omega
          case c5 => have := hbel.out.size; have := S0.out; simp; omega
          intro v' w3 hown' hgrow _
          have HB3 := Lib.hid (below_append (H := w.heap.size + 1) (w := w0) hown2.out (hbel.out.trans (HB2.out.mono (by have := S0.out; have := hbel.out.size; omega))) (by have := S0.out; omega) hgrow)
          rw [take_tab n c f k j hlt hlt2] at hown'
          have HO := Lib.hid hown'
          clear hown' hgrow
          go_wp2_with fail
          go_roundw
          case rel => exact ⟨j + 1, by omega, by go_num, HO.out, HB3.out⟩
          case measure => simp [intOf]; omega
        · obtain rfl : j = c := by omega
          go_wp2_with fail
          go_roundw
          case rel => exact ⟨k + 1, by omega, by go_num, by rw [Nat.add_mul k 1, Nat.one_mul]; exact hown.out, hbel.out⟩
          case measure => simp [intOf]; omega
    · obtain rfl : k = n := by omega
      rcases hown.out.2 with ⟨_, h⟩ | ⟨g, cap', cur, rfl, _⟩
      · exact absurd h (by omega)
      · have ho := hown.out
        rw [List.take_of_length_le (by rw [tab_length]; omega)] at ho
        have hcv := run_own_text (P := Try.prog) (w := wr) (src := 48) (dst := 9) (L := tabL k c f) ho (by rw [tab_length]) Try.underlying48 Try.underlying5 Try.underlying9
        have bZr := (hbel.out.block w.heap.size (by omega)).trans BZ.out
        have c0 := blk_cell (j := 0) bZr rfl
        have c1 := blk_cell (j := 1) bZr rfl
        have c2 := blk_cell (j := 2) bZr rfl
        have cf := blk_free bZr
        clear bZr ho hown
        go_wp2_with fail
        exact bodyPost_ret (v := .agg #[.int .i64 (k : Int), .int .i64 (c : Int), .string ⟨(tabL k c f).toArray⟩]) (by simp [results, Try.results65, go_sem, c0, c1, c2]) rfl
          ⟨rfl, below_agg3 (HBW.out.trans (hbel.out.mono (by omega))) (by omega) _ _ _⟩

end Go.Proofs.Ytemcjnbgcecinaa

/- A row of bytes that a string was turned into: behind its last cell stands a mark; one byte is added at a time. -/
namespace Go.Proofs.Ytemcjnbgcecinaa
open Go.RowKit

/-- the slice v, of n bytes, owns the cells xs; its row may bear a mark behind its last cell -/
def OwnsM (w : World) (base : Nat) (e : TypeId) (v : Value) (n : Nat) (xs : List Value) : Prop :=
  w.ownsRow base e 1 v n xs ∨
  (xs.length = n ∧ ∃ g cap cur lo hi, v = .slice (some ⟨g, 0, none⟩) n cap ∧ base ≤ g ∧ w.heap[g]? = some (.cells cur e (lo, hi)) ∧ cur.size ≤ lo ∧ n ≤ cap ∧ cap ≤ maxLen ∧ cur.size = cap ∧ cur.toList.take n = xs)

theorem OwnsM.block {w : World} {base n : Nat} {e : TypeId} {v : Value} {xs : List Value} (h : OwnsM w base e v n xs) : ∀ j, v.ownBlock = some j → base ≤ j := by
  intro j hj
  rcases h with h | ⟨_, g, cap, cur, lo, hi, rfl, hb, _⟩
  · exact (h.lt j hj).1
  · simp [Value.ownBlock] at hj; omega

theorem OwnsM.length {w : World} {base n : Nat} {e : TypeId} {v : Value} {xs : List Value} (h : OwnsM w base e v n xs) : xs.length = n := by
  rcases h with h | h
  · rw [h.1, Nat.mul_one]
  · exact h.1

theorem OwnsM.alloc {w : World} {base n : Nat} {e : TypeId} {v : Value} {xs : List Value} (h : OwnsM w base e v n xs) (o : Obj) : OwnsM (w.alloc o) base e v n xs := by
  rcases h with h | ⟨hl, g, cap, cur, lo, hi, rfl, hb, hg, rest⟩
  · exact .inl (h.alloc o)
  · refine .inr ⟨hl, g, cap, cur, lo, hi, rfl, hb, ?_, rest⟩
    rw [heap_alloc_old w o (Array.getElem?_eq_some_iff.1 hg).1]; exact hg

theorem OwnsM.cells {w : World} {base n : Nat} {e : TypeId} {v : Value} {xs : List Value} (h : OwnsM w base e v n xs) (h0 : 0 < n) : ∃ g cap, v = .slice (some ⟨g, 0, none⟩) n cap ∧ ∀ j u, xs[j]? = some u → w.cell? ⟨g, j, none⟩ = some u := by
  rcases h with h | ⟨hl, g, cap, cur, lo, hi, rfl, hb, hg, hlo, hn, hc, hs, ht⟩
  · rcases h.2 with ⟨_, h'⟩ | ⟨g, cap, cur, rfl, _⟩
    · exact absurd h' (by omega)
    · exact ⟨g, cap, rfl, fun j u hu => (h.cellAt j (by have := (List.getElem?_eq_some_iff.1 hu).1; rw [h.1] at this; omega)).trans hu⟩
  · refine ⟨g, cap, rfl, fun j u hu => ?_⟩
    rw [cell_of_row w g j cur e (lo, hi) hg]
    rw [← ht, List.getElem?_take] at hu
    split at hu
    · simpa using hu
    · cases hu

/-- what a string becomes -/
theorem ownsM_new (w : World) (e : TypeId) (s : ByteArray) (base : Nat) (hb : base ≤ w.heap.size) (hs : s.size ≤ maxLen) :
    OwnsM (w.drew.alloc (.cells (bytesRow s (grownCap w s.size 0 e)) e ((bytesRow s (grownCap w s.size 0 e)).size, (bytesRow s (grownCap w s.size 0 e)).size + 1))) base e (.slice (some ⟨w.heap.size, 0, none⟩) s.size (grownCap w s.size 0 e)) s.size (cellsU s.data.toList) := by
  have hge := grownCap_ge w s.size 0 e
  have hds : s.data.size = s.size := rfl
  refine .inr ⟨by unfold cellsU; rw [List.length_map, Array.length_toList]; rfl, _, _, _, _, _, rfl, hb, heap_alloc_new w.drew _, Nat.le_refl _, hge, grownCap_le_maxLen w s.size 0 e hs, ?_, ?_⟩
  · unfold bytesRow; rw [Array.size_append, Array.size_map, Array.size_replicate, hds]; omega
  · unfold bytesRow cellsU
    rw [Array.toList_append, Array.toList_map, List.take_left' (by rw [List.length_map, Array.length_toList]; rfl)]

theorem run_append_mark {P : Program} (w : World) (base : Nat) (t ty e : TypeId) (i : TypeInfo) (ht : P.underlying t = some (.slice e)) (hi : P.info? e = some i) (hz : i.zero = some (.int .u8 0)) (hsize : i.size = 1) (hby : i.bytes = 1)
    (v : Value) (n : Nat) (xs : List Value) (hown : OwnsM w base e v n xs) (a : Addr) (c : Nat) (x : Value) (hx : w.cell? a = some x) (h1 : x.oneCell' = true) (hn : n + 1 ≤ 140737488355328) (hbase : base ≤ w.heap.size) :
    ∃ v' w', (Builtin.append_ #[t, t] ty #[v, .slice (some a) 1 c]).run P w = .ok v' w' ∧ OwnsM w' base e v' (n + 1) (xs ++ [x]) ∧ w.grownBy w' v.ownBlock := by
  have hadd : a.add 0 = a := by unfold Addr.add; split <;> simp_all
  have hnews : ∀ j u, [x][j]? = some u → w.cell? (a.add j) = some u := by
    intro j u hu
    have : j = 0 := by have := (List.getElem?_eq_some_iff.1 hu).1; simp at this; exact this
    subst this
    rw [hadd, hx]; simpa using hu
  have hone : ∀ u ∈ [x], u.oneCell' = true := by intro u hu; simp at hu; subst hu; exact h1
  rcases hown with hown | ⟨hl, g, cap, cur, lo, hi', rfl, hb, hg, hlo, hnc, hcm, hcs, htake⟩
  · obtain ⟨v', w', r1, r2, r3, _⟩ := run_append_own (P := P) w base t ty e i (.int .u8 0) 1 1 ht hi hz hsize hby rfl (by decide) v n xs hown a 1 c [x] (by simp) hnews hone (by unfold maxLen; omega) (by omega) hbase
    exact ⟨v', w', r1, .inl r2, r3⟩
  · by_cases hroom : n + 1 ≤ cap
    · have hcell : w.cell? ⟨g, n, none⟩ = some (cur[n]'(by omega)) := by rw [cell_of_row w g n cur e (lo, hi') hg, Array.getElem?_eq_getElem]
      have hfro : w.frozen? ⟨g, n, none⟩ = false := by
        simp only [World.frozen?, hg, Bool.and_eq_false_iff, decide_eq_false_iff_not]
        left; omega
      have hst : (storeCells ⟨g, n, none⟩ [x] 0).run P w = .ok () (w.setRow g (cur.setIfInBounds n x)) := by
        have h0 : (⟨g, n, none⟩ : Addr).add 0 = ⟨g, n, none⟩ := by unfold Addr.add; split <;> rfl
        have hs : (store ((⟨g, n, none⟩ : Addr).add 0) x).run P w = .ok () (w.setRow g (cur.setIfInBounds n x)) := by
          rw [h0, run_store P w _ x _ h1, hcell]
          simp [hfro, setCell_eq_setRow w g n cur e (lo, hi') x hg]
        simp only [storeCells, Sem.run_bind, hs, Result.andThen_ok]; rfl
      have hf := run_firstCells_some (P := P) w 1 1 a 1 c [x] rfl hnews
      have hr : (Builtin.append_ #[t, t] ty #[.slice (some ⟨g, 0, none⟩) n cap, .slice (some a) 1 c]).run P w = .ok (.slice (some ⟨g, 0, none⟩) (n + 1) cap) (w.setRow g (cur.setIfInBounds n x)) := by
        simp [Builtin.append_, run_underlying ht, sizeOf, typeInfo, hi, Builtin.lenOf, hroom, hf, Addr.add_lit, hst, hsize]
      refine ⟨_, _, hr, .inr ⟨by rw [List.length_append, hl]; rfl, g, cap, _, lo, hi', rfl, hb, setRow_heap w g cur _ e _ hg, by rw [Array.size_setIfInBounds]; exact hlo, hroom, hcm, by rw [Array.size_setIfInBounds]; exact hcs, ?_⟩, ⟨rfl, rfl, rfl, by simp, fun k _ hk => setRow_other w g k _ (fun e => hk (by simp [Value.ownBlock, e]))⟩⟩
      rw [Array.toList_setIfInBounds, ← htake]
      apply List.ext_getElem?
      intro p
      have hlen : (cur.toList.take n).length = n := by rw [List.length_take, Array.length_toList]; omega
      rw [List.getElem?_take, List.getElem?_append, hlen, List.getElem?_set, Array.length_toList]
      by_cases h1 : p < n
      · rw [if_pos (by omega), if_neg (by omega), if_pos h1, List.getElem?_take, if_pos h1]
      · rw [if_neg h1]
        by_cases h2 : p = n
        · subst h2; rw [if_pos (by omega), if_pos rfl, if_pos (by omega), Nat.sub_self]; rfl
        · rw [if_neg (by omega), List.getElem?_eq_none (by simp; omega)]
    · have holds : ∀ j u, xs[j]? = some u → w.cell? ((⟨g, 0, none⟩ : Addr).add j) = some u := by
        intro j u hu
        have hadd : (⟨g, 0, none⟩ : Addr).add j = ⟨g, j, none⟩ := by unfold Addr.add; split <;> simp_all
        rw [hadd, cell_of_row w g j cur e (lo, hi') hg]
        rw [← htake, List.getElem?_take] at hu
        split at hu
        · simpa using hu
        · cases hu
      have hr := run_append_grow (P := P) w t ty e i (.int .u8 0) ht hi hz ⟨g, 0, none⟩ n cap xs (by rw [hsize, hl, Nat.mul_one]) holds a 1 c [x] (by rw [hsize]; rfl) hnews (by omega) (by omega) (growslice_fits (by omega) (by rw [hby]; omega))
      have hge := grownCap_ge w (n + 1) cap e
      refine ⟨_, _, hr, .inl ⟨by rw [List.length_append, hl]; simp, .inr ⟨w.heap.size, _, _, rfl, hbase, heap_alloc_new w.drew _, hge, grownCap_le_maxLen w (n + 1) cap e (by unfold maxLen; omega), ?_, ?_⟩⟩, ⟨rfl, rfl, rfl, by simp, fun k hk _ => heap_alloc_old w.drew _ hk⟩⟩
      · have hzs : (Value.int .u8 0).cells.size = 1 := rfl
        simp only [Array.size_append, List.size_toArray, size_zeroCells, hzs, hl, List.length_cons, List.length_nil]
        omega
      · simp only [Array.toList_append, List.append_assoc]
        rw [← List.append_assoc]
        exact List.take_left' (by rw [List.length_append, hl]; simp)

theorem wpList_append_mark {P : Program} (w : World) {ops : Array Oper} {rest : List Oper} {o : Oper} {a : Act} {Q : Exit → Act → World → Prop} (hgd : o.guard = none) (s y : Operand) (t : TypeId)
    (ho : o.op = .call { callee := .builtin .append, args := #[s, y], argTypes := #[t, t] })
    (base : Nat) (e : TypeId) (i : TypeInfo) (ht : P.underlying t = some (.slice e)) (hi : P.info? e = some i) (hz : i.zero = some (.int .u8 0)) (hsize : i.size = 1) (hby : i.bytes = 1)
    (v : Value) (n : Nat) (xs : List Value) (hs : a.eval s = v) (hown : OwnsM w base e v n xs) (ad : Addr) (c : Nat) (x : Value) (hy : a.eval y = .slice (some ad) 1 c) (hx : w.cell? ad = some x) (h1 : x.oneCell' = true)
    (hn : n + 1 ≤ 140737488355328) (hbase : base ≤ w.heap.size)
    (h : ∀ v' w', OwnsM w' base e v' (n + 1) (xs ++ [x]) → w.grownBy w' v.ownBlock → wpList P ops Q rest (a.put o.dst v') w') : wpList P ops Q (o :: rest) a w := by
  refine wpList_plain hgd fun K hK => ?_
  obtain ⟨v', w', hr, h2, h3⟩ := run_append_mark (P := P) w base t o.type e i ht hi hz hsize hby v n xs hown ad c x hx h1 hn hbase
  unfold Oper.wp execOp
  simp only [ho, resolve, invoke, builtin, Sem.run_bind, Sem.run_pure, Result.andThen_ok, List.map_toArray, List.map_cons, List.map_nil, hs, hy, hr]
  exact hK _ _ (h v' w' h2 h3)

theorem below_mark {H : Nat} {w wr w1 : World} {v : Value} {o : Obj} {e : TypeId} {n : Nat} {xs : List Value} (hown : OwnsM wr H e v n xs) (hb : Below H w wr) (hH : H ≤ w.heap.size) (hg : (wr.alloc o).grownBy w1 v.ownBlock) : Below H w w1 :=
  (hb.alloc (Nat.le_trans hH hb.size) o).grown hg (by have := hb.size; simp; omega) (fun j hj => hown.block j hj)

end Go.Proofs.Ytemcjnbgcecinaa
