/- What the landed package stripe does: the object of data shards, and Join; no condition but the range. -/
import Derived.Test.YtmnciipfepeccaaStJoin
import Derived.Deep.RegionHeld3
import Derived.Deep.DeepCutAuto
import Derived.Deep.DrawnRows
import Derived.Deep.RegionHeldLaw
namespace Go.Proofs.Ytmnciipfepeccaa
open Go.RowKit

attribute [local go_sem ↓] Go.wp_at_zero Go.wp_at_succ
attribute [local go_sem] floatUpon pick

/-- what the call owns stays owned while no old block is written -/
theorem st_keep {H size n : Nat} {w W : World} {e : TypeId} {v : Value} {xs : List Value} (h : w.ownsRow H e size v n xs) (hb : Below w.heap.size w W) : W.ownsRow H e size v n xs := by
  refine ⟨h.1, ?_⟩
  rcases h.2 with h' | ⟨g, cap, cur, hv, h1, h2, h3⟩
  · exact .inl h'
  · exact .inr ⟨g, cap, cur, hv, h1, (hb.block g (Array.getElem?_eq_some_iff.1 h2).1).trans h2, h3⟩

theorem own_bytes {w : World} {H g n cap : Nat} {L : List UInt8} (h : w.ownsRow H 5 1 (.slice (some ⟨g, 0, none⟩) n cap) n (Lib.byteCells L)) (hn : n = L.length) (lo m c : Nat) (hlo : lo + m ≤ L.length) :
    (convert 61 9 (.slice (some ⟨g, lo, none⟩) m c)).run Try.prog w = .ok (.string ⟨((L.drop lo).take m).toArray⟩) w := by
  have hlen : ((L.drop lo).take m).length = m := by rw [List.length_take, List.length_drop]; omega
  have := run_convert_bytes_back (P := Try.prog) w 61 9 5 ⟨g, lo, none⟩ c ((L.drop lo).take m) Try.underlying61 Try.underlying5 Try.underlying9 (fun j hj => by
    have hj' : j < m := by rw [hlen] at hj; exact hj
    have hadd : (⟨g, lo, none⟩ : Addr).add j = ⟨g, lo + j, none⟩ := by unfold Addr.add; split <;> simp_all
    rw [hadd, World.ownsRow.cellAt h (lo + j) (by omega)]
    unfold Lib.byteCells
    rw [List.getElem?_map, List.getElem?_eq_getElem (by omega), Option.map_some, List.getElem_take, List.getElem_drop])
  rwa [hlen] at this

theorem own_all {w : World} {H g n cap : Nat} {L : List UInt8} (h : w.ownsRow H 5 1 (.slice (some ⟨g, 0, none⟩) n cap) n (Lib.byteCells L)) (hn : n = L.length) :
    (convert 61 9 (.slice (some ⟨g, 0, none⟩) n cap)).run Try.prog w = .ok (.string ⟨L.toArray⟩) w := by
  have := own_bytes h hn 0 n cap (by omega)
  rw [List.drop_zero, List.take_of_length_le (by omega)] at this
  exact this

/-- 'all[4:4+m]', and its text -/
theorem cut_string {w : World} {H g n cap : Nat} {L : List UInt8} (h : w.ownsRow H 5 1 (.slice (some ⟨g, 0, none⟩) n cap) n (Lib.byteCells L)) (hn : n = L.length) (m : Nat) (hm : 4 + m ≤ L.length) :
    ∃ A c, (∀ (i : Int) (W : World), i = 4 + (m : Int) → (Instr.slice 61 (.slice (some ⟨g, 0, none⟩) n cap) (some (.int .i64 4)) (some (.int .i64 i)) none).run Try.prog W = .ok (.slice A m c) W) ∧
      (convert 61 9 (.slice A m c)).run Try.prog w = .ok (.string ⟨((L.drop 4).take m).toArray⟩) w := by
  have hcap : n ≤ cap := by
    rcases h.2 with ⟨h1, h2⟩ | ⟨g', cap', cur, h1, _, _, h3, _⟩
    · simp at h1
    · simp only [Value.slice.injEq] at h1; omega
  by_cases h4 : cap = 4
  · obtain rfl : m = 0 := by omega
    refine ⟨some ⟨g, 0, none⟩, 0, fun i W hi => ?_, ?_⟩
    · subst hi
      rw [run_slice_lh W 61 _ n cap (by kernel_rfl) .i64 .i64 _ _ (by omega) (by omega) (by omega), bytes_size]
      simp only [Result.andThen, sliced, h4, Int.natCast_zero, Int.add_zero, show (4 : Int).toNat = 4 from rfl, if_true, Nat.sub_self, Nat.mul_one]
    · have := own_bytes h hn 0 0 0 (by omega)
      rw [List.take_zero] at this ⊢
      exact this
  · refine ⟨some ⟨g, 4, none⟩, cap - 4, fun i W hi => ?_, own_bytes h hn 4 m (cap - 4) hm⟩
    have := slice_mid 61 (by kernel_rfl) bytes_size g n cap 4 (4 + m) (by omega) (by omega) (by omega) 4 i rfl (by omega) W
    rw [show 4 + m - 4 = m by omega] at this
    exact this

/-- what the object of data shards is told to be -/
def UncutAns (l : List ByteArray) (e : Ending) : Prop := match St.uncut l.length (St.joinL l) with
  | some s => e = .returned (.tuple #[.string s, .bool true])
  | none => ∃ o, e = .returned (.tuple #[.string o, .bool false])

theorem bytes_eq {X Y : List UInt8} : ((⟨X.toArray⟩ : ByteArray) = ⟨Y.toArray⟩) ↔ X = Y := ⟨fun h => by injection h with h; simpa using h, fun h => by rw [h]⟩

set_option maxRecDepth 100000 in
set_option maxHeartbeats 4000000 in
theorem uncut_any (A : Option Addr) (c : Nat) (l : List ByteArray) (w : World) (h : StrsAt w A l) (hpos : 1 ≤ l.length) (hn : l.length ≤ 255) (hE : St.Even l) (hmax : ∀ s ∈ l, s.size ≤ 9223372036854775807) :
    Calls Try.prog 51 #[.slice A l.length c] w fun e w' => UncutAns l e ∧ Below w.heap.size w w' := by
  obtain ⟨ad, rfl, hab, hc⟩ := h hpos
  have c0 : w.cell? ad = some (.string (l[0]'hpos)) := by have := hc 0 (by omega); rwa [add_zero'] at this
  have hd0 : l.headD ⟨#[]⟩ = l[0] := by cases l with | nil => simp at hpos | cons x r => rfl
  have hel : (St.joinL l).length = l.length * l[0].size := by have := St.even_len l hE; rwa [hd0] at this
  have hev : ∀ s ∈ l, s.size = l[0].size := fun s hs => by have := hE s hs; rwa [hd0] at this
  have HA := Lib.hid h
  have p0 : (0 : Int) < (l.length : Int) := by omega
  have p0n : 0 < l.length := hpos
  have hm0 := hmax l[0] (List.getElem_mem _)
  have hsz := St.sz_bound1 (k := l.length) hpos (Nat.le_refl 2048)
  have HSmall := Lib.hid (St.sz_bound1 (k := l.length) hpos (Nat.le_refl 2048))
  have HOK : Hid (w.cell? ad = some (.string l[0]) ∧ ad.block < w.heap.size) := ⟨c0, hab⟩
  clear hmax hE hd0 hc c0
  go_enter Try.func51, Try.ntmps51
  go_upto_region 1 with fail
  refine wp_region_said 8 [8, 9, 10, 11, 12, 13, 14, 15]
    [.is (.slice (some ad) l.length c), .is (.pointer (some ad)), .is (.string l[0]), .is (.int .i64 (l[0].size : Int)), .is (.slice (some ad) l.length c), .is (.int .i64 (l.length : Int)), .is (.int .i64 ((St.szN l.length 2048 : Nat) : Int)), .is (.bool (decide (((St.szN l.length 2048 : Nat) : Int) < (l[0].size : Int))))]
    (fun W => W.cell? ad = some (.string l[0]) ∧ ad.block < W.heap.size) (by kernel_rfl) (by kernel_rfl) (by kernel_rfl) (by kernel_rfl) (by kernel_rfl)
    (fun W W' h hb => ⟨(hb.cell h.2).trans h.1, Nat.lt_of_lt_of_le h.2 hb.size⟩) HOK.out ?steps ?last
  case steps =>
    simp only [List.take_succ_cons, List.take_zero]
    refine ⟨?_, ?_, ?_, ?_, ?_, ?_, ?_, ?_, trivial⟩
    all_goals
      intro vs W ρ hρ hc hf hg hI hH hd R hR
      obtain ⟨c0, _⟩ := hI
      have HR := Lib.hid hR
      simp [depsOf, Region.binds, sayAt, Say.holds] at hd
      clear hR
      go_simp
      first
        | exact HR.out _ _ (by simp [sayAt, Say.holds]) (Below.refl _ _) (by simp [sayAt, Say.isBlk])
        | (refine (size_any l.length 2048 _ hpos (by omega) (by omega)).mono ?_; rintro e w' ⟨rfl, rfl⟩; exact ⟨_, rfl, HR.out _ _ (by simp [sayAt, Say.holds]) (Below.refl _ _) (by simp [sayAt, Say.isBlk])⟩)
        | trace_state
  case last =>
    intro vs W1 hI hb1 hg hd
    have g7 := hg 7 (by omega)
    simp only [sayAt, Say.holds, List.getD_cons_succ, List.getD_cons_zero] at g7
    simp only [List.take_succ_cons, List.take_zero, List.drop_succ_cons, List.drop_zero, putAll, Act.put, List.setIfInBounds_toArray, List.set_cons_succ, List.set_cons_zero, Nat.zero_add, Nat.reduceAdd]
    rw [g7]
    have HB1 := Lib.hid hb1
    clear g7 hg hd hI hb1 HOK
    by_cases hbig : St.szN l.length 2048 < l[0].size
    · have hb : decide (((St.szN l.length 2048 : Nat) : Int) < (l[0].size : Int)) = true := by simp; omega
      have E : Hid (∀ o e, e = Ending.returned (.tuple #[.string o, .bool false]) → UncutAns l e) := fun o e he => by
        unfold UncutAns
        rw [St.uncut_long hpos hel hbig]
        exact ⟨o, he⟩
      rw [hb]
      clear hbig hb
      go_wp2_with fail
      go_ret2
      exact ⟨E.out _ _ rfl, HB1.out⟩
    · have hb : decide (((St.szN l.length 2048 : Nat) : Int) < (l[0].size : Int)) = false := by simp; omega
      rw [hb]
      have HL := Lib.hid (fun w' h => lay_any (some ad) c l w' h hn fun s hs => by rw [hev s hs]; have := HSmall.out; omega)
      have hlen : (St.joinL l).length ≤ 255 * 2052 := by rw [hel]; exact Nat.mul_le_mul hn (by have := HSmall.out; omega)
      clear hbig hb hel hev
      go_wp2_with fail
      refine (HL.out _ (HA.out.below HB1.out)).mono ?_
      rintro e w2 ⟨v, rfl, hown, hb2⟩
      have B2 := Lib.hid (HB1.out.trans (hb2.mono HB1.out.size))
      obtain ⟨L, hL⟩ : ∃ L, L = St.joinL l := ⟨_, rfl⟩
      rw [← hL] at hown hlen
      have HLJ := Lib.hid hL
      have HO := Lib.hid hown
      clear hown hb2 HB1 hL HL
      go_wp2_with fail
      have hUA : ∀ o e, (match St.uncut l.length L with | some s => e = Ending.returned (.tuple #[.string s, .bool true]) | none => e = Ending.returned (.tuple #[.string o, .bool false])) → UncutAns l e := fun o e he => by
        unfold UncutAns
        rw [← HLJ.out]
        cases hu : St.uncut l.length L with
        | some s => rw [hu] at he; exact he
        | none => rw [hu] at he; exact ⟨o, he⟩
      have HUA := Lib.hid hUA
      clear hUA
      by_cases hbad : L.length < 4 ∨ 2048 < St.numL L ∨ L.length - 4 < St.numL L
      · have hla : lenAns L = .tuple #[.int .i64 0, .bool false] := by unfold lenAns; rw [if_pos hbad]
        have E : Hid (∀ e, e = Ending.returned (.tuple #[.string ⟨#[]⟩, .bool false]) → UncutAns l e) := fun e he => by
          refine HUA.out ⟨#[]⟩ e ?_
          have : St.uncut l.length L = none := by
            unfold St.uncut
            by_cases h4 : L.length < 4
            · rw [if_pos h4]
            · rw [if_neg h4, if_pos (hbad.resolve_left h4)]
          rw [this]; exact he
        have hc := length_any _ v L w2 HO.out (by omega)
        rw [hla] at hc
        have HC := Lib.hid hc
        clear hbad hc hla
        refine (HC.out).mono ?_
        rintro e w3 ⟨rfl, rfl⟩
        go_wp2_with fail
        go_ret2
        exact ⟨E.out _ rfl, B2.out⟩
      · obtain ⟨m, hm⟩ : ∃ m, m = St.numL L := ⟨_, rfl⟩
        have hla : lenAns L = .tuple #[.int .i64 (m : Int), .bool true] := by unfold lenAns; rw [if_neg hbad, hm]
        have hc := length_any _ v L w2 HO.out (by omega)
        rw [hla] at hc
        have HC := Lib.hid hc
        rw [← hm] at hbad
        have h4 : 4 + m ≤ L.length := by omega
        have hm2 : m ≤ 2048 := by omega
        have hUV : Hid (∀ o, o = (⟨((L.drop 4).take m).toArray⟩ : ByteArray) → St.uncut l.length L = if St.plainL l.length o = L then some o else none) := fun o ho => by
          subst ho
          unfold St.uncut
          rw [← hm, if_neg (by omega), if_neg (by omega)]
        obtain ⟨g, cap, rfl, _, hgl⟩ := World.ownsRow.form HO.out (by omega)
        obtain ⟨A, cc, hsl, hcv⟩ := cut_string HO.out rfl m h4
        have hsl' := fun W => hsl (4 + (m : Int)) W rfl
        obtain ⟨o, ho⟩ : ∃ o : ByteArray, o = ⟨((L.drop 4).take m).toArray⟩ := ⟨_, rfl⟩
        rw [← ho] at hcv
        have hos : o.size ≤ 2048 := by
          rw [ho]
          show ((L.drop 4).take m).toArray.size ≤ 2048
          rw [List.size_toArray, List.length_take]; omega
        have HUV := Lib.hid (hUV.out o ho)
        clear hbad hc hla hm hsl hUV ho h hgl
        refine (HC.out).mono ?_
        rintro e w3 ⟨rfl, rfl⟩
        go_upto_region 8 with fail
        have HPL := Lib.hid (fun w => plain_any l.length o w hpos hn hos)
        have hpn := St.plain_len (k := l.length) hpos o
        obtain ⟨P, hP⟩ : ∃ P, P = St.plainL l.length o := ⟨_, rfl⟩
        obtain ⟨N, hN⟩ : ∃ N, N = l.length * St.szN l.length o.size := ⟨_, rfl⟩
        rw [← hP] at hpn HPL
        rw [← hN] at hpn HPL
        have HP := Lib.hid hP
        have HPN := Lib.hid hpn
        clear hpn hP hN hsl' hcv
        refine wp_region_said 10 [30, 31, 32, 33, 34, 35, 36, 37, 38, 2]
          [.is (.string o), .is (.slice (some ad) l.length c), .is (.int .i64 (l.length : Int)), .is (.string o), .arr 5 (Lib.byteCells P).toArray N N, .is (.string ⟨P.toArray⟩), .is (.slice (some ⟨g, 0, none⟩) L.length cap), .is (.string ⟨L.toArray⟩), .is (.bool (P == L)), .is (.string o)]
          (fun W => W.ownsRow _ 5 1 (.slice (some ⟨g, 0, none⟩) L.length cap) L.length (Lib.byteCells L)) (by kernel_rfl) (by kernel_rfl) (by kernel_rfl) (by kernel_rfl) (by kernel_rfl)
          (fun W W' h hb => st_keep h hb) HO.out ?steps ?last
        case steps =>
          simp only [List.take_succ_cons, List.take_zero]
          refine ⟨?_, ?_, ?_, ?_, ?_, ?_, ?_, ?_, ?_, ?_, trivial⟩
          · intro vs W ρ hρ hc hf hg hI hH hd R hR
            have HR := Lib.hid hR
            simp [depsOf, Region.binds, sayAt, Say.holds] at hd
            clear hR
            go_simp
            exact HR.out _ _ (by simp [sayAt, Say.holds]) (Below.refl _ _) (by simp [sayAt, Say.isBlk])
          · intro vs W ρ hρ hc hf hg hI hH hd R hR
            have HR := Lib.hid hR
            simp [depsOf, Region.binds, sayAt, Say.holds] at hd
            clear hR
            go_simp
            exact HR.out _ _ (by simp [sayAt, Say.holds]) (Below.refl _ _) (by simp [sayAt, Say.isBlk])
          · intro vs W ρ hρ hc hf hg hI hH hd R hR
            have HR := Lib.hid hR
            simp [depsOf, Region.binds, sayAt, Say.holds] at hd
            clear hR
            go_simp
            exact HR.out _ _ (by simp [sayAt, Say.holds]) (Below.refl _ _) (by simp [sayAt, Say.isBlk])
          · intro vs W ρ hρ hc hf hg hI hH hd R hR
            have HR := Lib.hid hR
            simp [depsOf, Region.binds, sayAt, Say.holds] at hd
            clear hR
            go_simp
            exact HR.out _ _ (by simp [sayAt, Say.holds]) (Below.refl _ _) (by simp [sayAt, Say.isBlk])
          · intro vs W ρ hρ hc hf hg hI hH hd R hR
            have HR := Lib.hid hR
            simp [depsOf, Region.binds, sayAt, Say.holds] at hd
            clear hR
            go_simp
            refine (HPL.out _).mono ?_
            rintro e w' ⟨rfl, hblk, hb⟩
            exact ⟨_, rfl, HR.out _ _ ⟨_, hH, (Array.getElem?_eq_some_iff.1 hblk).1, rfl, hblk⟩ hb (by simp [sayAt, Say.isBlk])⟩
          · intro vs W ρ hρ hc hf hg hI hH hd R hR
            have HR := Lib.hid hR
            simp [depsOf, Region.binds, sayAt, Say.holds] at hd
            clear hR
            obtain ⟨p, hp1, hp2, hv, hblk⟩ := hd
            have hcv2 := bytes_string hblk 0 N N (by rw [HPN.out]; omega)
            rw [List.drop_zero, List.take_of_length_le (by rw [HPN.out]; omega)] at hcv2
            go_simp
            exact HR.out _ _ (by simp [sayAt, Say.holds]) (Below.refl _ _) (by simp [sayAt, Say.isBlk])
          · intro vs W ρ hρ hc hf hg hI hH hd R hR
            have HR := Lib.hid hR
            simp [depsOf, Region.binds, sayAt, Say.holds] at hd
            clear hR
            go_simp
            exact HR.out _ _ (by simp [sayAt, Say.holds]) (Below.refl _ _) (by simp [sayAt, Say.isBlk])
          · intro vs W ρ hρ hc hf hg hI hH hd R hR
            have HR := Lib.hid hR
            simp [depsOf, Region.binds, sayAt, Say.holds] at hd
            clear hR
            have hcv2 := own_all hI rfl
            go_simp
            exact HR.out _ _ (by simp [sayAt, Say.holds]) (Below.refl _ _) (by simp [sayAt, Say.isBlk])
          · intro vs W ρ hρ hc hf hg hI hH hd R hR
            have HR := Lib.hid hR
            simp [depsOf, Region.binds, sayAt, Say.holds] at hd
            clear hR
            go_simp
            exact HR.out _ _ (by simp [sayAt, Say.holds]) (Below.refl _ _) (by simp [sayAt, Say.isBlk])
          · intro vs W ρ hρ hc hf hg hI hH hd R hR
            have HR := Lib.hid hR
            simp [depsOf, Region.binds, sayAt, Say.holds] at hd
            clear hR
            go_simp
            exact HR.out _ _ (by simp [sayAt, Say.holds]) (Below.refl _ _) (by simp [sayAt, Say.isBlk])
        case last =>
          intro vs W4 hI hb4 hg hd
          have g8 := hg 8 (by omega)
          have g9 := hg 9 (by omega)
          simp only [sayAt, Say.holds, List.getD_cons_succ, List.getD_cons_zero] at g8 g9
          simp only [List.take_succ_cons, List.take_zero, List.drop_succ_cons, List.drop_zero, putAll, Act.put, List.setIfInBounds_toArray, List.set_cons_succ, List.set_cons_zero, Nat.zero_add, Nat.reduceAdd]
          rw [g8, g9]
          have B4 := Lib.hid (B2.out.trans (hb4.mono B2.out.size))
          clear g8 g9 hg hd hI hb4
          have E : Hid (∀ e, e = Ending.returned (.tuple #[.string o, .bool (P == L)]) → UncutAns l e) := fun e he => by
            refine HUA.out o e ?_
            rw [HUV.out, ← HP.out]
            by_cases hpl : P = L
            · rw [if_pos hpl]
              rw [show (P == L) = true by simpa using hpl] at he
              exact he
            · rw [if_neg hpl]
              rw [show (P == L) = false by simpa using hpl] at he
              exact he
          generalize (P == L) = bq at E ⊢
          go_wp2_with fail
          go_ret2
          exact ⟨E.out _ rfl, B4.out⟩

/-- what Join answers -/
def joinV (l : List ByteArray) : Value := .tuple #[.string (St.joinAns l).1, .int .i64 ((St.joinAns l).2 : Int)]

set_option maxRecDepth 20000 in
set_option maxHeartbeats 1000000 in
theorem join_any (A : Option Addr) (c : Nat) (l : List ByteArray) (w : World) (h : StrsAt w A l) (hn : l.length ≤ 9223372036854775807) (hmax : ∀ s ∈ l, s.size ≤ 9223372036854775807) :
    Calls Try.prog 26 #[.slice A l.length c] w fun e w' => e = .returned (joinV l) ∧ Below w.heap.size w w' := by
  by_cases hr : l.length < 1 ∨ 255 < l.length
  · have E := Lib.hid (show joinV l = .tuple #[.string ⟨#[]⟩, .int .i64 1] by unfold joinV St.joinAns; rw [if_pos hr]; rfl)
    have hc := isCode_any (l.length : Int) 0 w
    rw [show codeB (l.length : Int) 0 = false by unfold codeB; simp; omega] at hc
    have HC := Lib.hid hc
    clear hr h hmax hc
    go_enter Try.func26, Try.ntmps26
    go_wp2_with fail
    refine HC.out.mono ?_
    rintro e w' ⟨rfl, rfl⟩
    go_wp2_with fail
    go_ret2
    exact ⟨by rw [E.out]; rfl, Below.refl _ _⟩
  · have hc := isCode_any (l.length : Int) 0 w
    rw [show codeB (l.length : Int) 0 = true by unfold codeB; simp; omega] at hc
    have HC := Lib.hid hc
    have hpos : 1 ≤ l.length := by omega
    have he := even_any A c l w h hpos hn
    have HA := Lib.hid h
    by_cases hE : St.Even l
    · rw [show decide (St.Even l) = true by simpa using hE] at he
      have HEv := Lib.hid he
      have hu := uncut_any A c l w h hpos (by omega) hE hmax
      have HU := Lib.hid hu
      have E : Hid (∀ e, UncutAns l e → ∃ o b, e = .returned (.tuple #[.string o, .bool b]) ∧ ((b = true ∧ joinV l = .tuple #[.string o, .int .i64 0]) ∨ (b = false ∧ joinV l = .tuple #[.string ⟨#[]⟩, .int .i64 41]))) := fun e he => by
        unfold UncutAns at he
        unfold joinV St.joinAns
        rw [if_neg hr, if_neg (fun z => z hE)]
        cases hx : St.uncut l.length (St.joinL l) with
        | some s => rw [hx] at he; exact ⟨s, true, he, .inl ⟨rfl, rfl⟩⟩
        | none => rw [hx] at he; obtain ⟨o, ho⟩ := he; exact ⟨o, false, ho, .inr ⟨rfl, rfl⟩⟩
      clear hr h hmax hc he hu hE
      go_enter Try.func26, Try.ntmps26
      go_wp2_with fail
      refine HC.out.mono ?_
      rintro e w' ⟨rfl, rfl⟩
      go_wp2_with fail
      refine HEv.out.mono ?_
      rintro e w' ⟨rfl, rfl⟩
      go_wp2_with fail
      refine HU.out.mono ?_
      rintro e w2 ⟨hans, hb⟩
      have HB := Lib.hid hb
      obtain ⟨o, b, rfl, ⟨rfl, hj⟩ | ⟨rfl, hj⟩⟩ := E.out e hans
      · have HJ := Lib.hid hj
        clear hans hb hj
        go_wp2_with fail
        go_ret2
        exact ⟨by rw [HJ.out]; rfl, HB.out⟩
      · have HJ := Lib.hid hj
        clear hans hb hj
        go_wp2_with fail
        go_ret2
        exact ⟨by rw [HJ.out]; rfl, HB.out⟩
    · rw [show decide (St.Even l) = false by simpa using hE] at he
      have HEv := Lib.hid he
      have E := Lib.hid (show joinV l = .tuple #[.string ⟨#[]⟩, .int .i64 4] by unfold joinV St.joinAns; rw [if_neg hr, if_pos hE]; rfl)
      clear hr h hmax hc he hE
      go_enter Try.func26, Try.ntmps26
      go_wp2_with fail
      refine HC.out.mono ?_
      rintro e w' ⟨rfl, rfl⟩
      go_wp2_with fail
      refine HEv.out.mono ?_
      rintro e w' ⟨rfl, rfl⟩
      go_wp2_with fail
      go_ret2
      exact ⟨by rw [E.out]; rfl, Below.refl _ _⟩

end Go.Proofs.Ytmnciipfepeccaa
