/- The document's Join, and the walk of the law that what any shards are, joined, is as the document has it; no condition but the form's reach. -/
import Derived.Test.YtmnciipfepeccaaStKept
namespace Go.Proofs.Ytmnciipfepeccaa
open Go.RowKit

theorem joined_text (l : List ByteArray) (j : Nat) (h : j < l.length) : (⟨(St.joinL (l.take j)).toArray⟩ : ByteArray) ++ l[j] = ⟨(St.joinL (l.take (j + 1))).toArray⟩ := by
  rw [joinL_take_succ l j h]
  apply ByteArray.ext
  rw [ByteArray.data_append]
  apply Array.ext'
  simp

set_option maxRecDepth 20000 in
set_option maxHeartbeats 2000000 in
theorem rjoin_any (A : Option Addr) (c : Nat) (l : List ByteArray) (w : World) (h : StrsAt w A l) (hn : l.length ≤ 1000000000000000000) (hmax : ∀ s ∈ l, s.size ≤ 140737488351232) :
    Calls Try.prog 27 #[.slice A l.length c] w fun e w' => e = .returned (joinV l) ∧ Below w.heap.size w w' := by
  by_cases hz : l.length < 1
  · have E := Lib.hid (show joinV l = .tuple #[.string ⟨#[]⟩, .int .i64 1] by unfold joinV St.joinAns; rw [if_pos (.inl hz)]; rfl)
    have hz' : (l.length : Int) < 1 := by omega
    clear hz h hmax
    go_enter Try.func27, Try.ntmps27
    go_wp2_with fail
    go_ret2
    exact ⟨by rw [E.out]; rfl, Below.refl _ _⟩
  · have hz' : ¬ (l.length : Int) < 1 := by omega
    by_cases hb : 255 < l.length
    · have E := Lib.hid (show joinV l = .tuple #[.string ⟨#[]⟩, .int .i64 1] by unfold joinV St.joinAns; rw [if_pos (.inr hb)]; rfl)
      have hb' : (255 : Int) < (l.length : Int) := by omega
      clear hz h hmax hb
      go_enter Try.func27, Try.ntmps27
      go_wp2_with fail
      go_ret2
      exact ⟨by rw [E.out]; rfl, Below.refl _ _⟩
    · have hb' : ¬ (255 : Int) < (l.length : Int) := by omega
      have hr : ¬ (l.length < 1 ∨ 255 < l.length) := by omega
      have he := reven_any A c l w h (by omega) (by omega)
      have HA := Lib.hid h
      have HMx := Lib.hid hmax
      by_cases hE : St.Even l
      · rw [show decide (St.Even l) = true by simpa using hE] at he
        have HEv := Lib.hid he
        have E : Hid (∀ S e, S = (⟨(St.joinL l).toArray⟩ : ByteArray) → WholeAns l.length S e → ∃ o b, e = .returned (.tuple #[.string o, .bool b]) ∧ ((b = true ∧ joinV l = .tuple #[.string o, .int .i64 0]) ∨ (b = false ∧ joinV l = .tuple #[.string ⟨#[]⟩, .int .i64 41]))) := fun S e hS he => by
          subst hS
          unfold WholeAns at he
          unfold joinV St.joinAns
          rw [if_neg hr, if_neg (fun z => z hE)]
          have e1 : (⟨(St.joinL l).toArray⟩ : ByteArray).data.toList = St.joinL l := by simp
          rw [e1] at he
          cases hx : St.uncut l.length (St.joinL l) with
          | some s => rw [hx] at he; exact ⟨s, true, he, .inl ⟨rfl, rfl⟩⟩
          | none => rw [hx] at he; obtain ⟨o, ho⟩ := he; exact ⟨o, false, ho, .inr ⟨rfl, rfl⟩⟩
        have hbound : ∀ j, (St.joinL (l.take j)).length ≤ 255 * 140737488351232 := fun j => Nat.le_trans (joinL_le _ 140737488351232 fun s hs => hmax s (List.mem_of_mem_take hs)) (Nat.mul_le_mul_right _ (by rw [List.length_take]; omega))
        have HBd := Lib.hid hbound
        have hpos : 1 ≤ l.length := by omega
        have h255 : l.length ≤ 255 := by omega
        clear hz hb hr h hmax he hE hbound
        go_enter Try.func27, Try.ntmps27
        go_wp2_with fail
        refine HEv.out.mono ?_
        rintro e w1 ⟨rfl, d, rfl⟩
        go_wp2_with fail
        go_loop [4, 5] (fun x i => ∃ j : Nat, j ≤ l.length ∧ i = .int .i64 (j : Int) ∧ x = .string ⟨(St.joinL (l.take j)).toArray⟩) (fun _ i => l.length - (intOf i).toNat)
        case atStart => exact ⟨0, by omega, rfl, rfl⟩
        case round =>
          obtain ⟨j, hj, rfl, rfl⟩ := hrel
          by_cases hlt : j < l.length
          · obtain ⟨ad, rfl, hab, hc⟩ := HA.out (by omega)
            have hcell : (w.drewN d).cell? (ad.add j) = some (.string l[j]) := hc j hlt
            have pj : (j : Int) < (l.length : Int) := by omega
            have hsz : (⟨(St.joinL (l.take j)).toArray⟩ : ByteArray).size ≤ 255 * 140737488351232 := by
              show (St.joinL (l.take j)).toArray.size ≤ _
              rw [List.size_toArray]; exact HBd.out j
            have hlj := HMx.out l[j] (List.getElem_mem hlt)
            have hT := joined_text l j hlt
            generalize (⟨(St.joinL (l.take j)).toArray⟩ : ByteArray) = X at hsz hT ⊢
            have hadd : ∀ W, (Op.stringOp .add X l[j]).run Try.prog W = .ok (.string (X ++ l[j])) W := fun W => run_string_add_sum W _ _ (by omega)
            have hadd2 : (X.size : Int) + (l[j].size : Int) ≤ 9223372036854775807 := by omega
            have HT := Lib.hid hT
            clear hT hc
            go_wp2_with fail
            go_round
            case rel => exact ⟨j + 1, by omega, by go_num, by rw [HT.out]⟩
            case measure => simp [intOf]; omega
          · obtain rfl : j = l.length := by omega
            rw [List.take_length]
            obtain ⟨S, hS⟩ : ∃ S : ByteArray, S = ⟨(St.joinL l).toArray⟩ := ⟨_, rfl⟩
            have hSz : S.size ≤ 9223372036854775807 := by
              rw [hS]
              show (St.joinL l).toArray.size ≤ _
              rw [List.size_toArray]
              have := HBd.out l.length
              rw [List.take_length] at this
              omega
            rw [← hS]
            have HS := Lib.hid hS
            clear hS
            go_wp2_with fail
            refine (rwhole_any l.length S _ hpos h255 hSz).mono ?_
            rintro e w2 ⟨hans, hb⟩
            have HB := Lib.hid ((below_drewN (Below.refl w.heap.size w) d).trans (hb.mono (by simp)))
            obtain ⟨o, b, rfl, ⟨rfl, hj⟩ | ⟨rfl, hj⟩⟩ := E.out S e HS.out hans
            · have HJ := Lib.hid hj
              clear hans hb hj
              go_wp2_with fail
              go_ret2
              exact ⟨by rw [HJ.out]; rfl, HB.out⟩
            · have HJ := Lib.hid hj
              clear hans hb hj
              go_wp2_with fail
              go_ret2
              exact ⟨by rw [HJ.out]; rfl, HB.out⟩
      · rw [show decide (St.Even l) = false by simpa using hE] at he
        have HEv := Lib.hid he
        have E := Lib.hid (show joinV l = .tuple #[.string ⟨#[]⟩, .int .i64 4] by unfold joinV St.joinAns; rw [if_neg hr, if_pos hE]; rfl)
        clear hz hb hr h hmax he hE
        go_enter Try.func27, Try.ntmps27
        go_wp2_with fail
        refine HEv.out.mono ?_
        rintro e w' ⟨rfl, d, rfl⟩
        go_wp2_with fail
        go_ret2
        exact ⟨by rw [E.out]; rfl, below_drewN (Below.refl _ _) d⟩

theorem TextsOf.below {w w' : World} {v : Value} {l : List ByteArray} (h : TextsOf w v l) (hb : Below w.heap.size w w') : TextsOf w' v l := by
  obtain ⟨A, c, h1, h2, h3⟩ := h
  exact ⟨A, c, h1, h2.below hb, h3⟩

set_option maxRecDepth 20000 in
set_option maxHeartbeats 2000000 in
theorem joins_walk (v : Value) (l : List ByteArray) (w : World) (hv : TextsOf w v l) :
    Calls Try.prog 6 #[v] w fun e w' => e = .returned (.bool true) ∧ Below w.heap.size w w' := by
  obtain ⟨o, q, hq⟩ : ∃ (o : ByteArray) (q : Int), joinV l = .tuple #[.string o, .int .i64 q] := ⟨_, _, rfl⟩
  have t1 := text_eq o
  have HV := Lib.hid hv
  have HQ := Lib.hid hq
  clear hv hq
  go_enter Try.func6, Try.ntmps6
  go_wp2_with fail
  refine (lend_any v l _ HV.out).mono ?_
  rintro e w1 ⟨g, cap, rfl, hown, hb⟩
  have O1 := Lib.hid hown
  have B1 := Lib.hid hb
  have V1 := Lib.hid (HV.out.below hb)
  clear hown hb
  go_wp2_with fail
  have hj := join_any (some ⟨g, 0, none⟩) cap l w1 (lent_strs O1.out) (by obtain ⟨_, _, _, _, _, h, _⟩ := V1.out; omega) (fun s hs => by obtain ⟨_, _, _, _, _, _, h⟩ := V1.out; have := h s hs; omega)
  rw [HQ.out] at hj
  have HJ := Lib.hid hj
  clear hj
  refine HJ.out.mono ?_
  rintro e w2 ⟨rfl, hb⟩
  have O2 := Lib.hid (st_keep O1.out hb)
  have V2 := Lib.hid (V1.out.below hb)
  have B2 := Lib.hid (B1.out.trans (hb.mono B1.out.size))
  clear hb HJ O1 V1 B1
  go_wp2_with fail
  obtain ⟨A, c, rfl, hst, hnil, hn16, hmax⟩ := V2.out
  have hj := rjoin_any A c l w2 hst (by omega) hmax
  rw [HQ.out] at hj
  have HJ := Lib.hid hj
  clear hj hst hnil hmax
  refine HJ.out.mono ?_
  rintro e w3 ⟨rfl, hb⟩
  have O3 := Lib.hid (st_keep O2.out hb)
  have V3 := Lib.hid (V2.out.below hb)
  have B3 := Lib.hid (B2.out.trans (hb.mono B2.out.size))
  clear hb HJ O2 V2 B2
  go_wp2_with fail
  refine (kept_any _ g cap _ l _ V3.out O3.out).mono ?_
  rintro e w4 ⟨rfl, d, rfl⟩
  go_wp2_with fail
  refine (stworks _).mono ?_
  rintro e w6 ⟨rfl, hb⟩
  have B6 := Lib.hid ((below_drewN B3.out d).trans (hb.mono (by have := B3.out.size; simpa using this)))
  clear hb
  go_wp2_with fail
  go_ret
  exact ⟨rfl, B6.out⟩

end Go.Proofs.Ytmnciipfepeccaa
