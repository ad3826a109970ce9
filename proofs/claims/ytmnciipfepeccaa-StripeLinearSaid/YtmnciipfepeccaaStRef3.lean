/- What the document's own answers of layer 3 do: whether shards are as long, the object of plain bytes, Join; no condition but the range. -/
import Derived.Test.YtmnciipfepeccaaStRef2
namespace Go.Proofs.Ytmnciipfepeccaa
open Go.RowKit

set_option maxRecDepth 20000 in
set_option maxHeartbeats 1000000 in
theorem reven_any (A : Option Addr) (c : Nat) (l : List ByteArray) (w : World) (h : StrsAt w A l) (hpos : 1 ≤ l.length) (hn : l.length ≤ 9223372036854775806) :
    Calls Try.prog 52 #[.slice A l.length c] w fun e w' => e = .returned (.bool (decide (St.Even l))) ∧ ∃ n, w' = w.drewN n := by
  obtain ⟨ad, rfl, hab, hc⟩ := h hpos
  have HC := Lib.hid hc
  have c0 : w.cell? ad = some (.string (l[0]'hpos)) := by have := hc 0 (by omega); rwa [add_zero'] at this
  have hd0 : l.headD ⟨#[]⟩ = l[0] := by cases l with | nil => simp at hpos | cons x r => rfl
  have HD := Lib.hid hd0
  have p0 : (0 : Int) < (l.length : Int) := by omega
  have p0n : 0 < l.length := hpos
  have C0 := Lib.hid c0
  clear h hc hd0 c0
  go_enter Try.func52, Try.ntmps52
  go_wp2_with fail
  go_loopw [3] (fun i wr => ∃ k n : Nat, 1 ≤ k ∧ k ≤ l.length ∧ i = .int .i64 (k : Int) ∧ Hid (∀ j (hj : j < l.length), j < k → l[j].size = l[0].size) ∧ wr = w.drewN n) (fun i _ => l.length - (intOf i).toNat)
  case atStart => exact ⟨1, 0, by omega, by omega, rfl, (fun j hj h => by
    obtain rfl : j = 0 := by omega
    rfl), rfl⟩
  case round =>
    obtain ⟨k, n, hk1, hk, rfl, hev, rfl⟩ := hrel
    by_cases hlt : k < l.length
    · have ck : (w.drewN n).cell? (ad.add k) = some (.string l[k]) := HC.out k hlt
      have c0 : (w.drewN n).cell? ad = some (.string l[0]) := C0.out
      have pk : (k : Int) < (l.length : Int) := by omega
      generalize hW : w.drewN n = W at ck c0
      have HW := Lib.hid hW
      clear hW
      by_cases he : l[k].size = l[0].size
      · have t1 : ((l[k].size : Int) != (l[0].size : Int)) = false := by simp [he]
        have HE := Lib.hid he
        clear he
        go_wp2_with fail
        go_quiet (fail)
        go_wp2
        go_roundw
        case rel => exact ⟨k + 1, _, by omega, by omega, by go_num, (fun j hj hjk => by
          by_cases e : j = k
          · subst e; exact HE.out
          · exact hev.out j hj (by omega)), by rw [← HW.out, World.drewN_drewN]⟩
        case measure => simp [intOf]; omega
      · have t1 : ((l[k].size : Int) != (l[0].size : Int)) = true := by simp; omega
        have E := Lib.hid (show decide (St.Even l) = false by
          rw [decide_eq_false_iff_not]
          intro hE
          have := hE l[k] (List.getElem_mem hlt)
          rw [HD.out] at this
          exact he this)
        clear he
        go_wp2_with fail
        go_quiet (fail)
        go_wp2
        go_ret
        exact ⟨by rw [E.out]; rfl, _, by rw [← HW.out, World.drewN_drewN]⟩
    · have E := Lib.hid (show decide (St.Even l) = true by
        rw [decide_eq_true_eq]
        intro x hx
        obtain ⟨j, hj, rfl⟩ := List.getElem_of_mem hx
        rw [HD.out]
        exact hev.out j hj (by omega))
      go_wp2_with fail
      go_ret
      exact ⟨by rw [E.out]; rfl, _, rfl⟩

theorem num4 (s : ByteArray) (h : 4 ≤ s.size) : ∃ (h0 : 0 < s.size) (h1 : 1 < s.size) (h2 : 2 < s.size) (h3 : 3 < s.size), ((St.numL s.data.toList : Nat) : Int) = ((s[0]'h0).toNat : Int) * 16777216 + ((s[1]'h1).toNat : Int) * 65536 + ((s[2]'h2).toNat : Int) * 256 + ((s[3]'h3).toNat : Int) := by
  refine ⟨by omega, by omega, by omega, by omega, ?_⟩
  obtain ⟨⟨l⟩⟩ := s
  match l with
  | a :: b :: c :: d :: r =>
    show ((St.numL (a :: b :: c :: d :: r) : Nat) : Int) = (a.toNat : Int) * 16777216 + (b.toNat : Int) * 65536 + (c.toNat : Int) * 256 + (d.toNat : Int)
    simp only [St.numL, List.take_succ_cons, List.take_zero, List.foldl_cons, List.foldl_nil]
    omega
  | [] => exact absurd h (by decide)
  | [a] => exact absurd h (by show ¬ 4 ≤ (1 : Nat); omega)
  | [a, b] => exact absurd h (by show ¬ 4 ≤ (2 : Nat); omega)
  | [a, b, c] => exact absurd h (by show ¬ 4 ≤ (3 : Nat); omega)

/-- what the object of plain bytes is told to be -/
def WholeAns (k : Nat) (s : ByteArray) (e : Ending) : Prop := match St.uncut k s.data.toList with
  | some o => e = .returned (.tuple #[.string o, .bool true])
  | none => ∃ o, e = .returned (.tuple #[.string o, .bool false])

set_option maxRecDepth 20000 in
set_option maxHeartbeats 2000000 in
theorem rwhole_any (k : Nat) (s : ByteArray) (w : World) (hk : 1 ≤ k) (hk2 : k ≤ 255) (hs : s.size ≤ 9223372036854775807) :
    Calls Try.prog 53 #[.int .i64 (k : Int), .string s] w fun e w' => WholeAns k s e ∧ Below w.heap.size w w' := by
  have hlen : s.data.toList.length = s.size := St.data_len s
  by_cases h4 : s.size < 4
  · have h4' : (s.size : Int) < 4 := by omega
    have E : Hid (∀ e, e = Ending.returned (.tuple #[.string ⟨#[]⟩, .bool false]) → WholeAns k s e) := fun e he => by
      unfold WholeAns St.uncut
      rw [hlen, if_pos h4]
      exact ⟨_, he⟩
    clear h4 hlen
    go_enter Try.func53, Try.ntmps53
    go_wp2_with fail
    go_ret2
    exact ⟨E.out _ rfl, Below.refl _ _⟩
  · have h4' : ¬ (s.size : Int) < 4 := by omega
    obtain ⟨i0, i1, i2, i3, hnum⟩ := num4 s (by omega)
    have b0 := (s[0]'i0).toNat_lt
    have b1 := (s[1]'i1).toNat_lt
    have b2 := (s[2]'i2).toNat_lt
    have b3 := (s[3]'i3).toNat_lt
    have j0 : (0 : Int) < (s.size : Int) := by omega
    have j1 : (1 : Int) < (s.size : Int) := by omega
    have j2 : (2 : Int) < (s.size : Int) := by omega
    have j3 : (3 : Int) < (s.size : Int) := by omega
    generalize hm : St.numL s.data.toList = m at hnum
    have HM := Lib.hid hm
    have HNum := Lib.hid (show ((s[0]'i0).toNat : Int) * (16777216 : Int) + ((s[1]'i1).toNat : Int) * (65536 : Int) + ((s[2]'i2).toNat : Int) * (256 : Int) + ((s[3]'i3).toNat : Int) = (m : Int) by omega)
    have hm32 : m < 4294967296 := by omega
    have HLen := Lib.hid hlen
    clear hm hlen hnum
    go_enter Try.func53, Try.ntmps53
    go_wp2_with fail
    go_quiet (fail)
    rw [HNum.out]
    have hsub : IntKind.i64.wrap ((s.size : Int) - 4) = (s.size : Int) - 4 := i64_wrap (by omega) (by omega)
    clear HNum hsub
    have hUN : ∀ e o, (2048 < m ∨ s.size - 4 < m) → e = Ending.returned (.tuple #[.string o, .bool false]) → WholeAns k s e := fun e o hbad he => by
      unfold WholeAns St.uncut
      rw [HLen.out, HM.out, if_neg h4, if_pos hbad]
      exact ⟨_, he⟩
    have HUN := Lib.hid hUN
    clear hUN
    by_cases hbig : 2048 < m
    · have hb' : (2048 : Int) < (m : Int) := by omega
      have E : Hid (∀ e, e = Ending.returned (.tuple #[.string ⟨#[]⟩, .bool false]) → WholeAns k s e) := fun e he => HUN.out e _ (.inl hbig) he
      clear hbig
      go_wp2_with fail
      go_ret2
      exact ⟨E.out _ rfl, below_drewN (Below.refl _ _) _⟩
    · have hb' : ¬ (2048 : Int) < (m : Int) := by omega
      by_cases hbig2 : s.size - 4 < m
      · have hb2 : (s.size : Int) - 4 < (m : Int) := by omega
        have E : Hid (∀ e, e = Ending.returned (.tuple #[.string ⟨#[]⟩, .bool false]) → WholeAns k s e) := fun e he => HUN.out e _ (.inr hbig2) he
        clear hbig hbig2
        go_wp2_with fail
        go_ret2
        exact ⟨E.out _ rfl, below_drewN (Below.refl _ _) _⟩
      · have hb2 : ¬ (s.size : Int) - 4 < (m : Int) := by omega
        have hsl : ∀ W, (Instr.slice 9 (.string s) (some (.int .i64 4)) (some (.int .i64 (4 + (m : Int)))) none).run Try.prog W = .ok (.string ⟨((s.data.toList.drop 4).take m).toArray⟩) W := fun W => by
          rw [run_slice_string_if W 9 s .i64 .i64 _ _ Try.underlying9, if_pos (by omega), if_pos (by omega), show ((4 : Int) + (m : Int)).toNat = 4 + m by omega]
          congr 2
          apply ByteArray.ext
          rw [ByteArray.data_extract]
          apply Array.ext'
          simp only [Array.toList_extract, List.extract_eq_take_drop, show (4 : Int).toNat = 4 from rfl, Nat.add_sub_cancel_left]
        obtain ⟨o, ho⟩ : ∃ o : ByteArray, o = ⟨((s.data.toList.drop 4).take m).toArray⟩ := ⟨_, rfl⟩
        rw [← ho] at hsl
        have hos : o.size ≤ 2048 := by
          rw [ho]
          show ((s.data.toList.drop 4).take m).toArray.size ≤ 2048
          rw [List.size_toArray, List.length_take]; omega
        have hu : St.uncut k s.data.toList = if St.plainL k o = s.data.toList then some o else none := by
          unfold St.uncut
          rw [HLen.out, HM.out, if_neg h4, if_neg (by omega), ← ho]
        have HP := Lib.hid (fun w => rplain_any k o w hk hk2 hos)
        by_cases heq : St.plainL k o = s.data.toList
        · have hps : (⟨(St.plainL k o).toArray⟩ : ByteArray) = s := by rw [heq]
          rw [hps] at HP
          have t1 := text_eq s
          have E : Hid (∀ e, e = Ending.returned (.tuple #[.string o, .bool true]) → WholeAns k s e) := fun e he => by
            unfold WholeAns
            rw [hu, if_pos heq]; exact he
          clear hbig hbig2 hu ho heq hps HUN
          go_wp2_with fail
          refine (HP.out _).mono ?_
          rintro e w2 ⟨rfl, hb⟩
          have HB := Lib.hid hb
          clear hb
          go_wp2_with fail
          go_ret2
          exact ⟨E.out _ rfl, (below_drewN (Below.refl _ w) nq).trans HB.out⟩
        · have hps : (⟨(St.plainL k o).toArray⟩ : ByteArray) ≠ s := fun h => heq (by rw [← h])
          generalize (⟨(St.plainL k o).toArray⟩ : ByteArray) = PS at HP hps
          have t1 := text_ne hps
          have E : Hid (∀ e, e = Ending.returned (.tuple #[.string o, .bool false]) → WholeAns k s e) := fun e he => by
            unfold WholeAns
            rw [hu, if_neg heq]; exact ⟨o, he⟩
          clear hbig hbig2 hu ho heq hps HUN
          go_wp2_with fail
          refine (HP.out _).mono ?_
          rintro e w2 ⟨rfl, hb⟩
          have HB := Lib.hid hb
          clear hb
          go_wp2_with fail
          go_ret2
          exact ⟨E.out _ rfl, (below_drewN (Below.refl _ w) nq).trans HB.out⟩

end Go.Proofs.Ytmnciipfepeccaa
