/- Laws over what is asked of the landed package: Cut, Joins. -/
import Derived.Test.YtlamjkagjkmbeaaSuLaw
import Derived.Test.YtlamjkagjkmbeaaSuMath2
namespace Go.Proofs.Ytlamjkagjkmbeaa
namespace Su
open Go.RowKit Bk

attribute [local go_sem ↓] Go.wp_at_zero Go.wp_at_succ
attribute [local go_sem] floatUpon pick

theorem frame_long {t : ByteArray} (h : 4096 < t.size) : frameV t = .tuple #[.string ⟨#[]⟩, .int .i64 2] := if_pos h

theorem frame_fits {t : ByteArray} (h : t.size ≤ 4096) : frameV t = .tuple #[.string (frameB t), .int .i64 0] := if_neg (by omega)

theorem next_cut (t : ByteArray) (n : Nat) (ht : t.size ≤ 4096) (hn : n < t.size + 6) : nextV ⟨((frameL t.data.toList).take n).toArray⟩ 0 = .tuple #[.string ⟨#[]⟩, .int .i64 0, .int .i64 50] := by
  have h := nextV_at (s := ⟨((frameL t.data.toList).take n).toArray⟩) (a := 0) (Nat.zero_le _)
  rw [show (⟨((frameL t.data.toList).take n).toArray⟩ : ByteArray).data.toList.drop 0 = (frameL t.data.toList).take n from rfl, restR_cut _ (by rw [list_size]; exact ht) n (by rw [list_size]; exact hn)] at h
  exact h

set_option maxRecDepth 20000 in
set_option maxHeartbeats 1000000 in
theorem cut_walk (HO : OfAll) (HF : FrameAll) (HN : NextAll) (t : ByteArray) (hreach : t.size ≤ reachBytes) (i : Int) (w : World) :
    Calls Try.prog 7 #[.string t, .int .i64 i] w fun e w' => e = .returned (.bool true) ∧ Below w.heap.size w w' := by
  have ht : t.size ≤ 140737488351232 := by unfold reachBytes at hreach; omega
  have hF := fun W => HF t W ht
  have HW := Lib.hid (suworks HO)
  by_cases hlong : 4096 < t.size
  · rw [frame_long hlong] at hF
    have F1 := Lib.hid hF
    have pl : (4096 : Int) < (t.size : Int) := by omega
    clear hF HF HN HO hreach ht hlong
    go_enter Try.func7, Try.ntmps7
    go_wp2_with fail
    refine (HW.out _).mono ?_
    rintro e w1 ⟨rfl, hb⟩
    have B1 := Lib.hid hb
    clear hb
    go_wp2_with fail
    refine (F1.out _).mono ?_
    rintro e w2 ⟨rfl, hb⟩
    have B2 := Lib.hid (B1.out.trans (hb.mono B1.out.size))
    clear hb B1 F1
    go_wp2_with fail
    go_ret
    exact ⟨rfl, B2.out⟩
  · have hfit : t.size ≤ 4096 := by omega
    rw [frame_fits hfit] at hF
    have F1 := Lib.hid hF
    have hz := frameB_size t
    have hA := fun W => among_any i (t.size + 6) W (by omega) (by omega)
    have hlt := amongV_lt i (t.size + 6) (by omega)
    generalize amongV i (t.size + 6) = n at hA hlt
    have HA := Lib.hid hA
    have hto := fun W => str_to (frameB t) n (by omega) (n : Int) rfl W
    rw [show (frameB t).data.toList = frameL t.data.toList from rfl] at hto
    have hN := fun W => HN ⟨((frameL t.data.toList).take n).toArray⟩ 0 W (by rw [cat_size, List.length_take, frameL_len, list_size]; omega) (by decide)
    rw [next_cut t n hfit hlt] at hN
    have N1 := Lib.hid hN
    have hsz : ((frameB t).size : Int) = ((t.size + 6 : Nat) : Int) := by rw [hz]
    clear hA hN hF HF HN HO hreach ht hlong
    generalize (⟨((frameL t.data.toList).take n).toArray⟩ : ByteArray) = P at hto N1
    generalize frameB t = FB at *
    generalize t.size + 6 = m at *
    have pn : (n : Int) < (m : Int) := by omega
    subst hz
    clear hsz
    go_enter Try.func7, Try.ntmps7
    go_wp2_with fail
    refine (HW.out _).mono ?_
    rintro e w1 ⟨rfl, hb⟩
    have B1 := Lib.hid hb
    clear hb
    go_wp2_with fail
    refine (F1.out _).mono ?_
    rintro e w2 ⟨rfl, hb⟩
    have B2 := Lib.hid (B1.out.trans (hb.mono B1.out.size))
    clear hb B1 F1
    go_wp2_with fail
    refine (HA.out _).mono ?_
    rintro e w3 ⟨rfl, he3⟩
    obtain rfl := he3
    clear HA
    go_wp2_with fail
    refine (N1.out _).mono ?_
    rintro e w4 ⟨rfl, hb⟩
    have B4 := Lib.hid (B2.out.trans (hb.mono B2.out.size))
    clear hb B2 N1
    go_wp2_with fail
    go_ret
    exact ⟨rfl, B4.out⟩

end Su
end Go.Proofs.Ytlamjkagjkmbeaa
