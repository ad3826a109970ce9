/- The law of package pack: what is cut, or goes on, is refused. -/
import Derived.Test.YtklbahagcdfccaaPkBack
import Derived.Test.YtklbahagcdfccaaBkStr
namespace Go.Proofs.Ytklbahagcdfccaa
namespace Pk
open Go.RowKit Bk

attribute [local go_sem ↓] Go.wp_at_zero Go.wp_at_succ
attribute [local go_sem] floatUpon pick

set_option maxHeartbeats 1000000 in
theorem among_big (x : Int) (n : Nat) (w : World) (h1 : 1 ≤ n) (h2 : n ≤ 1000000000) :
    Calls Try.prog 21 #[.int .i64 x, .int .i64 (n : Int)] w fun e w' => e = .returned (.int .i64 ((amongV x n : Nat) : Int)) ∧ w' = w := by
  obtain ⟨e1, e2, e3⟩ := among_eq x n h1
  have e4 : ((n : Int) == 0) = false := by simp; omega
  have e6 : wrap64 (x.tmod (n : Int) + (n : Int)) = x.tmod (n : Int) + (n : Int) := IntWalk.wrap64_in _ ⟨by omega, by omega⟩
  have E : Hid ((wrap64 (x.tmod (n : Int) + (n : Int))).tmod (n : Int) = ((amongV x n : Nat) : Int)) := by
    show _ = _
    rw [e6, e1]
  clear e1 e2 e3 e6
  go_enter Try.func21, Try.ntmps21
  go_wp2
  go_ret
  exact ⟨ret_int E.out, rfl⟩

theorem bytesL_pos (ns : List Int) (ts : List ByteArray) : 1 ≤ (bytesL ns ts).length := by
  have := plain_pos ns.length
  unfold bytesL
  rw [List.length_append]
  omega

theorem dec_cut {ns : List Int} {ts : List ByteArray} (h : MayBe ns ts) {j : Nat} (hj : j < (bytesL ns ts).length) : decR ⟨((bytesL ns ts).take j).toArray⟩ = ([], [], j, 50) := by
  unfold decR
  rw [show (⟨((bytesL ns ts).take j).toArray⟩ : ByteArray).data.toList = (bytesL ns ts).take j from rfl, decL_cut h hj]
  simp only [Er.place, Er.code]
  rw [cat_size, List.length_take, Nat.min_eq_left (Nat.le_of_lt hj)]

theorem dec_more {ns : List Int} {ts : List ByteArray} (h : MayBe ns ts) : decR ⟨(bytesL ns ts ++ [120]).toArray⟩ = ([], [], (bytesL ns ts).length, 3) := by
  unfold decR
  have e : (⟨(bytesL ns ts ++ ([120] : List UInt8)).toArray⟩ : ByteArray).data.toList = bytesL ns ts ++ ([120] : List UInt8) := rfl
  rw [e, decL_bytes h, if_neg (by simp)]
  simp only [Er.place, Er.code]
  rw [cat_size, List.length_append, List.length_singleton, Nat.add_sub_cancel]

set_option maxRecDepth 20000 in
set_option maxHeartbeats 2000000 in
theorem cuts_walk (HE : EncodeAll) (HD : DecodeAll) (A B : Option Addr) (c d : Nat) (ns : List Int) (ts : List ByteArray) (x : Int) (w : World) (ha : IntsAt w A ns) (hb : StrsAt w B ts) (harg : ArgOk c d ns ts) :
    Calls Try.prog 6 #[.agg #[.slice A ns.length c, .slice B ts.length d], .int .i64 x] w fun e w' => e = .returned (.bool true) ∧ Below w.heap.size w w' := by
  have HW := Lib.hid (pkworks HE)
  have HEnv := Lib.hid (PkEnv.start (c := c) (d := d) ha hb)
  have hE1 := fun W (h : PkEnv w W w.heap.size A B c d ns ts) => HE A B c d ns ts W h.1 h.2.1 harg
  by_cases hz : ckE ns ts = 0
  · have hm := ckE_zero.1 hz
    rw [encV_ok hm] at hE1
    have hpos := bytesL_pos ns ts
    have hle := bytesL_le hm
    have hlt := amongV_lt x (bytesL ns ts).length hpos
    have hAm := fun W => among_big x (bytesL ns ts).length W hpos (by omega)
    obtain ⟨n, hn⟩ : ∃ n, n = amongV x (bytesL ns ts).length := ⟨_, rfl⟩
    rw [← hn] at hlt hAm
    have hD1 := fun W => HD ⟨((bytesL ns ts).take n).toArray⟩ W (by rw [cat_size, List.length_take]; omega)
    have hD2 := fun W => HD ⟨(bytesL ns ts ++ [120]).toArray⟩ W (by rw [cat_size, List.length_append, List.length_singleton]; omega)
    unfold DecAns2 at hD1 hD2
    rw [dec_cut hm hlt] at hD1
    rw [dec_more hm] at hD2
    have hX : (⟨(bytesL ns ts).toArray⟩ : ByteArray).size = (bytesL ns ts).length := cat_size _
    have hto := fun W => str_to ⟨(bytesL ns ts).toArray⟩ n (by rw [hX]; omega) (n : Int) rfl W
    rw [show (⟨(bytesL ns ts).toArray⟩ : ByteArray).data.toList = bytesL ns ts from rfl] at hto
    have hadd := fun W => run_string_add_sum (P := Try.prog) W ⟨(bytesL ns ts).toArray⟩ ⟨#[120]⟩ (by rw [hX]; show (bytesL ns ts).length + 1 ≤ _; omega)
    rw [show (⟨(bytesL ns ts).toArray⟩ : ByteArray) ++ ⟨#[120]⟩ = ⟨(bytesL ns ts ++ [120]).toArray⟩ from text_cat _ [120]] at hadd
    unfold packV at hE1 hD1 hD2
    generalize (⟨((bytesL ns ts).take n).toArray⟩ : ByteArray) = X1 at *
    generalize (⟨(bytesL ns ts ++ [120]).toArray⟩ : ByteArray) = X2 at *
    generalize (⟨(bytesL ns ts).toArray⟩ : ByteArray) = X at *
    rw [← hX] at hAm hD2 hlt hle hpos
    have HE1 := Lib.hid hE1
    have HD1 := Lib.hid hD1
    have HD2 := Lib.hid hD2
    have HA := Lib.hid hAm
    have pn : (n : Int) < (X.size : Int) := by omega
    have px : (X.size : Int) ≤ 5000000 := by omega
    clear hE1 hD1 hD2 hAm HE HD harg ha hb hz hm hX hlt hle hpos hn
    go_enter Try.func6, Try.ntmps6
    go_upto_region 1 with fail
    generalize w.alloc (.cells #[.slice A ns.length c, .slice B ts.length d] 25) = W1 at *
    go_wp2_with fail
    refine (HW.out _).mono ?_
    rintro e w1 ⟨rfl, hb⟩
    have P1 := Lib.hid (HEnv.out.step hb)
    have k0 := P1.out.c0
    have k1 := P1.out.c1
    clear hb HEnv HW
    go_wp2_with fail
    refine (HE1.out _ P1.out).mono ?_
    rintro e w2 ⟨rfl, hb⟩
    have B2 := Lib.hid ((P1.out.step hb).2.2.2)
    clear hb k0 k1 P1 HE1
    go_wp2_with fail
    refine (HA.out _).mono ?_
    rintro e w3 ⟨rfl, rfl⟩
    go_wp2_with fail
    refine (HD1.out _).mono ?_
    rintro e w4 ⟨A', B', c', d', rfl, -, -, hb, -⟩
    have B4' := B2.out.trans (hb.mono B2.out.size)
    have B4 := Lib.hid (B4'.alloc B4'.size (.cells #[.slice A' 0 c', .slice B' 0 d'] 25))
    clear hb B2 HD1 B4'
    go_wp2_with fail
    refine (HD2.out _).mono ?_
    rintro e w5 ⟨A5, B5, c5, d5, rfl, -, -, hb, -⟩
    have B5' := Lib.hid (B4.out.trans (hb.mono B4.out.size))
    clear hb B4 HD2
    go_wp2_with fail
    go_ret
    first | exact ⟨rfl, B5'.out⟩ | exact ⟨rfl, B5'.out.alloc B5'.out.size _⟩
  · rw [encV_bad hz] at hE1
    have hne : (((ckE ns ts : Nat) : Int) != 0) = true := by simp; omega
    unfold packV at hE1
    generalize ckE ns ts = C at *
    have HE1 := Lib.hid hE1
    clear hz hE1 HE HD harg ha hb
    go_enter Try.func6, Try.ntmps6
    go_upto_region 1 with fail
    generalize w.alloc (.cells #[.slice A ns.length c, .slice B ts.length d] 25) = W1 at *
    go_wp2_with fail
    refine (HW.out _).mono ?_
    rintro e w1 ⟨rfl, hb⟩
    have P1 := Lib.hid (HEnv.out.step hb)
    have k0 := P1.out.c0
    have k1 := P1.out.c1
    clear hb HEnv HW
    go_wp2_with fail
    refine (HE1.out _ P1.out).mono ?_
    rintro e w2 ⟨rfl, hb⟩
    have B2 := Lib.hid ((P1.out.step hb).2.2.2)
    clear hb k0 k1 P1 HE1
    go_wp2_with fail
    go_ret
    exact ⟨rfl, B2.out⟩

end Pk
end Go.Proofs.Ytklbahagcdfccaa
