/- The walk of the law that what is split is joined again; no condition but the form's reach. -/
import Derived.Test.YtmnciipfepeccaaStLaw0
namespace Go.Proofs.Ytmnciipfepeccaa
open Go.RowKit

theorem allS_size {k : Nat} (hk : 1 ≤ k) (m : Nat) (s : ByteArray) (x : ByteArray) (hx : x ∈ allS k m s) : x.size = St.szN k s.size := by
  unfold allS at hx
  rcases List.mem_append.1 hx with h | h
  · exact St.shards_size hk s x h
  · unfold parL at h
    obtain ⟨i, _, rfl⟩ := List.mem_map.1 h
    exact parS_size _ _ _ _

theorem allS_left (k m : Nat) (s : ByteArray) (i : Nat) (h : i < k) : (St.shards k s)[i]? = (allS k m s)[i]? := by
  unfold allS
  rw [List.getElem?_append_left (by rw [St.shards_len]; exact h)]

theorem join_is (A : Option Addr) (c : Nat) (l : List ByteArray) (o : ByteArray) (q : Nat) (w : World) (h : StrsAt w A l) (hn : l.length ≤ 9223372036854775807) (hmax : ∀ s ∈ l, s.size ≤ 9223372036854775807) (ha : St.joinAns l = (o, q)) :
    Calls Try.prog 26 #[.slice A l.length c] w fun e w' => e = .returned (.tuple #[.string o, .int .i64 (q : Int)]) ∧ Below w.heap.size w w' := by
  have h1 := join_any A c l w h hn hmax
  unfold joinV at h1
  rw [ha] at h1
  exact h1

theorem split_is (k : Nat) (s : ByteArray) (w : World) (h1 : 1 ≤ k) (h2 : k ≤ 255) (hs : s.size ≤ 2048) :
    Calls Try.prog 21 #[.int .i64 (k : Int), .string s] w fun e w' =>
      ∃ g, e = .returned (.tuple #[.slice (some ⟨g, 0, none⟩) k k, .int .i64 0]) ∧ w.heap.size ≤ g ∧ StrBlk w' g (St.shards k s) ∧ Below w.heap.size w w' :=
  (split_any (k : Int) s w (by omega)).mono fun e w' ⟨h, hb⟩ => by
    unfold SplitAns at h
    rw [if_pos (show codeB (k : Int) 0 = true from codeB_yes (m := 0) h1 (by omega)), if_pos hs, Int.toNat_natCast] at h
    obtain ⟨g, e1, e2, e3⟩ := h
    exact ⟨g, e1, e2, e3, hb⟩

theorem encode_is (k m : Nat) (s : ByteArray) (w : World) (h1 : 1 ≤ k) (h2 : k + m ≤ 255) (hs : s.size ≤ 2048) :
    Calls Try.prog 30 #[.int .i64 (k : Int), .int .i64 (m : Int), .string s] w fun e w' =>
      ∃ g cap, e = .returned (.tuple #[.slice (some ⟨g, 0, none⟩) (k + m) cap, .int .i64 0]) ∧ w'.ownsRow w.heap.size 9 1 (.slice (some ⟨g, 0, none⟩) (k + m) cap) (k + m) (strV (allS k m s)) ∧ Below w.heap.size w w' :=
  (encode_any (k : Int) (m : Int) s w (by omega)).mono fun e w' ⟨h, hb⟩ => by
    unfold EncodeAns at h
    rw [if_pos (codeB_yes h1 h2), if_pos hs, Int.toNat_natCast, Int.toNat_natCast] at h
    obtain ⟨v, e1, e2⟩ := h
    obtain ⟨g, cap, rfl, _⟩ := World.ownsRow.form e2 (by omega)
    exact ⟨g, cap, e1, e2, hb⟩

theorem Size_is (k n : Int) (v : Value) (w : World) (h : sizeAns k n = v) : Calls Try.prog 19 #[.int .i64 k, .int .i64 n] w fun e w' => e = .returned v ∧ w' = w := by
  subst h; exact Size_any k n w

set_option maxRecDepth 100000 in
set_option maxHeartbeats 2000000 in
theorem back_walk (k0 : Int) (s : ByteArray) (hreach : s.size ≤ reachBytes) (w : World) :
    Calls Try.prog 9 #[.int .i64 k0, .string s] w fun e w' => e = .returned (.bool true) ∧ Below w.heap.size w w' := by
  have hka := amongV_lt k0 12 (by omega)
  have HA1 := Lib.hid (fun w => among_any k0 12 w (by omega) (by omega))
  generalize amongV k0 12 = ka at *
  obtain ⟨k, hk⟩ : ∃ k, k = 1 + ka := ⟨_, rfl⟩
  have k1 : 1 ≤ k := by omega
  have k2 : k ≤ 12 := by omega
  have HK := Lib.hid (show (1 : Int) + ((ka : Nat) : Int) = (k : Int) by omega)
  have hs63 : s.size ≤ 9223372036854775807 := by unfold reachBytes at hreach; omega
  clear hk hreach
  by_cases hs : s.size ≤ 2048
  · have hs' : (s.size : Int) ≤ 2048 := by omega
    have HS1 := Lib.hid (sizeAns_yes k1 (show k ≤ 255 by omega) hs)
    obtain ⟨n, hn⟩ : ∃ n, n = St.szN k s.size := ⟨_, rfl⟩
    have HSp := Lib.hid (fun w => split_is k s w k1 (by omega) hs)
    have HEn := Lib.hid (fun w => encode_is k 2 s w k1 (by omega) hs)
    have HSz := Lib.hid (fun w => Size_is (k : Int) (s.size : Int) _ w HS1.out)
    have HJo := Lib.hid (fun A c w h => join_is A c (St.shards k s) s 0 w h (by rw [St.shards_len]; omega) (fun x hx => by rw [St.shards_size k1 s x hx]; have := St.sz_bound1 (n := s.size) k1 hs; omega) (St.join_back k1 (by omega) s hs))
    rw [St.shards_len] at HJo
    rw [← hn] at HSz
    have HAll := Lib.hid (fun x hx => allS_size k1 2 s x hx)
    rw [← hn] at HAll
    have hl1 := St.shards_len k s
    have hl2 := allS_len k 2 s
    have HLeft := Lib.hid (fun i h => allS_left k 2 s i h)
    generalize allS k 2 s = AL at *
    generalize St.shards k s = SL at *
    have HL1 := Lib.hid hl1
    have HL2 := Lib.hid hl2
    clear hn HS1 hs hl1 hl2
    have t1 := text_eq s
    go_enter Try.func9, Try.ntmps9
    go_wp2_with fail
    refine (stworks _).mono ?_
    rintro e w1 ⟨rfl, hb⟩
    have B1 := Lib.hid hb
    clear hb
    go_wp2_with fail
    refine (HA1.out _).mono ?_
    rintro e w2 ⟨rfl, rfl⟩
    go_wp2_with fail
    rw [HK.out]
    refine (HSp.out _).mono ?_
    rintro e w3 ⟨g1, rfl, _, hsb, hb⟩
    have S3 := Lib.hid hsb
    have B3 := Lib.hid (B1.out.trans (hb.mono B1.out.size))
    clear hsb hb B1
    go_wp2_with fail
    refine (HSz.out _).mono ?_
    rintro e w4 ⟨rfl, rfl⟩
    go_wp2_with fail
    refine (HJo.out _ _ _ (StrsAt.blk S3.out)).mono ?_
    rintro e w5 ⟨rfl, hb⟩
    have S5 := Lib.hid (S3.out.below hb)
    have B5 := Lib.hid (B3.out.trans (hb.mono B3.out.size))
    clear hb B3 S3
    go_wp2_with fail
    refine (HEn.out _).mono ?_
    rintro e w6 ⟨g2, cap, rfl, hown, hb⟩
    have S6 := Lib.hid (S5.out.below hb)
    have O6 := Lib.hid hown
    have B6 := Lib.hid (B5.out.trans (hb.mono B5.out.size))
    clear hb B5 S5 hown
    go_wp2_with fail
    go_loopw [80] (fun i wr => ∃ j d : Nat, j ≤ k + 2 ∧ i = .int .i64 (j : Int) ∧ wr = w6.drewN d) (fun i _ => k + 2 - (intOf i).toNat)
    case atStart => exact ⟨0, 0, by omega, rfl, rfl⟩
    case round =>
      obtain ⟨j, d, hj, rfl, rfl⟩ := hrel
      by_cases hlt : j < k + 2
      · have hjA : j < AL.length := by rw [HL2.out]; exact hlt
        have c1 : (w6.drewN d).cell? ⟨g2, j, none⟩ = some (.string AL[j]) := by
          show w6.cell? _ = _
          rw [World.ownsRow.cellAt O6.out j (by omega), strV_at hjA]
        have hsz : ((AL[j].size : Int) != (n : Int)) = false := by rw [HAll.out _ (List.getElem_mem hjA)]; simp
        have pj : (j : Int) < (k : Int) + 2 := by omega
        have pj2 : (j : Int) < ((k + 2 : Nat) : Int) := by omega
        have hcap : k + 2 ≤ cap := by
          rcases O6.out.2 with ⟨h1, h2⟩ | ⟨g', cap', cur, h1, _, _, h3, _⟩
          · simp at h1
          · simp only [Value.slice.injEq] at h1; omega
        by_cases hjk : j < k
        · have hjS : j < SL.length := by rw [HL1.out]; exact hjk
          have c2 : (w6.drewN d).cell? ⟨g1, j, none⟩ = some (.string AL[j]) := by
            show w6.cell? _ = _
            have h1 := HLeft.out j hjk
            rw [List.getElem?_eq_getElem hjA] at h1
            refine blk_cell S6.out ?_
            rw [List.getElem?_toArray]
            unfold strV
            rw [List.getElem?_map, h1]; rfl
          have q1 : decide ((j : Int) < (k : Int)) = true := by simp; omega
          have q2 : (j : Int) < (k : Int) := by omega
          have t2 := text_eq AL[j]
          generalize hW : w6.drewN d = W at c1 c2
          have HW := Lib.hid hW
          clear hW
          go_wp2_with fail
          go_quiet (fail)
          go_wp2
          go_roundw
          case rel => exact ⟨j + 1, _, by omega, by go_num, by rw [← HW.out, World.drewN_drewN]⟩
          case measure => simp [intOf]; omega
        · have q1 : decide ((j : Int) < (k : Int)) = false := by simp; omega
          generalize hW : w6.drewN d = W at c1
          have HW := Lib.hid hW
          clear hW
          go_wp2_with fail
          go_quiet (fail)
          go_wp2
          go_roundw
          case rel => exact ⟨j + 1, _, by omega, by go_num, by rw [← HW.out, World.drewN_drewN]⟩
          case measure => simp [intOf]; omega
      · have hnl : ¬ (j : Int) < ((k + 2 : Nat) : Int) := by omega
        have hnl2 : ¬ (j : Int) < (k : Int) + 2 := by omega
        go_wp2_with fail
        go_ret
        exact ⟨rfl, below_drewN B6.out d⟩
  · have hs' : (2048 : Int) < (s.size : Int) := by omega
    clear hs
    go_enter Try.func9, Try.ntmps9
    go_wp2_with fail
    refine (stworks _).mono ?_
    rintro e w1 ⟨rfl, hb⟩
    have B1 := Lib.hid hb
    clear hb
    go_wp2_with fail
    refine (HA1.out _).mono ?_
    rintro e w2 ⟨rfl, rfl⟩
    go_wp2_with fail
    go_ret
    exact ⟨rfl, B1.out⟩

end Go.Proofs.Ytmnciipfepeccaa
