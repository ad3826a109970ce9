/- The document's own Encode; the walks of the laws that the shards of any object, and the parity of any shards, are those of the document; no condition but the form's reach. -/
import Derived.Test.YtmnciipfepeccaaStRef4
import Derived.Test.YtmnciipfepeccaaStKept
namespace Go.Proofs.Ytmnciipfepeccaa
open Go.RowKit

set_option maxRecDepth 20000 in
set_option maxHeartbeats 2000000 in
theorem rencode_any (k m : Int) (s : ByteArray) (w : World) (hreach : s.size ≤ 9223372036854775807) :
    Calls Try.prog 31 #[.int .i64 k, .int .i64 m, .string s] w fun e w' => EncodeAns w.heap.size k m s e w' ∧ Below w.heap.size w w' := by
  cases hc : codeB k m
  · have E : Hid (∀ w' e, e = Ending.returned (.tuple #[.slice none 0 0, .int .i64 1]) → EncodeAns w.heap.size k m s e w') := fun w' e he => by unfold EncodeAns; rw [if_neg (by simp [hc])]; exact he
    have HC := Lib.hid hc
    clear hc
    go_enter Try.func31, Try.ntmps31
    go_wp2_with fail
    refine (rcode_any _ _ _).mono ?_
    rintro e w' ⟨rfl, rfl⟩
    rw [HC.out]
    go_wp2_with fail
    go_ret2
    exact ⟨E.out _ _ rfl, Below.refl _ _⟩
  · obtain ⟨a, b, rfl, rfl, h1, h2⟩ := codeB_nat hc
    have HC := Lib.hid hc
    have HSp := Lib.hid (fun w => rsplit_any (a : Int) s w hreach)
    have ha : codeB (a : Int) 0 = true := codeB_yes (m := 0) h1 (by omega)
    by_cases hs : s.size ≤ 2048
    · have ES : Hid (∀ H e w', RSplitAns H (a : Int) s e w' → ∃ g cap, e = .returned (.tuple #[.slice (some ⟨g, 0, none⟩) a cap, .int .i64 0]) ∧ w'.ownsRow H 9 1 (.slice (some ⟨g, 0, none⟩) a cap) a (strV (St.shards a s))) := fun H e w' h => by
        unfold RSplitAns at h; rw [if_pos ha, if_pos hs, Int.toNat_natCast] at h
        obtain ⟨v, e1, e2⟩ := h
        obtain ⟨g, cap, rfl, _⟩ := World.ownsRow.form e2 (by omega)
        exact ⟨g, cap, e1, e2⟩
      have EP : Hid (∀ e w', RParityAns (a : Int) (b : Int) (St.shards a s) e w' → ∃ ad c, e = .returned (.tuple #[.slice (some ad) b c, .int .i64 0]) ∧ StrsAt w' (some ad) (parL a b (St.shards a s) (St.szN a s.size))) := fun e w' h => by
        have hd0 : ((St.shards a s).headD ⟨#[]⟩).size = St.szN a s.size := by
          cases hx : St.shards a s with
          | nil => have := St.shards_len a s; rw [hx] at this; simp at this; omega
          | cons x r => exact St.shards_size h1 s x (by rw [hx]; simp)
        unfold RParityAns at h
        rw [if_pos hc, if_pos ⟨by rw [St.shards_len], St.even_shards h1 s⟩, hd0, if_neg (by have := St.sz_bound1 (n := s.size) h1 hs; omega), Int.toNat_natCast, Int.toNat_natCast] at h
        obtain ⟨ad, c, e1, _, e3⟩ := h
        exact ⟨ad, c, e1, e3⟩
      have E : Hid (∀ w' e v, e = Ending.returned (.tuple #[v, .int .i64 0]) → w'.ownsRow w.heap.size 9 1 v (a + b) (strV (allS a b s)) → EncodeAns w.heap.size (a : Int) (b : Int) s e w') := fun w' e v he h => by
        unfold EncodeAns; rw [if_pos hc, if_pos hs, Int.toNat_natCast, Int.toNat_natCast]; exact ⟨v, he, h⟩
      have HPar : Hid (∀ A c w, StrsAt w A (St.shards a s) → Calls Try.prog 33 #[.int .i64 (a : Int), .int .i64 (b : Int), .slice A a c] w fun e w' => RParityAns (a : Int) (b : Int) (St.shards a s) e w' ∧ Below w.heap.size w w') := fun A c w h => by
        have h3 := rParity_any (a : Int) (b : Int) A c (St.shards a s) w h (by rw [St.shards_len]; omega) (fun x hx => by rw [St.shards_size h1 s x hx]; have := St.sz_bound1 (n := s.size) h1 hs; omega)
        rw [St.shards_len] at h3
        exact h3
      obtain ⟨i0, hi, hz0, hz1, hz2⟩ := info_parts Try.infoStr
      clear hc hs ha
      go_enter Try.func31, Try.ntmps31
      go_wp2_with fail
      refine (rcode_any _ _ _).mono ?_
      rintro e w' ⟨rfl, rfl⟩
      rw [HC.out]
      go_wp2_with fail
      refine (HSp.out _).mono ?_
      rintro e w2 ⟨hans, hb⟩
      obtain ⟨g, cap, rfl, hown⟩ := ES.out _ _ _ hans
      have B2 := Lib.hid hb
      have O2 := Lib.hid hown
      clear hans hb hown
      go_wp2_with fail
      refine (HPar.out _ _ _ (StrsAt.own O2.out (St.shards_len a s).symm)).mono ?_
      rintro e w3 ⟨hans, hb⟩
      obtain ⟨ad, c, rfl, hst⟩ := EP.out _ _ hans
      have B3 := Lib.hid (B2.out.trans (hb.mono B2.out.size))
      have O3 := Lib.hid (st_keep O2.out hb)
      have P3 := Lib.hid hst
      clear hb hans B2 O2 hst
      go_wp2_with (at_builtin; refine wpList_append_own _ rfl _ _ 40 rfl w'.heap.size 9 i0 (.string ⟨#[]⟩) 1 16 Try.underlying40 hi hz0 hz1 hz2 rfl (by decide) _ _ _ rfl O3.out ad b c (strV (parL a b (St.shards a s) (St.szN a s.size))) rfl (by rw [strV_len, parL_len, Nat.mul_one]) P3.out.news (strV_one _) ?c3 ?c4 ?c5 ?_)
      case c3 => unfold maxLen; omega
      case c4 => omega
      case c5 => exact B3.out.size
      intro v' w5 hown' hgrow _
      have HB : Hid (Below w'.heap.size w' w5) := B3.out.grown hgrow B3.out.size (fun k hk => (World.ownsRow.lt O3.out k hk).1)
      have HO5 : Hid (w5.ownsRow w'.heap.size 9 1 v' (a + b) (strV (allS a b s))) := by
        show World.ownsRow _ _ _ _ _ _ _
        unfold allS strV
        rw [List.map_append]
        exact hown'
      clear hown' hgrow
      go_wp2_with fail
      go_ret2
      exact ⟨E.out _ _ _ rfl HO5.out, HB.out⟩
    · have ES : Hid (∀ H e w', RSplitAns H (a : Int) s e w' → e = .returned (.tuple #[.slice none 0 0, .int .i64 2])) := fun H e w' h => by
        unfold RSplitAns at h; rw [if_pos ha, if_neg hs] at h; exact h
      have E : Hid (∀ w' e, e = Ending.returned (.tuple #[.slice none 0 0, .int .i64 2]) → EncodeAns w.heap.size (a : Int) (b : Int) s e w') := fun w' e he => by
        unfold EncodeAns; rw [if_pos hc, if_neg hs]; exact he
      clear hc hs ha
      go_enter Try.func31, Try.ntmps31
      go_wp2_with fail
      refine (rcode_any _ _ _).mono ?_
      rintro e w' ⟨rfl, rfl⟩
      rw [HC.out]
      go_wp2_with fail
      refine (HSp.out _).mono ?_
      rintro e w2 ⟨hans, hb⟩
      have he := ES.out _ _ _ hans
      subst he
      have B2 := Lib.hid hb
      clear hans hb
      go_wp2_with fail
      go_ret2
      exact ⟨E.out _ _ rfl, B2.out⟩

/-- Encode tells a list, and an error -/
theorem enc_both (k m : Int) (s : ByteArray) : ∃ (l : List ByteArray) (q : Int), l.length ≤ 255 ∧
    (∀ H e w', EncodeAns H k m s e w' → ∃ A c, e = .returned (.tuple #[.slice A l.length c, .int .i64 q]) ∧ StrsAt w' A l) := by
  cases hc : codeB k m
  · exact ⟨[], 1, by simp, fun H e w' h => by unfold EncodeAns at h; rw [if_neg (by simp [hc])] at h; exact ⟨none, 0, h, fun h => absurd h (by simp)⟩⟩
  · obtain ⟨a, b, rfl, rfl, h1, h2⟩ := codeB_nat hc
    by_cases hs : s.size ≤ 2048
    · refine ⟨allS a b s, 0, by rw [allS_len]; omega, fun H e w' h => ?_⟩
      unfold EncodeAns at h
      rw [if_pos hc, if_pos hs, Int.toNat_natCast, Int.toNat_natCast] at h
      obtain ⟨v, e1, e2⟩ := h
      obtain ⟨g, cap, rfl, _⟩ := World.ownsRow.form e2 (by omega)
      exact ⟨some ⟨g, 0, none⟩, cap, by rw [allS_len]; exact e1, StrsAt.own e2 (allS_len a b s).symm⟩
    · exact ⟨[], 2, by simp, fun H e w' h => by unfold EncodeAns at h; rw [if_pos hc, if_neg hs] at h; exact ⟨none, 0, h, fun h => absurd h (by simp)⟩⟩

/-- both tell the same list, and the same error -/
theorem par_both (k m : Int) (l : List ByteArray) : ∃ (r : List ByteArray) (q : Int), r.length ≤ 255 ∧
    (∀ H e w', ParityAns H k m l e w' → ∃ A c, e = .returned (.tuple #[.slice A r.length c, .int .i64 q]) ∧ StrsAt w' A r) ∧
    (∀ e w', RParityAns k m l e w' → ∃ A c, e = .returned (.tuple #[.slice A r.length c, .int .i64 q]) ∧ StrsAt w' A r) := by
  cases hc : codeB k m
  · exact ⟨[], 1, by simp, fun H e w' h => by unfold ParityAns at h; rw [if_neg (by simp [hc])] at h; exact ⟨none, 0, h, fun h => absurd h (by simp)⟩,
      fun e w' h => by unfold RParityAns at h; rw [if_neg (by simp [hc])] at h; exact ⟨none, 0, h, fun h => absurd h (by simp)⟩⟩
  · obtain ⟨a, b, rfl, rfl, h1, h2⟩ := codeB_nat hc
    by_cases hl : (l.length : Int) = (a : Int) ∧ St.Even l
    · by_cases hbig : 2052 < (l.headD ⟨#[]⟩).size
      · exact ⟨[], 2, by simp, fun H e w' h => by unfold ParityAns at h; rw [if_pos hc, if_pos hl, if_pos hbig] at h; exact ⟨none, 0, h, fun h => absurd h (by simp)⟩,
          fun e w' h => by unfold RParityAns at h; rw [if_pos hc, if_pos hl, if_pos hbig] at h; exact ⟨none, 0, h, fun h => absurd h (by simp)⟩⟩
      · refine ⟨parL a b l (l.headD ⟨#[]⟩).size, 0, by rw [parL_len]; omega, fun H e w' h => ?_, fun e w' h => ?_⟩
        · unfold ParityAns at h
          rw [if_pos hc, if_pos hl, if_neg hbig, Int.toNat_natCast, Int.toNat_natCast] at h
          obtain ⟨g, e1, _, e3⟩ := h
          exact ⟨_, _, by rw [parL_len]; exact e1, StrsAt.blk e3⟩
        · unfold RParityAns at h
          rw [if_pos hc, if_pos hl, if_neg hbig, Int.toNat_natCast, Int.toNat_natCast] at h
          obtain ⟨ad, c, e1, _, e3⟩ := h
          exact ⟨_, _, by rw [parL_len]; exact e1, e3⟩
    · exact ⟨[], 4, by simp, fun H e w' h => by unfold ParityAns at h; rw [if_pos hc, if_neg hl] at h; exact ⟨none, 0, h, fun h => absurd h (by simp)⟩,
        fun e w' h => by unfold RParityAns at h; rw [if_pos hc, if_neg hl] at h; exact ⟨none, 0, h, fun h => absurd h (by simp)⟩⟩

set_option maxRecDepth 20000 in
set_option maxHeartbeats 2000000 in
theorem codes_walk (k m : Int) (s : ByteArray) (hreach : s.size ≤ reachBytes) (w : World) :
    Calls Try.prog 7 #[.int .i64 k, .int .i64 m, .string s] w fun e w' => e = .returned (.bool true) ∧ Below w.heap.size w w' := by
  have hs63 : s.size ≤ 9223372036854775807 := by unfold reachBytes at hreach; omega
  obtain ⟨l, q, hl, hb1⟩ := enc_both k m s
  have HB1 := Lib.hid hb1
  have HE := Lib.hid (fun w => encode_any k m s w hs63)
  have HR := Lib.hid (fun w => rencode_any k m s w hs63)
  clear hb1 hreach
  cases hc : codeB k m
  · have HC := Lib.hid hc
    clear hc
    go_enter Try.func7, Try.ntmps7
    go_wp2_with fail
    refine (rcode_any _ _ _).mono ?_
    rintro e w1 ⟨rfl, rfl⟩
    rw [HC.out]
    go_wp2_with fail
    refine (HE.out _).mono ?_
    rintro e w3 ⟨hans, hb⟩
    obtain ⟨A, c, rfl, hst⟩ := HB1.out _ _ _ hans
    have S3 := Lib.hid hst
    have B3 := Lib.hid hb
    clear hans hst hb
    go_wp2_with fail
    refine (HR.out _).mono ?_
    rintro e w4 ⟨hans, hb⟩
    obtain ⟨A2, c2, rfl, hst⟩ := HB1.out _ _ _ hans
    have S4 := Lib.hid (S3.out.below hb)
    have R4 := Lib.hid hst
    have B4 := Lib.hid (B3.out.trans (hb.mono B3.out.size))
    clear hans hst hb S3 B3
    go_wp2_with fail
    have hsm := same_any A A2 c c2 l l w4 S4.out R4.out (by omega)
    rw [show decide (l = l) = true by simp] at hsm
    have HSM := Lib.hid hsm
    clear hsm
    refine HSM.out.mono ?_
    rintro e w5 ⟨rfl, d, rfl⟩
    go_wp2_with fail
    refine (stworks _).mono ?_
    rintro e w6 ⟨rfl, hb⟩
    have B6 := Lib.hid ((below_drewN B4.out d).trans (hb.mono (by have := B4.out.size; simpa using this)))
    clear hb
    go_wp2_with fail
    go_ret
    exact ⟨rfl, B6.out⟩
  · have HC := Lib.hid hc
    clear hc
    by_cases h1 : 12 < k
    · skip
      go_enter Try.func7, Try.ntmps7
      go_wp2_with fail
      refine (rcode_any _ _ _).mono ?_
      rintro e w1 ⟨rfl, rfl⟩
      rw [HC.out]
      go_wp2_with fail
      refine (stworks _).mono ?_
      rintro e w6 ⟨rfl, hb⟩
      have B6 := Lib.hid hb
      clear hb
      go_wp2_with fail
      go_ret
      exact ⟨rfl, B6.out⟩
    · have h1' : k ≤ 12 := by omega
      clear h1
      by_cases h2 : 12 < m
      · skip
        go_enter Try.func7, Try.ntmps7
        go_wp2_with fail
        refine (rcode_any _ _ _).mono ?_
        rintro e w1 ⟨rfl, rfl⟩
        rw [HC.out]
        go_wp2_with fail
        refine (stworks _).mono ?_
        rintro e w6 ⟨rfl, hb⟩
        have B6 := Lib.hid hb
        clear hb
        go_wp2_with fail
        go_ret
        exact ⟨rfl, B6.out⟩
      · have h2' : m ≤ 12 := by omega
        clear h2
        go_enter Try.func7, Try.ntmps7
        go_wp2_with fail
        refine (rcode_any _ _ _).mono ?_
        rintro e w1 ⟨rfl, rfl⟩
        rw [HC.out]
        go_wp2_with fail
        refine (HE.out _).mono ?_
        rintro e w3 ⟨hans, hb⟩
        obtain ⟨A, c, rfl, hst⟩ := HB1.out _ _ _ hans
        have S3 := Lib.hid hst
        have B3 := Lib.hid hb
        clear hans hst hb
        go_wp2_with fail
        refine (HR.out _).mono ?_
        rintro e w4 ⟨hans, hb⟩
        obtain ⟨A2, c2, rfl, hst⟩ := HB1.out _ _ _ hans
        have S4 := Lib.hid (S3.out.below hb)
        have R4 := Lib.hid hst
        have B4 := Lib.hid (B3.out.trans (hb.mono B3.out.size))
        clear hans hst hb S3 B3
        go_wp2_with fail
        have hsm := same_any A A2 c c2 l l w4 S4.out R4.out (by omega)
        rw [show decide (l = l) = true by simp] at hsm
        have HSM := Lib.hid hsm
        clear hsm
        refine HSM.out.mono ?_
        rintro e w5 ⟨rfl, d, rfl⟩
        go_wp2_with fail
        refine (stworks _).mono ?_
        rintro e w6 ⟨rfl, hb⟩
        have B6 := Lib.hid ((below_drewN B4.out d).trans (hb.mono (by have := B4.out.size; simpa using this)))
        clear hb
        go_wp2_with fail
        go_ret
        exact ⟨rfl, B6.out⟩

end Go.Proofs.Ytmnciipfepeccaa
