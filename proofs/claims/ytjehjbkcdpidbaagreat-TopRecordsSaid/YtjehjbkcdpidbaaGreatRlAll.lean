/- What the landed package's All answers, its row the call's own; contract; no condition but the size. -/
import Derived.Test.YtjehjbkcdpidbaaGreatB2
namespace Go.Proofs.YtjehjbkcdpidbaaGreat
namespace Su
open Go.RowKit Bk

attribute [local go_sem ↓] Go.wp_at_zero Go.wp_at_succ
attribute [local go_sem] floatUpon pick

set_option maxRecDepth 20000 in
set_option maxHeartbeats 2000000 in
theorem all_own (s : ByteArray) (w : World) (hs : s.size ≤ 50000000000000) :
    Calls Tryz.prog 20 #[.string s] w fun e w' => ∃ v : Value, e = .returned (.tuple #[v, .int .i64 ((allR s).2.1 : Int), .int .i64 ((allR s).2.2 : Int)]) ∧ w'.ownsRow w.heap.size 9 1 v (allR s).1.length (strV (allR s).1) ∧ Below w.heap.size w w' := by
  obtain ⟨i0, hi, hz0, hz1, hz2⟩ := info_parts Tryz.infoStr
  have hB : (s.size : Int) ≤ 50000000000000 := by omega
  go_enter Tryz.func20, Tryz.ntmps20
  go_wp2_with fail
  go_loopw [2, 3] (fun out i wr => ∃ (a : Nat) (O : List ByteArray), a ≤ s.size ∧ O.length * 6 ≤ a ∧ i = .int .i64 (a : Int) ∧ wr.ownsRow w.heap.size 9 1 out O.length (strV O) ∧ Upto s O a ∧ Below w.heap.size w wr) (fun _ i _ => s.size - (intOf i).toNat)
  case atStart => exact ⟨0, [], by omega, by simp, rfl, ⟨rfl, .inl ⟨rfl, rfl⟩⟩, Upto.start s, Below.refl _ _⟩
  case round =>
    obtain ⟨a, O, ha, hO, rfl, hown, hup, hbel⟩ := hrel
    by_cases hlt : a < s.size
    · have pa : (a : Int) < (s.size : Int) := by omega
      have HN := Lib.hid (next_any s (a : Int) wr (by omega) ⟨by omega, by omega⟩)
      have hv := nextV_at (s := s) (a := a) (by omega)
      cases hr : restR (s.data.toList.drop a) with
      | error e =>
        have he := restR_err hr
        have hall := hup.err hlt hr
        rw [hr] at hv
        have hv2 : nextV s (a : Int) = .tuple #[.string ⟨#[]⟩, .int .i64 0, .int .i64 (e : Int)] := hv
        have hne : (((e : Nat) : Int) != 0) = true := by simp; omega
        rw [hv2] at HN
        have HA := Lib.hid hall
        have HU := Lib.hid hown
        have HBl := Lib.hid hbel
        clear hr hup hv hv2 hall hown hbel he
        go_wp2_with fail
        refine HN.out.mono ?_
        rintro e w1 ⟨rfl, hb⟩
        have HU1 := Lib.hid (st_keep HU.out hb)
        have HB1 := Lib.hid (HBl.out.trans (hb.mono HBl.out.size))
        clear hb HU HBl HN
        go_wp2_with fail
        go_ret3
        exact ⟨_, by rw [HA.out]; rfl, by rw [HA.out]; exact HU1.out, HB1.out⟩
      | ok t =>
        obtain ⟨hk1, hk2, -⟩ := restR_ok hr
        have hup2 := hup.more hlt hr
        have hle : a + t.length + 6 ≤ s.size := by rw [List.length_drop, list_size] at hk2; omega
        rw [hr] at hv
        have hv2 : nextV s (a : Int) = .tuple #[.string ⟨t.toArray⟩, .int .i64 ((a + t.length + 6 : Nat) : Int), .int .i64 0] := hv
        rw [hv2] at HN
        have HP := Lib.hid hup2
        have HU := Lib.hid hown
        have HBl := Lib.hid hbel
        have hsn := strV_snoc O ⟨t.toArray⟩
        generalize hT : (⟨t.toArray⟩ : ByteArray) = T at HN HP hsn
        have HSn := Lib.hid hsn
        generalize hnx : a + t.length + 6 = nx at HN HP hle
        have hnx2 : a + 6 ≤ nx := by omega
        have hOl : (strV O).length = O.length := strV_len O
        clear hr hup hv hv2 hup2 hown hbel hk1 hk2 hT hnx hsn
        go_wp2_with fail
        refine HN.out.mono ?_
        rintro e w1 ⟨rfl, hb⟩
        have HU1 := Lib.hid (st_keep HU.out hb)
        have HB1 := Lib.hid (HBl.out.trans (hb.mono HBl.out.size))
        clear hb HU HBl HN
        go_wp2_with (at_builtin; refine wpList_append_own _ rfl _ _ 37 rfl w.heap.size 9 i0 (.string ⟨#[]⟩) 1 16 Tryz.underlying37 hi hz0 hz1 hz2 rfl (by decide) _ _ _ rfl (HU1.out.alloc _) ⟨w1.heap.size, 0, none⟩ 1 1 [.string T] rfl rfl ?c1 ?c2 ?c3 ?c4 ?c5 ?_)
        case c1 => exact cell_one_new _ _ _
        case c2 => intro q hq; simp at hq; subst hq; rfl
        case c3 => unfold maxLen; omega
        case c4 => omega
        case c5 => have := HB1.out.size; simp; omega
        intro v' w5 hown' hgrow _
        have HB5 := Lib.hid (below_append HU1.out HB1.out (Nat.le_refl _) hgrow)
        rw [← HSn.out] at hown'
        have HO5 := Lib.hid hown'
        clear hown' hgrow HU1 HB1
        go_wp2_with fail
        go_roundw
        case rel => exact ⟨nx, O ++ [T], hle, by rw [List.length_append, List.length_singleton]; omega, rfl, by rw [List.length_append, List.length_singleton]; exact HO5.out, HP.out, HB5.out⟩
        case measure => simp [intOf]; omega
    · obtain rfl : a = s.size := by omega
      have HA := Lib.hid (hup.done (Nat.le_refl _))
      have HU := Lib.hid hown
      have HBl := Lib.hid hbel
      clear hup hown hbel
      go_wp2_with fail
      go_ret3
      exact ⟨_, by rw [HA.out]; rfl, by rw [HA.out]; exact HU.out, HBl.out⟩

end Su
end Go.Proofs.YtjehjbkcdpidbaaGreat
