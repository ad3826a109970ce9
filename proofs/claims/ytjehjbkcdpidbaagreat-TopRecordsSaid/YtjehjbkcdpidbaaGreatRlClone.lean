/- A list of texts that shares no memory with a given one, and the frames of texts, in the landed log; contracts; no condition but the range. -/
import Derived.Test.YtjehjbkcdpidbaaGreatRlSyn
import Derived.Test.YtjehjbkcdpidbaaGreatB2
import Derived.Lib.SliceRun
namespace Go.Proofs.YtjehjbkcdpidbaaGreat
namespace Rd
open Go.RowKit Sc Bk

attribute [local go_sem ↓] Go.wp_at_zero Go.wp_at_succ
attribute [local go_sem] floatUpon pick

set_option maxRecDepth 20000 in
set_option maxHeartbeats 2000000 in
theorem sclone_any (A : Option Addr) (c : Nat) (l : List ByteArray) (w : World) (h : StrsAt w A l) (hA : A = none → c = 0) (h16 : l.length * 16 ≤ 140737488351232) :
    Calls Tryz.prog 93 #[.slice A l.length c] w fun e w' => ∃ v, e = .returned v ∧ w'.ownsRow w.heap.size 9 1 v l.length (strV l) ∧ Below w.heap.size w w' := by
  cases A with
  | none =>
    obtain rfl := hA rfl
    have h0 : l = [] := List.eq_nil_of_length_eq_zero (Nat.eq_zero_of_not_pos fun hp => by obtain ⟨_, e, _⟩ := h hp; cases e)
    subst h0
    have q22 : ∀ W : World, (binOp .eql 37 (.slice none 0 0) (.slice none 0 0)).run Tryz.prog W = .ok (.bool true) W := fun W => Lib.run_eql_slice_nil W _ _ none 0 0 0 0 Tryz.underlying37
    clear h hA
    show Calls Tryz.prog 93 #[.slice none 0 0] w _
    go_enter Tryz.func93, Tryz.ntmps93
    go_wp2_with fail
    go_ret
    exact ⟨_, rfl, World.ownsRow_nil _ _ _ _, Below.refl _ _⟩
  | some ad =>
    obtain ⟨i0, hi, hz0, hz1, hz2⟩ := info_parts Tryz.infoStr
    have HSt := Lib.hid h
    have hO0 : (w.alloc (.cells #[] 9)).ownsRow w.heap.size 9 1 (.slice (some ⟨w.heap.size, 0, none⟩) 0 0) 0 [] := World.ownsRow_lit (base := w.heap.size) (e := 9) (size := 1) w #[] 0 (Nat.le_refl _) (by unfold maxLen; omega) rfl
    have HO0 := Lib.hid hO0
    have q22 : ∀ W : World, (binOp .eql 37 (.slice (some ad) l.length c) (.slice none 0 0)).run Tryz.prog W = .ok (.bool false) W := fun W => Lib.run_eql_slice_nil W _ _ (some ad) l.length c 0 0 Tryz.underlying37
    clear h hO0 hA
    go_enter Tryz.func93, Tryz.ntmps93
    go_wp2_with (at_builtin; refine wpList_append_opt rfl _ _ 37 rfl w.heap.size 9 i0 (.string ⟨#[]⟩) 16 Tryz.underlying37 hi hz0 hz1 hz2 rfl _ 0 _ rfl HO0.out (some ad) l.length c (strV l) rfl (strV_len _) (fun e => by cases e) ?c1 ?c2 ?c3 ?c4 (by simp) ?_)
    case c1 => exact fun ad' e => by obtain rfl := Option.some.inj e; exact (HSt.out.alloc _).news
    case c2 => intro u hu; obtain ⟨s, _, rfl⟩ := List.mem_map.1 hu; rfl
    case c3 => unfold maxLen; omega
    case c4 => omega
    intro v' w3 ho hg hat
    have HB3 : Hid (Below w.heap.size w w3) := Lib.hid (((Below.refl _ w).alloc (Nat.le_refl _) (.cells #[] 9)).grown hg (by simp) (fun k hk => (HO0.out.lt k hk).1))
    have HO := Lib.hid ho
    clear ho hg hat
    go_wp2_with fail
    go_ret
    exact ⟨v', rfl, HO.out, HB3.out⟩

set_option maxRecDepth 20000 in
set_option maxHeartbeats 4000000 in
theorem cloned_any (A : Option Addr) (c : Nat) (l : List ByteArray) (w : World) (h : StrsAt w A l) (hA : A = none → c = 0) (h16 : l.length * 16 ≤ 140737488351232) (hs : ∀ s ∈ l, s.size ≤ 140737488351232) :
    Calls Tryz.prog 53 #[.slice A l.length c] w fun e w' => ∃ v, e = .returned v ∧ w'.ownsRow w.heap.size 9 1 v l.length (strV l) ∧ Below w.heap.size w w' := by
  have HC := Lib.hid (sclone_any A c l w h hA h16)
  have HCl := Lib.hid (fun (s : ByteArray) W (hs : s.size ≤ 140737488351232) => clone_any s W (by omega))
  have HSz := Lib.hid hs
  have hl63 : (l.length : Int) ≤ 9223372036854775807 := by omega
  clear h hA hs
  go_enter Tryz.func53, Tryz.ntmps53
  go_wp2_with fail
  refine HC.out.mono ?_
  rintro e w2 ⟨v, rfl, hown, hb⟩
  obtain ⟨X, cX, rfl, hlc⟩ := own_form2 hown
  have HO2 := Lib.hid hown
  have HB2 := Lib.hid hb
  clear hown hb HC hlc
  go_upto_region 3 with fail
  go_loopw [10] (fun i wr => ∃ j : Nat, j ≤ l.length ∧ i = .int .i64 (j : Int) ∧ Hid (wr.ownsRow w.heap.size 9 1 (.slice X l.length cX) l.length (strV l)) ∧ Hid (Below w.heap.size w wr)) (fun i _ => l.length - (intOf i).toNat)
  case atStart => exact ⟨0, by omega, rfl, HO2.out, HB2.out⟩
  case round =>
    obtain ⟨j, hj, rfl, hown, hbel⟩ := hrel
    by_cases hlt : j < l.length
    · have pj : (j : Int) < (l.length : Int) := by omega
      obtain ⟨g', cap, hv, hX1, hX2⟩ := World.ownsRow.form hown.out (by omega)
      simp only [Value.slice.injEq] at hv
      obtain ⟨rfl, -, rfl⟩ := hv
      have hcell := (hown.out.cellAt j (by omega)).trans (strV_at hlt)
      have hsz := HSz.out _ (List.getElem_mem hlt)
      have hset : (strV l).set j (.string l[j]) = strV l := by
        have h1 := strV_at hlt
        apply List.ext_getElem?
        intro k
        rw [List.getElem?_set]
        split
        · rename_i e
          subst e
          rw [if_pos (by rw [strV_len]; exact hlt), h1]
        · rfl
      have HSet := Lib.hid hset
      have HCl2 := Lib.hid (fun W => HCl.out l[j] W hsz)
      have HOw := Lib.hid (fun W (hb : Below wr.heap.size wr W) => show W.ownsRow w.heap.size 9 1 (.slice (some ⟨g', 0, none⟩) l.length cX) l.length (strV l) from st_keep hown.out hb)
      clear hset hsz hX1 hX2
      generalize l[j] = t at *
      go_wp2_with fail
      refine (HCl2.out _).mono ?_
      rintro e w4 ⟨rfl, hb⟩
      have HO4 := Lib.hid (HOw.out _ hb)
      have HB4 := Lib.hid (hbel.out.trans (hb.mono hbel.out.size))
      have hfro := HO4.out.frozenAt j
      have hcell4 : w4.cell? ⟨g', j, none⟩ = some (.string t) := (cell_kept hb ⟨g', j, none⟩ (own_lt hown.out g' rfl)).trans hcell
      have R := HO4.out.stored j (.string t)
      rw [HSet.out] at R
      have HR := Lib.hid R.1
      have hge := own_ge hown.out g' rfl
      have HGe := Lib.hid hge
      clear hb R hcell hge HCl2 HOw
      go_wp2_with fail
      go_roundw
      case rel => exact ⟨j + 1, by omega, by go_num, HR.out, HB4.out.setCell HGe.out _⟩
      case measure => simp [intOf]; omega
    · obtain rfl : j = l.length := by omega
      go_wp2_with fail
      go_ret
      exact ⟨_, rfl, hown.out, hbel.out⟩

theorem frameV_err {t : ByteArray} (h : 4096 < t.size) : Su.frameV t = .tuple #[.string ⟨#[]⟩, .int .i64 2] := by unfold Su.frameV; rw [if_pos h]
theorem frameV_ok {t : ByteArray} (h : ¬ 4096 < t.size) : Su.frameV t = .tuple #[.string (Su.frameB t), .int .i64 0] := by unfold Su.frameV; rw [if_neg h]

/-- the frames of texts, or the error -/
def framedP (ts : List ByteArray) : List UInt8 × Int := if ∃ t ∈ ts, 4096 < t.size then ([], 2) else (allF ts, 0)

set_option maxRecDepth 20000 in
set_option maxHeartbeats 8000000 in
theorem framed_any (A : Option Addr) (c : Nat) (l : List ByteArray) (w : World) (h : StrsAt w A l) (h16 : l.length * 16 ≤ 140737488351232) (hs : ∀ s ∈ l, s.size ≤ 140737488351232) (hq : (allF l).length ≤ 140737488355328) :
    Calls Tryz.prog 76 #[.slice A l.length c] w fun e w' => e = .returned (.tuple #[.string ⟨(framedP l).1.toArray⟩, .int .i64 (framedP l).2]) ∧ Below w.heap.size w w' := by
  have hal : Below w.heap.size w (w.alloc (.cells #[.pointer none, .slice none 0 0] 127)) := (Below.refl _ w).alloc (Nat.le_refl _) _
  have hbl := Bld.new w
  have HSt := Lib.hid (fun W (hb : Below w.heap.size w W) => h.below hb)
  have HSz := Lib.hid hs
  have HFr := Lib.hid (fun t W (hs : t.size ≤ 140737488351232) => Su.frame_any t W hs)
  have hl63 : (l.length : Int) ≤ 9223372036854775807 := by omega
  have HSucc := Lib.hid (fun j (hj : j < l.length) => frs_succ (ts := l) (a := 0) (Nat.zero_le j) hj)
  have HLe := Lib.hid (fun j (hj : j ≤ l.length) => show (frs l 0 j).length ≤ 140737488355328 from by
    have h1 := all_split l j
    have h2 : (allF l).length = (frs l 0 j).length + (frs l j l.length).length := by rw [h1, List.length_append]
    omega)
  generalize hR : framedP l = R
  have HR1 := Lib.hid (show ∀ j, (hj : j < l.length) → 4096 < l[j].size → R = ([], 2) from fun j hj h2 => by
    rw [← hR]; unfold framedP; rw [if_pos ⟨_, List.getElem_mem hj, h2⟩])
  have HR2 := Lib.hid (show (∀ t ∈ l, ¬ 4096 < t.size) → R = (allF l, 0) from fun h2 => by
    rw [← hR]; unfold framedP; rw [if_neg (by rintro ⟨t, h3, h4⟩; exact h2 t h3 h4)])
  clear hR h hs hq
  go_enter Tryz.func76, Tryz.ntmps76
  go_upto_region 2 with fail
  generalize w.alloc (.cells #[.pointer none, .slice none 0 0] 127) = W1 at *
  have HB1 := Lib.hid hal
  have HL1 := Lib.hid hbl
  clear hal hbl
  go_upto_region 3 with fail
  go_loopw [11] (fun i wr => ∃ j : Nat, j ≤ l.length ∧ i = .int .i64 (j : Int) ∧ Hid (∀ t ∈ l.take j, ¬ 4096 < t.size) ∧ Hid (Bld w.heap.size (frs l 0 j) wr) ∧ Hid (Below w.heap.size w wr)) (fun i _ => l.length - (intOf i).toNat)
  case atStart => exact ⟨0, by omega, rfl, Lib.hid (fun t ht => by simp at ht), by rw [frs_same]; exact HL1.out, HB1.out⟩
  case round =>
    obtain ⟨j, hj, rfl, hsm, hbld, hbel⟩ := hrel
    by_cases hlt : j < l.length
    · have pj : (j : Int) < (l.length : Int) := by omega
      obtain ⟨bd, hBe, hbl, hcl⟩ := HSt.out wr hbel.out (by omega)
      have hcell := hcl j hlt
      subst hBe
      have hszt := HSz.out _ (List.getElem_mem hlt)
      have HF := Lib.hid (HFr.out l[j] wr hszt)
      by_cases hz : 4096 < l[j].size
      · have hRv := HR1.out j hlt hz
        rw [frameV_err hz] at HF
        subst hRv
        generalize l[j] = t at *
        clear hcl hbl hz hszt
        go_wp2_with fail
        refine HF.out.mono ?_
        rintro e w4 ⟨rfl, hb⟩
        have HB4 := Lib.hid (hbel.out.trans (hb.mono hbel.out.size))
        clear hb HF
        go_wp2_with fail
        go_ret2
        exact ⟨rfl, HB4.out⟩
      · rw [frameV_ok hz] at HF
        have HN := Lib.hid (show ∀ t ∈ l.take (j + 1), ¬ 4096 < t.size from fun t ht => by
          rw [List.take_add_one, List.getElem?_eq_getElem hlt] at ht
          simp only [Option.toList_some, List.mem_append, List.mem_singleton] at ht
          rcases ht with h | h
          · exact hsm.out t h
          · rw [h]; exact hz)
        have hsu := HSucc.out j hlt
        have hle := HLe.out (j + 1) (by omega)
        have hfz := Su.frameB_size l[j]
        have hfl := Su.frameL_len l[j].data.toList
        have hle2 : (frs l 0 j).length + (Su.frameB l[j]).size ≤ 140737488355328 := by
          rw [hsu, List.length_append] at hle
          have : (Su.frameB l[j]).size = (Su.frameL l[j].data.toList).length := by unfold Su.frameB; exact text_size _
          omega
        have hfd : (Su.frameB l[j]).data.toList = Su.frameL l[j].data.toList := by unfold Su.frameB; simp
        rw [← hfd] at hsu
        have HSu := Lib.hid hsu
        generalize Su.frameB l[j] = fb at HF HSu hle2
        generalize l[j] = t at *
        clear hcl hbl hz hszt hsu hle hfz hfl hfd
        go_wp2_with fail
        refine HF.out.mono ?_
        rintro e w4 ⟨rfl, hb⟩
        have HB4 := Lib.hid (hbel.out.trans (hb.mono hbel.out.size))
        have HL4 := Lib.hid (bld_kept hbld.out hb)
        clear hb HF hcell
        go_wp2_with fail
        refine (bld_string fb HL4.out hle2).mono ?_
        rintro e w5 ⟨rfl, hl5, hb⟩
        rw [← HSu.out] at hl5
        have HL5 := Lib.hid hl5
        have HB5 := Lib.hid (HB4.out.trans hb)
        clear hl5 hb HL4
        go_wp2_with fail
        go_roundw
        case rel => exact ⟨j + 1, by omega, by go_num, HN.out, HL5.out, HB5.out⟩
        case measure => simp [intOf]; omega
    · obtain rfl : j = l.length := by omega
      have hRv := HR2.out (fun t ht => hsm.out t (by rw [List.take_length]; exact ht))
      subst hRv
      have HTx := Lib.hid (bld_text hbld.out)
      go_wp2_with fail
      refine HTx.out.mono ?_
      rintro e w4 ⟨rfl, _, hb⟩
      have HB4 := Lib.hid (hbel.out.trans hb)
      clear hb HTx
      go_wp2_with fail
      go_ret2
      exact ⟨rfl, HB4.out⟩

end Rd
end Go.Proofs.YtjehjbkcdpidbaaGreat
