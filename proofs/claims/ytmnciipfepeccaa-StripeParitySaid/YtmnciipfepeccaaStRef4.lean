/- The document's own Parity and Encode; no condition but the range. -/
import Derived.Test.YtmnciipfepeccaaStUnder
import Derived.Test.YtmnciipfepeccaaMatGen
namespace Go.Proofs.Ytmnciipfepeccaa
open Go.RowKit

/-- what the document's Parity answers -/
def RParityAns (k m : Int) (l : List ByteArray) (e : Ending) (w' : World) : Prop :=
  if codeB k m = true then
    if (l.length : Int) = k ∧ St.Even l then
      if 2052 < (l.headD ⟨#[]⟩).size then e = .returned (.tuple #[.slice none 0 0, .int .i64 2])
      else ∃ ad c, e = .returned (.tuple #[.slice (some ad) m.toNat c, .int .i64 0]) ∧ ad.block < w'.heap.size ∧ StrsAt w' (some ad) (parL k.toNat m.toNat l (l.headD ⟨#[]⟩).size)
    else e = .returned (.tuple #[.slice none 0 0, .int .i64 4])
  else e = .returned (.tuple #[.slice none 0 0, .int .i64 1])

theorem strs_size (W : World) : (sizeOf (Try.prog.elem 40)).run Try.prog W = .ok 1 W := by kernel_rfl

/-- 'out[k:]' of a row of the call's own -/
theorem tail_strs {w : World} {H g cap k m : Nat} {U P : List ByteArray} (h : w.ownsRow H 9 1 (.slice (some ⟨g, 0, none⟩) (k + m) cap) (k + m) (strV U)) (hU : U.length = k + m) (hP : U.drop k = P) (hg : g < w.heap.size) :
    ∃ ad c, (∀ W : World, (Instr.slice 40 (.slice (some ⟨g, 0, none⟩) (k + m) cap) (some (.int .i64 (k : Int))) none none).run Try.prog W = .ok (.slice (some ad) m c) W) ∧ ad.block < w.heap.size ∧ StrsAt w (some ad) P := by
  have hcap : k + m ≤ cap := by
    rcases h.2 with ⟨h1, h2⟩ | ⟨g', cap', cur, h1, _, _, h3, _⟩
    · simp at h1
    · simp only [Value.slice.injEq] at h1; omega
  have hPl : P.length = m := by rw [← hP, List.length_drop]; omega
  by_cases hc : cap = k
  · refine ⟨⟨g, 0, none⟩, cap - k, fun W => ?_, hg, fun hp => absurd hp (by omega)⟩
    rw [run_slice_l W 40 _ (k + m) cap (by kernel_rfl) .i64 _ (by omega) (by omega), strs_size]
    simp only [Result.andThen, sliced, Int.toNat_natCast, if_pos hc, Nat.mul_one]
    rw [show k + m - k = m by omega]
  · refine ⟨⟨g, k, none⟩, cap - k, fun W => ?_, hg, fun hp => ⟨_, rfl, hg, fun i hi => ?_⟩⟩
    · rw [run_slice_l W 40 _ (k + m) cap (by kernel_rfl) .i64 _ (by omega) (by omega), strs_size]
      simp only [Result.andThen, sliced, Int.toNat_natCast, if_neg hc, Option.map_some, Nat.mul_one]
      rw [addr_head, show k + m - k = m by omega]
    · have hadd : (⟨g, k, none⟩ : Addr).add i = ⟨g, k + i, none⟩ := by unfold Addr.add; split <;> simp_all
      rw [hadd, World.ownsRow.cellAt h (k + i) (by omega), strV_at (by omega)]
      congr 2
      subst hP
      rw [List.getElem_drop]

set_option maxRecDepth 20000 in
set_option maxHeartbeats 2000000 in
theorem rParity_any (k m : Int) (A : Option Addr) (c : Nat) (l : List ByteArray) (w : World) (h : StrsAt w A l) (hn : l.length ≤ 9223372036854775806) (hmax : ∀ s ∈ l, s.size ≤ 9223372036854775807) :
    Calls Try.prog 33 #[.int .i64 k, .int .i64 m, .slice A l.length c] w fun e w' => RParityAns k m l e w' ∧ Below w.heap.size w w' := by
  cases hc : codeB k m
  · have E : Hid (∀ w' e, e = Ending.returned (.tuple #[.slice none 0 0, .int .i64 1]) → RParityAns k m l e w') := fun w' e he => by unfold RParityAns; rw [if_neg (by simp [hc])]; exact he
    have HC := Lib.hid hc
    clear hc hmax h
    go_enter Try.func33, Try.ntmps33
    go_wp2_with fail
    refine (rcode_any _ _ _).mono ?_
    rintro e w' ⟨rfl, rfl⟩
    rw [HC.out]
    go_wp2_with fail
    go_ret2
    exact ⟨E.out _ _ rfl, Below.refl _ _⟩
  · obtain ⟨a, b, rfl, rfl, h1, h2⟩ := codeB_nat hc
    have HC := Lib.hid hc
    by_cases hl : l.length = a
    · subst hl
      have q1 : ((l.length : Int) != (l.length : Int)) = false := by simp
      have he := reven_any A c l w h h1 hn
      by_cases hE : St.Even l
      · rw [show decide (St.Even l) = true by simpa using hE] at he
        have HEv := Lib.hid he
        obtain ⟨ad, rfl, hab, hcl⟩ := h h1
        have c0 : w.cell? ad = some (.string (l[0]'h1)) := by have := hcl 0 (by omega); rwa [add_zero'] at this
        have hd0 : l.headD ⟨#[]⟩ = l[0] := by cases l with | nil => simp at h1 | cons x r => rfl
        have p0 : (0 : Int) < (l.length : Int) := by omega
        have p0n : 0 < l.length := h1
        have hm0 := hmax l[0] (List.getElem_mem _)
        have c0d : ∀ d, (w.drewN d).cell? ad = some (.string l[0]) := fun d => c0
        have HC0 := Lib.hid c0d
        clear c0d
        by_cases hbig : 2052 < l[0].size
        · have E : Hid (∀ w' e, e = Ending.returned (.tuple #[.slice none 0 0, .int .i64 2]) → RParityAns (l.length : Int) (b : Int) l e w') := fun w' e he => by
            unfold RParityAns; rw [if_pos hc, if_pos ⟨rfl, hE⟩, hd0, if_pos hbig]; exact he
          have hbig' : (2052 : Int) < (l[0].size : Int) := by omega
          clear hc hE he h hcl hd0 hmax hbig c0
          go_enter Try.func33, Try.ntmps33
          go_wp2_with fail
          refine (rcode_any _ _ _).mono ?_
          rintro e w' ⟨rfl, rfl⟩
          rw [HC.out]
          go_wp2_with fail
          refine HEv.out.mono ?_
          rintro e w' ⟨rfl, d, rfl⟩
          have c0 := HC0.out d
          go_wp2_with fail
          go_ret2
          exact ⟨E.out _ _ rfl, below_drewN (Below.refl _ _) d⟩
        · have E : Hid (∀ w' e ad c, e = Ending.returned (.tuple #[.slice (some ad) b c, .int .i64 0]) → ad.block < w'.heap.size → StrsAt w' (some ad) (parL l.length b l l[0].size) → RParityAns (l.length : Int) (b : Int) l e w') := fun w' e ad c he hg hs => by
            unfold RParityAns; rw [if_pos hc, if_pos ⟨rfl, hE⟩, hd0, if_neg hbig, Int.toNat_natCast, Int.toNat_natCast]; exact ⟨ad, c, he, hg, hs⟩
          have hbig' : ¬ (2052 : Int) < (l[0].size : Int) := by omega
          have HSt := Lib.hid h
          have HU := Lib.hid (fun w h => under_any l.length (l.length + b) l[0].size (GfU.gen l.length) (some ad) c l w h h1 h2 (by omega) rfl (fun s hs => by have := hE s hs; rwa [hd0] at this) (by omega))
          have HUL := Lib.hid (undL_len l.length (l.length + b) (GfU.gen l.length) l l[0].size)
          have HUD := Lib.hid (undL_drop l.length b l l[0].size)
          have h2' : (l.length : Int) + (b : Int) ≤ 255 := by omega
          rw [Int.natCast_add] at HU
          generalize undL l.length (l.length + b) (GfU.gen l.length) l l[0].size = U at HU HUL HUD
          clear hc hE he h hcl hd0 hmax hbig c0
          go_enter Try.func33, Try.ntmps33
          go_wp2_with fail
          refine (rcode_any _ _ _).mono ?_
          rintro e w' ⟨rfl, rfl⟩
          rw [HC.out]
          go_wp2_with fail
          refine HEv.out.mono ?_
          rintro e w2 ⟨rfl, d, rfl⟩
          have c0 := HC0.out d
          go_wp2_with fail
          refine (rmade_any l.length b _ h1 h2).mono ?_
          rintro e w3 ⟨rfl, hb⟩
          have B3 : Hid (Below w'.heap.size w' w3) := Lib.hid ((below_drewN (Below.refl w'.heap.size w') d).trans (hb.mono (by simp)))
          clear hb c0
          go_wp2_with fail
          refine (HU.out _ (HSt.out.below B3.out)).mono ?_
          rintro e w4 ⟨v, rfl, hown, hb⟩
          have B4 := Lib.hid (B3.out.trans (hb.mono B3.out.size))
          obtain ⟨g, cap, rfl, _, hlt⟩ := World.ownsRow.form hown (by omega)
          obtain ⟨ad', c', hsl, had, hst⟩ := tail_strs hown HUL.out HUD.out hlt
          have HS4 := Lib.hid hst
          clear hown hb hst
          go_wp2_with fail
          go_ret2
          exact ⟨E.out _ _ ad' c' rfl had HS4.out, B4.out⟩
      · rw [show decide (St.Even l) = false by simpa using hE] at he
        have HEv := Lib.hid he
        have E : Hid (∀ w' e, e = Ending.returned (.tuple #[.slice none 0 0, .int .i64 4]) → RParityAns (l.length : Int) (b : Int) l e w') := fun w' e he => by
          unfold RParityAns; rw [if_pos hc, if_neg (fun z => hE z.2)]; exact he
        clear hc hE he h hmax
        go_enter Try.func33, Try.ntmps33
        go_wp2_with fail
        refine (rcode_any _ _ _).mono ?_
        rintro e w' ⟨rfl, rfl⟩
        rw [HC.out]
        go_wp2_with fail
        refine HEv.out.mono ?_
        rintro e w' ⟨rfl, d, rfl⟩
        go_wp2_with fail
        go_ret2
        exact ⟨E.out _ _ rfl, below_drewN (Below.refl _ _) d⟩
    · have q1 : ((l.length : Int) != (a : Int)) = true := by simp; omega
      have E : Hid (∀ w' e, e = Ending.returned (.tuple #[.slice none 0 0, .int .i64 4]) → RParityAns (a : Int) (b : Int) l e w') := fun w' e he => by
        unfold RParityAns; rw [if_pos hc, if_neg (fun z => hl (by have := z.1; omega))]; exact he
      clear hc h hl hmax
      go_enter Try.func33, Try.ntmps33
      go_wp2_with fail
      refine (rcode_any _ _ _).mono ?_
      rintro e w' ⟨rfl, rfl⟩
      rw [HC.out]
      go_wp2_with fail
      go_ret2
      exact ⟨E.out _ _ rfl, Below.refl _ _⟩

end Go.Proofs.Ytmnciipfepeccaa
