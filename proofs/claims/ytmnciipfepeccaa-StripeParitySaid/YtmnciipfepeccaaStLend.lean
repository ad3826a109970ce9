/- Copies that are lent, with room of their own behind the end, and whether they are as they were; no condition but the range. -/
import Derived.Test.YtmnciipfepeccaaStLaw0
import Derived.Test.YtmnciipfepeccaaStShell
namespace Go.Proofs.Ytmnciipfepeccaa
open Go.RowKit

def markS : ByteArray := ⟨#[109, 97, 114, 107]⟩

theorem StrsAt.news {w : World} {ad : Addr} {l : List ByteArray} (h : StrsAt w (some ad) l) : ∀ j u, (strV l)[j]? = some u → w.cell? (ad.add j) = some u := fun j u hu => by
  have hj : j < l.length := by
    have := (List.getElem?_eq_some_iff.1 hu).1
    rwa [strV_len] at this
  obtain ⟨a', e, _, h3⟩ := h (by omega)
  obtain rfl := Option.some.inj e
  rw [strV_at hj] at hu
  rw [← hu]
  exact h3 j hj

set_option maxRecDepth 20000 in
set_option maxHeartbeats 2000000 in
theorem lend_any (v : Value) (l : List ByteArray) (w : World) (h : TextsOf w v l) :
    Calls Try.prog 25 #[v] w fun e w' =>
      ∃ g cap, e = .returned (.slice (some ⟨g, 0, none⟩) l.length cap) ∧ w'.ownsRow w.heap.size 9 1 (.slice (some ⟨g, 0, none⟩) (l.length + 1) cap) (l.length + 1) (strV l ++ [.string markS]) ∧ Below w.heap.size w w' := by
  obtain ⟨i0, hi, hz0, hz1, hz2⟩ := info_parts Try.infoStr
  obtain ⟨A, c, rfl, hst, hnil, hn16, hmax⟩ := h
  have HSt := Lib.hid hst
  have HN16 : l.length * 16 ≤ 140737488351232 := hn16
  have hOwn : (w.alloc (.cells #[] 9)).ownsRow w.heap.size 9 1 (.slice (some ⟨w.heap.size, 0, none⟩) 0 0) 0 [] := World.ownsRow_lit (base := w.heap.size) (e := 9) (size := 1) w #[] 0 (Nat.le_refl _) (by unfold maxLen; omega) rfl
  have HO := Lib.hid hOwn
  have hB1 : Below w.heap.size w (w.alloc (.cells #[] 9)) := (Below.refl _ w).alloc (Nat.le_refl _) _
  have HB1 := Lib.hid hB1
  have hH1 : w.heap.size ≤ (w.alloc (.cells #[] 9)).heap.size := by simp
  clear hst hmax hn16 hOwn hB1
  -- behind the first append: the texts, a row of the call's own
  cases A with
  | none =>
    obtain ⟨rfl, rfl⟩ := hnil rfl
    have hap := run_append_owned_none (P := Try.prog) _ w.heap.size 40 40 9 i0 1 Try.underlying40 hi _ _ _ HO.out
    clear hnil HN16
    go_enter Try.func25, Try.ntmps25
    go_upto_region 2 with fail
    have HO2 : Hid ((w.alloc (.cells #[] 9)).ownsRow w.heap.size 9 1 (.slice (some ⟨w.heap.size, 0, none⟩) 0 0) 0 []) := HO.out
    have HB2 := HB1
    clear HO HB1 hap HSt hH1
    generalize hW2 : w.alloc (.cells #[] 9) = W2 at HO2 HB2 ⊢
    clear hW2
    go_wp2_with (at_builtin; refine wpList_append_own _ rfl _ _ 40 rfl w.heap.size 9 i0 (.string ⟨#[]⟩) 1 16 Try.underlying40 hi hz0 hz1 hz2 rfl (by decide) _ _ _ rfl (HO2.out.alloc _) ⟨W2.heap.size, 0, none⟩ 1 1 [.string markS] rfl rfl ?d1 ?d2 ?d3 ?d4 ?d5 ?_)
    case d1 => exact cell_one_new _ _ _
    case d2 => intro q hq; simp at hq; subst hq; rfl
    case d3 => unfold maxLen; omega
    case d4 => omega
    case d5 => have := HB2.out.size; simp; omega
    intro v' w5 hown' hgrow _
    have HB5 := Lib.hid (below_append HO2.out HB2.out (Nat.le_refl _) hgrow)
    obtain ⟨g, cap, rfl, _, hlt⟩ := World.ownsRow.form hown' (by omega)
    have hcap : 0 + 1 ≤ cap := by
      rcases hown'.2 with ⟨h1, h2⟩ | ⟨g', cap', cur, h1, _, _, h3, _⟩
      · simp at h1
      · simp only [Value.slice.injEq] at h1; omega
    have hcapM : cap ≤ 9223372036854775807 := by
      rcases hown'.2 with ⟨h1, h2⟩ | ⟨g', cap', cur, h1, _, _, _, h3, _⟩
      · simp at h1
      · simp only [Value.slice.injEq] at h1; unfold maxLen at h3; omega
    have HO5 := Lib.hid hown'
    have hcl : (0 : Int) ≤ (cap : Int) := by omega
    have hc0 : ¬ cap = 0 := by omega
    clear hown' hgrow HO2 HB2
    go_wp2_with fail
    go_ret
    exact ⟨g, cap, rfl, HO5.out, HB5.out⟩
  | some ad =>
    clear hnil
    go_enter Try.func25, Try.ntmps25
    go_upto_region 2 with (at_builtin; refine wpList_append_own _ rfl _ _ 40 rfl w.heap.size 9 i0 (.string ⟨#[]⟩) 1 16 Try.underlying40 hi hz0 hz1 hz2 rfl (by decide) _ _ _ rfl HO.out ad l.length c (strV l) rfl (by rw [strV_len, Nat.mul_one]) ?c1 ?c2 ?c3 ?c4 hH1 ?_)
    case c1 => exact (HSt.out.alloc _).news
    case c2 => intro u hu; obtain ⟨s, _, rfl⟩ := List.mem_map.1 hu; rfl
    case c3 => unfold maxLen; omega
    case c4 => omega
    intro v2 W2 hown hgrow _
    have HB2 : Hid (Below w.heap.size w W2) := HB1.out.grown hgrow hH1 (fun k hk => (World.ownsRow.lt HO.out k hk).1)
    have HO2 := Lib.hid hown
    clear hown hgrow HO HB1 HSt hH1
    go_wp2_with (at_builtin; refine wpList_append_own _ rfl _ _ 40 rfl w.heap.size 9 i0 (.string ⟨#[]⟩) 1 16 Try.underlying40 hi hz0 hz1 hz2 rfl (by decide) _ _ _ rfl (HO2.out.alloc _) ⟨W2.heap.size, 0, none⟩ 1 1 [.string markS] rfl rfl ?c1 ?c2 ?c3 ?c4 ?c5 ?_)
    case c1 => exact cell_one_new _ _ _
    case c2 => intro q hq; simp at hq; subst hq; rfl
    case c3 => unfold maxLen; omega
    case c4 => omega
    case c5 => have := HB2.out.size; simp; omega
    intro v' w5 hown' hgrow _
    have HB5 := Lib.hid (below_append HO2.out HB2.out (Nat.le_refl _) hgrow)
    obtain ⟨g, cap, rfl, _, hlt⟩ := World.ownsRow.form hown' (by omega)
    have hcap : l.length + 1 ≤ cap := by
      rcases hown'.2 with ⟨h1, h2⟩ | ⟨g', cap', cur, h1, _, _, h3, _⟩
      · simp at h1
      · simp only [Value.slice.injEq] at h1; omega
    have hcapM : cap ≤ 9223372036854775807 := by
      rcases hown'.2 with ⟨h1, h2⟩ | ⟨g', cap', cur, h1, _, _, _, h3, _⟩
      · simp at h1
      · simp only [Value.slice.injEq] at h1; unfold maxLen at h3; omega
    have HO5 := Lib.hid hown'
    have hcl : (l.length : Int) ≤ (cap : Int) := by omega
    have hc0 : ¬ cap = 0 := by omega
    clear hown' hgrow HO2 HB2
    go_wp2_with fail
    go_ret
    exact ⟨g, cap, rfl, HO5.out, HB5.out⟩

end Go.Proofs.Ytmnciipfepeccaa
