/- What the landed device does at a crash; contract; no condition but the range. -/
import Derived.Test.YtecgimnmccmpjaaScLand4
import Derived.Test.YtecgimnmccmpjaaScSorted
import Derived.Test.YtecgimnmccmpjaaScRef3
namespace Go.Proofs.Ytecgimnmccmpjaa
namespace Sc
open Go.RowKit Bk

attribute [local go_sem ↓] Go.wp_at_zero Go.wp_at_succ
attribute [local go_sem] floatUpon pick

theorem cnt_mono {new : List ByteArray} {i : Nat} : ∀ {k : Nat}, i ≤ k → k ≤ new.length → cnt new i ≤ cnt new k
  | 0, h, _ => by rw [show i = 0 by omega]; exact Nat.le_refl _
  | k + 1, h, hk => by
    rcases Nat.eq_or_lt_of_le h with e | e
    · rw [e]; exact Nat.le_refl _
    · have h1 := cnt_mono (new := new) (i := i) (k := k) (by omega) (by omega)
      rw [cnt_succ (show k < new.length by omega)]
      omega

theorem cnt_lt {new : List ByteArray} {i k : Nat} (h : i < k) (hk : k ≤ new.length) (hw : new.getD i nil0 ≠ nil0) : cnt new i < cnt new k := by
  have hi : i < new.length := by omega
  have h1 := cnt_mono (new := new) (i := i + 1) (k := k) (by omega) hk
  rw [cnt_succ hi, if_neg (by rw [← getD_at hi]; exact hw)] at h1
  omega

/-- what lies on the device while a crash goes over what waited: the first j of it are done -/
def crF (D : Dev) (ps : List Int) (j i : Nat) : ByteArray := if cnt D.new i < j then tearF D ps i else D.on.getD i nil0
def crL (D : Dev) (ps : List Int) (j : Nat) : List ByteArray := (List.range D.on.length).map (crF D ps j)

theorem crL_len (D : Dev) (ps : List Int) (j : Nat) : (crL D ps j).length = D.on.length := by simp [crL]

theorem crL_64 {D : Dev} (hok : DevOk D) (ps : List Int) (j : Nat) : ∀ s ∈ crL D ps j, s.size = 64 := fun s hs => by
  unfold crL at hs
  obtain ⟨i, hi, rfl⟩ := List.mem_map.1 hs
  rw [List.mem_range] at hi
  unfold crF
  split
  · exact tear64 hok ps hi
  · exact hok.on64 _ (getD_mem hi)

theorem crL_start (D : Dev) (ps : List Int) : crL D ps 0 = D.on := by
  refine List.ext_getElem (crL_len D ps 0) fun i h1 h2 => ?_
  simp only [crL, List.getElem_map, List.getElem_range]
  unfold crF
  rw [if_neg (by omega), getD_at h2]

theorem tear_calm {D : Dev} {ps : List Int} {i : Nat} (h : D.new.getD i nil0 = nil0) : tearF D ps i = D.on.getD i nil0 := by unfold tearF; rw [if_pos h]

theorem crL_end {D : Dev} (hok : DevOk D) (ps : List Int) : crL D ps (cnt D.new D.new.length) = upd D.on D.on.length (tearF D ps) := by
  unfold crL upd
  refine List.map_congr_left fun i hi => ?_
  rw [List.mem_range] at hi
  rw [if_pos hi]
  unfold crF
  split
  · rfl
  next h =>
    have hw : D.new.getD i nil0 = nil0 := Classical.byContradiction fun hw => h (cnt_lt (by rw [hok.len]; exact hi) (Nat.le_refl _) hw)
    rw [tear_calm hw]

theorem crL_at {D : Dev} {ps : List Int} {j i : Nat} (hi : i < D.on.length) (hc : cnt D.new i = j) (h : i < (crL D ps j).length) : (crL D ps j)[i] = D.on[i] := by
  simp only [crL, List.getElem_map, List.getElem_range]
  unfold crF
  rw [if_neg (by omega), getD_at hi]

theorem crL_step {D : Dev} (hok : DevOk D) {ps : List Int} {j i : Nat} (hi : i < D.on.length) (hw : D.new.getD i nil0 ≠ nil0) (hc : cnt D.new i = j) :
    (crL D ps j).set i (torn D.on[i] (D.new.getD i nil0) (ps.getD j 0)) = crL D ps (j + 1) := by
  have hl := hok.len
  refine List.ext_getElem (by rw [List.length_set, crL_len, crL_len]) fun k h1 h2 => ?_
  rw [crL_len] at h2
  rw [List.getElem_set]
  simp only [crL, List.getElem_map, List.getElem_range]
  unfold crF
  by_cases e : i = k
  · subst e
    rw [if_pos rfl, if_pos (by omega)]
    unfold tearF
    rw [if_neg hw, getD_at hi, hc]
  · rw [if_neg e]
    by_cases hk : cnt D.new k = j
    · have hk2 : D.new.getD k nil0 = nil0 := Classical.byContradiction fun hk2 => by
        rcases Nat.lt_or_gt_of_ne e with h3 | h3
        · have := cnt_lt (new := D.new) h3 (by omega) hw; omega
        · have := cnt_lt (new := D.new) h3 (by omega) hk2; omega
      rw [if_neg (by omega), if_pos (by omega), tear_calm hk2]
    · by_cases h3 : cnt D.new k < j
      · rw [if_pos h3, if_pos (by omega)]
      · rw [if_neg h3, if_neg (by omega)]

/-- some of a sector's bytes are copied over another's -/
theorem copy_part {w : World} {a vb i m : Nat} {l : List ByteArray} {n : ByteArray} (ty : TypeId) (h : Cel w a 64 (onC l)) (h64 : ∀ s ∈ l, s.size = 64) (hi : i < l.length) (hv : Cel w vb 64 (secC n)) (hn : n.size = 64) (hm : m ≤ 64)
    (t : ByteArray) (ht : secC t = (secC n).take m ++ (secC l[i]).drop m) :
    (Builtin.copy_ #[62, 62] ty #[.slice (some ⟨a, i * 64, none⟩) 64 64, .slice (some ⟨vb, 0, none⟩) m 64]).run Try.prog w = .ok (goInt m) (w.setRow a (onC (l.set i t)).toArray) := by
  obtain ⟨i0, hi0, hz0, hz1, hz2⟩ := info_parts Bk.Try.infoU8
  have hinfo : (Try.prog.info? 5).map (·.size) = some 1 := by rw [hi0]; simp [hz1]
  have hnl : (secC n).length = 64 := by rw [secC_len, hn]
  have hcl : ((secC n).take m).length = m := by rw [List.length_take, hnl]; omega
  have hl := onC_len h64
  have hrun := run_copy_row Try.prog w 62 62 ty 5 a (i * 64) 64 64 ⟨vb, 0, none⟩ m 64 (onC l).toArray 64 ((secC n).take m) Try.underlying62 hinfo h (by rw [hcl]; exact (Nat.min_eq_left hm).symm)
    (fun j v hj => by
      rw [addr_head]
      refine hv.cell ?_
      have : j < m := by have := (List.getElem?_eq_some_iff.1 hj).1; rw [hcl] at this; exact this
      rw [List.getElem?_take_of_lt this] at hj
      exact hj)
    (by rw [hcl, List.size_toArray, hl]; omega) (fun v hv => secC_one n v (List.mem_of_mem_take hv))
  rw [hrun, hcl, List.toList_toArray]
  rw [onC_over h64 hi hcl hm, ← ht, ← onC_set hi]

section
variable {w w' : World} {g a b : Nat} {D : Dev}

theorem ints_row {W : World} {A : Option Addr} {l : List Int} (h : IntsAt W A l) {k : Nat} (hk : ∀ ad, A = some ad → ad.block ≠ k) (c : Array Value) : IntsAt (W.setRow k c) A l := fun hp => by
  obtain ⟨ad, h1, h2, h3⟩ := h hp
  refine ⟨ad, h1, by simpa using h2, fun i hi => ?_⟩
  have e : (W.setRow k c).heap[(ad.add i).block]? = W.heap[(ad.add i).block]? := by rw [st_block]; exact row_far c (hk ad h1)
  rw [show (W.setRow k c).cell? (ad.add i) = W.cell? (ad.add i) from by unfold World.cell?; rw [e]]
  exact h3 i hi

/-- a crash under way: the numbers lie at A, the first j of them are done -/
structure CrEnv (w W : World) (g a b : Nat) (A : Option Addr) (D : Dev) (ps : List Int) (j : Nat) : Prop where
  d : LAt W g a b ⟨crL D ps j, D.new, D.left, D.down⟩
  f : Fr (LFoot g a b) (LFoot g a b) w W
  ks : IntsAt W A (dirtyK D.new D.new.length)
  an : ∀ ad, A = some ad → w.heap.size ≤ ad.block

theorem CrEnv.step {W W' : World} {A : Option Addr} {ps : List Int} {j : Nat} (h : CrEnv w W g a b A D ps j) (hb : Below W.heap.size W W') : CrEnv w W' g a b A D ps j :=
  ⟨h.d.step hb, h.f.below hb, h.ks.below hb, h.an⟩

theorem CrEnv.put {W : World} {A : Option Addr} {ps : List Int} {j i : Nat} (hok : DevOk D) (hw0 : a < w.heap.size) (hi : i < D.on.length) (hw : D.new.getD i nil0 ≠ nil0) (hc : cnt D.new i = j) (h : CrEnv w W g a b A D ps j) {n : ByteArray} {p : Int} (hn : n = D.new.getD i nil0) (hp : p = ps.getD j 0) :
    CrEnv w (W.setRow a (onC ((crL D ps j).set i (torn D.on[i] n p))).toArray) g a b A D ps (j + 1) := by
  subst hn
  subst hp
  have hd := h.d.setRow (l := (crL D ps j).set i (torn D.on[i] (D.new.getD i nil0) (ps.getD j 0))) (by simp)
  refine ⟨?_, h.f.row (.inl lfoot_a) _, ints_row h.ks (fun ad had e => by have := h.an ad had; omega) _, h.an⟩
  rw [crL_step hok hi hw hc] at hd ⊢
  exact hd

/-- what lies in the last region of a round -/
structure CrMid (w W : World) (g a b vb : Nat) (A : Option Addr) (D : Dev) (ps : List Int) (j : Nat) (n : ByteArray) : Prop where
  e : CrEnv w W g a b A D ps j
  c : Cel W vb 64 (secC n)

end

end Sc
end Go.Proofs.Ytecgimnmccmpjaa
