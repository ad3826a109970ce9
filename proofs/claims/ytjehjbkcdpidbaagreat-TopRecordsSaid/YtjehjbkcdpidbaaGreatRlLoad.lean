/- How the landed log reads its texts; contract; no condition but the range. -/
import Derived.Test.YtjehjbkcdpidbaaGreatRlBytes
import Derived.Test.YtjehjbkcdpidbaaGreatRlAll
namespace Go.Proofs.YtjehjbkcdpidbaaGreat
namespace Rd
open Go.RowKit Sc Bk

attribute [local go_sem ↓] Go.wp_at_zero Go.wp_at_succ
attribute [local go_sem] floatUpon pick

section
variable {Rep : RepT} {w : World} {F : Nat → Prop} {p g c a n m mn : Nat} {A B : Value} {l : Lg} {D : Dev}

/-- what a load answers, and leaves -/
def LoadPost (w : World) (p g c a n : Nat) (B : Value) (r : List ByteArray × Nat × Nat) (e : Ending) (w' : World) : Prop :=
  (r.2.2 = 0 ∧ e = .returned (.int .i64 0) ∧ ∃ v : Value, LC w' p g c a n v r.1.length B ∧ w'.ownsRow 0 9 1 v r.1.length (strV r.1) ∧ (∀ j, v.ownBlock = some j → w.heap.size ≤ j) ∧ Fr (fun k => k = p) (fun k => k = p) w w') ∨
  (r.2.2 ≠ 0 ∧ e = .returned (.int .i64 101) ∧ Below w.heap.size w w')

theorem own_ge {e : TypeId} {H : Nat} {v : Value} {k : Nat} {xs : List Value} {W : World} (h : W.ownsRow H e 1 v k xs) : ∀ j, v.ownBlock = some j → H ≤ j := fun j hj => by
  rcases h with ⟨hl, ⟨hn, _⟩ | ⟨i, cap, cur, hv, hb, hg, rest⟩⟩
  · rw [hn] at hj; cases hj
  · rw [hv] at hj; cases hj; exact hb

theorem own_form2 {e : TypeId} {H : Nat} {v : Value} {k : Nat} {xs : List Value} {W : World} (h : W.ownsRow H e 1 v k xs) : ∃ (X : Option Addr) (c : Nat), v = .slice X k c ∧ k ≤ c := by
  rcases h with ⟨hl, ⟨hn, h0⟩ | ⟨i, cap, cur, hv, hb, hg, h1, rest⟩⟩
  · exact ⟨none, 0, by rw [hn, h0], by omega⟩
  · exact ⟨_, cap, hv, h1⟩

set_option maxRecDepth 20000 in
set_option maxHeartbeats 8000000 in
theorem load_any (H : DevQ Rep) (hr : Rep w F g D) (hc : LC w p g c a n A mn B) (h4 : 4 ≤ D.on.length) (ha : a ≤ 1) (hn : n ≤ areaN D) (hu : n ≠ 0 → D.down = false) :
    Calls Tryz.prog 41 #[.pointer (some ⟨p, 0, none⟩)] w (LoadPost w p g c a n B (Su.allR ⟨(storedL D a n).toArray⟩)) := by
  have HBy := Lib.hid (bytes_any H hr hc h4 ha hn hu)
  have hok := H.ok hr
  have hsz : (⟨(storedL D a n).toArray⟩ : ByteArray).size ≤ 65536 := by
    have h1 : (storedL D a n).length ≤ n := by unfold storedL; rw [List.length_take]; omega
    rw [text_size]
    have : areaN D ≤ 65536 := by have := hok.max; unfold areaN; omega
    omega
  have HC0 := Lib.hid hc
  have HR0 := Lib.hid hr
  have hL := Su.allR_len ⟨(storedL D a n).toArray⟩
  generalize (⟨(storedL D a n).toArray⟩ : ByteArray) = s at *
  have HA := Lib.hid (fun W => Su.all_own s W (by omega))
  generalize hP : LoadPost w p g c a n B (Su.allR s) = Pst
  have HP := Lib.hid hP
  clear hP hr hc hok
  generalize hq : Su.allR s = q at *
  obtain ⟨ts, at0, z⟩ := q
  simp only at HA hL
  clear hq
  go_enter Tryz.func41, Tryz.ntmps41
  go_wp2_with fail
  refine HBy.out.mono ?_
  rintro e w2 ⟨rfl, hb⟩
  have HB2 := Lib.hid hb
  clear hb HBy
  go_wp2_with fail
  refine (HA.out _).mono ?_
  rintro e w3 ⟨v, rfl, hown, hb⟩
  have HB3 := Lib.hid (HB2.out.trans (hb.mono HB2.out.size))
  obtain ⟨X, cX, rfl, hlc⟩ := own_form2 hown
  have HV := Lib.hid (own_ge hown)
  have HO := Lib.hid (owns_lower hown (Nat.zero_le _))
  have HS2 := Lib.hid HB2.out.size
  clear hb hown HA hlc
  by_cases hz : z = 0
  · subst hz
    have HC3 := Lib.hid (Cel.below HC0.out HB3.out)
    have zq := fun i => HC3.out.free (i := i)
    have z4 := HC3.out.cell (i := 4) rfl
    have z5 := HC3.out.cell (i := 5) rfl
    go_wp2_with fail
    rw [← HP.out]
    have hfr : ∀ v0 v1, Fr (fun k => k = p) (fun k => k = p) w ((w3.setCell ⟨p, 4, none⟩ v0).setCell ⟨p, 5, none⟩ v1) := fun v0 v1 => ((fr_refl_below (G := fun k => k = p) HB3.out).set (p := ⟨p, 4, none⟩) rfl v0).set (p := ⟨p, 5, none⟩) rfl v1
    have hdA := own_far HO.out HC3.out (by decide)
    refine .inl ⟨rfl, rfl, _, (HC3.out.set (i := 4) (v := .slice X ts.length cX)).set (i := 5) (v := .int .i64 (ts.length : Int)), own_kept HO.out fun j hj => ?_, fun j hj => Nat.le_trans HS2.out (HV.out j hj), hfr _ _⟩
    have hne : j ≠ p := fun e => hdA (by rw [← e]; exact hj)
    exact (Below.heap_setCell _ ⟨p, 5, none⟩ _ j hne).trans (Below.heap_setCell _ ⟨p, 4, none⟩ _ j hne)
  · have hne : ((z : Int) != 0) = true := by simpa using hz
    go_wp2_with fail
    rw [← HP.out]
    exact .inr ⟨hz, rfl, HB3.out⟩

end

end Rd
end Go.Proofs.YtjehjbkcdpidbaaGreat
