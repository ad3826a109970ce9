/- How a landed log is opened; contract; no condition but the range. -/
import Derived.Test.YtjehjbkcdpidbaaGreatRlLoad
namespace Go.Proofs.YtjehjbkcdpidbaaGreat
namespace Rd
open Go.RowKit Sc Bk

attribute [local go_sem ↓] Go.wp_at_zero Go.wp_at_succ
attribute [local go_sem] floatUpon pick

section
variable {Rep : RepT} {w : World} {F : Nat → Prop} {p g c a n m mn : Nat} {A B : Value} {l : Lg} {D : Dev}

/-- what is asked of Open -/
def OpnPost (Rep : RepT) (w : World) (F : Nat → Prop) (g : Nat) (r : Dev × Option Lg × Int) (e : Ending) (w' : World) : Prop :=
  ∃ F', Rep w' F' g r.1 ∧
    match r.2.1 with
    | none => e = .returned (.tuple #[.pointer none, .int .i64 r.2.2]) ∧ Fr F F' w w'
    | some l => ∃ p L, e = .returned (.tuple #[.pointer (some ⟨p, 0, none⟩), .int .i64 r.2.2]) ∧ LRep w' L p g r.1.on.length l ∧ (∀ k, L k → ¬ F' k) ∧ Fr F (fun k => F' k ∨ L k) w w'

theorem putP_len (D : Dev) (c a n : Nat) : (putP D c a n).1.on.length = D.on.length := by
  unfold putP andD
  split
  · rw [flD_len, wrD_on]
  · rw [wrD_on]

theorem store_none (D : Dev) (a : Nat) : storedL D a 0 = [] := by unfold storedL; rfl

theorem stored_len2 {D : Dev} (hok : DevOk D) (h4 : 4 ≤ D.on.length) {a n : Nat} (ha : a ≤ 1) (hn : n ≤ areaN D) : (storedL D a n).length = n := by
  have h1 : (n + 63) / 64 ≤ areaN D / 64 := by unfold areaN at *; omega
  unfold storedL
  rw [List.length_take, catS_len hok h4 ha _ h1]
  omega

theorem fr_open {F G : Nat → Prop} {w W1 W : World} (h : Below w.heap.size w W1) (hf : Fr (fun k => F k ∨ k = w.heap.size) G W1 W) : Fr F G w W :=
  ⟨hf.os.trans h.os, hf.tape.trans h.tape, hf.output.trans h.output, Nat.le_trans h.size hf.size,
    fun i hi hn => (hf.block i (Nat.lt_of_lt_of_le hi h.size) (fun hq => hq.elim hn (fun e => by omega))).trans (h.block i hi),
    fun k hk => (hf.foot k hk).elim (fun hq => hq.elim .inl (fun e => .inr (by omega))) (fun hs => .inr (Nat.le_trans h.size hs))⟩

theorem fr_less {F G G' : Nat → Prop} {w W : World} (h : Fr F G w W) (hs : ∀ k, G' k → G k) : Fr F G' w W := ⟨h.os, h.tape, h.output, h.size, h.block, fun k hk => h.foot k (hs k hk)⟩

/-- what open answers, by what start and the texts say -/
theorem open_start {D : Dev} (h4 : 4 ≤ D.on.length) : openP D =
    if (startP D).1.2 = 0 then
      (if (Su.allR ⟨(storedL (startP D).1.1 (startP D).2.2.1 (startP D).2.2.2).toArray⟩).2.2 = 0 then
        ((startP D).1.1, some ⟨(startP D).2.1, (startP D).2.2.1, storedL (startP D).1.1 (startP D).2.2.1 (startP D).2.2.2, (Su.allR ⟨(storedL (startP D).1.1 (startP D).2.2.1 (startP D).2.2.2).toArray⟩).1, (Su.allR ⟨(storedL (startP D).1.1 (startP D).2.2.1 (startP D).2.2.2).toArray⟩).1.length⟩, 0)
      else ((startP D).1.1, none, 101))
    else ((startP D).1.1, none, (startP D).1.2) := by
  unfold openP startP
  rw [if_neg (by omega)]
  by_cases hu : D.down = true
  · rw [if_pos hu, if_pos hu, if_neg (show ¬ (90 : Int) = 0 by decide)]
  · rw [if_neg hu, if_neg hu, hds_nw]
    by_cases hz : (nwP D).1 = 0
    · rw [if_pos hz, if_pos hz]
      have e : andD (wrD D 1 (headB 1 0 0)) flD = putP D 1 0 0 := rfl
      simp only [e, store_none]
      by_cases h0 : (putP D 1 0 0).2 = 0
      · rw [if_pos h0, if_pos h0]
        have ea : Su.allR ⟨([] : List UInt8).toArray⟩ = ([], 0, 0) := by decide
        rw [ea]
        rfl
      · rw [if_neg h0, if_neg h0]
    · rw [if_neg hz, if_neg hz]
      rfl

set_option maxRecDepth 20000 in
set_option maxHeartbeats 8000000 in
theorem open_any (HRt : RepTxt) (HB : DevBase Rep) (H : DevQ Rep) (hr : Rep w F g D) :
    Calls Tryz.prog 12 #[.pointer (some ⟨g, 0, none⟩)] w (OpnPost Rep w F g (openP D)) := by
  have HSz := Lib.hid (H.size w hr)
  have hmx := (H.ok hr).max
  by_cases h4 : D.on.length < 4
  · have hP : openP D = (D, none, 4) := by unfold openP; rw [if_pos h4]
    rw [hP]
    have HR0 := Lib.hid hr
    have p4 : (D.on.length : Int) < 4 := by omega
    generalize D.on.length = N at *
    clear h4 hP hr
    generalize hPst : OpnPost Rep w F g (D, none, 4) = Pst
    have HPst := Lib.hid hPst
    clear hPst
    go_enter Tryz.func12, Tryz.ntmps12
    go_wp2_with fail
    refine HSz.out.mono ?_
    rintro e w2 ⟨rfl, rfl⟩
    go_wp2_with fail
    rw [← HPst.out]
    exact ⟨F, HR0.out, rfl, Fr.refl _ _⟩
  · have p4 : ¬ (D.on.length : Int) < 4 := by omega
    have hP := open_start (D := D) (by omega)
    have hal : Below w.heap.size w (w.alloc (.cells #[.pointer (some ⟨g, 0, none⟩), .int .i64 0, .int .i64 0, .int .i64 0, .slice none 0 0, .int .i64 0, .slice none 0 0] 84)) := (Below.refl _ w).alloc (Nat.le_refl _) _
    have hcb : LC (w.alloc (.cells #[.pointer (some ⟨g, 0, none⟩), .int .i64 0, .int .i64 0, .int .i64 0, .slice none 0 0, .int .i64 0, .slice none 0 0] 84)) w.heap.size g 0 0 0 (.slice none 0 0) 0 (.slice none 0 0) := (blk1 w _).2
    have hFl := H.lt hr
    have hpF : ¬ F w.heap.size := fun hf => by have := hFl _ hf; omega
    have hst := start_any HRt HB H (H.step hr hal) hcb hpF (by omega)
    have hsz1 : w.heap.size < (w.alloc (.cells #[.pointer (some ⟨g, 0, none⟩), .int .i64 0, .int .i64 0, .int .i64 0, .slice none 0 0, .int .i64 0, .slice none 0 0] 84)).heap.size := by simp
    generalize hst2 : startP D = st at hst hP
    have hlen : st.1.2 = 0 → st.1.1.on.length = D.on.length ∧ st.2.2.1 ≤ 1 ∧ st.2.2.2 ≤ areaN st.1.1 ∧ (st.2.2.2 ≠ 0 → st.1.1.down = false) := fun h0 => by
      rw [← hst2] at h0 ⊢
      unfold startP at h0 ⊢
      by_cases hu : D.down = true
      · rw [if_pos hu] at h0
        exact absurd h0 (show ¬ (90 : Int) = 0 by decide)
      · have hu2 : D.down = false := by simpa using hu
        rw [if_neg hu] at h0 ⊢
        by_cases hz : (nwP D).1 = 0
        · rw [if_pos hz] at h0 ⊢
          exact ⟨putP_len D 1 0 0, Nat.zero_le _, Nat.zero_le _, fun h => absurd rfl h⟩
        · rw [if_neg hz]
          have hd := hds_nw D
          rw [if_neg hz] at hd
          have := hds_ok hd
          exact ⟨rfl, this.2.2.1, this.2.2.2, fun _ => hu2⟩
    obtain ⟨⟨D1, e1⟩, c1, a1, n1⟩ := st
    simp only at hst hP hlen
    generalize hPst : OpnPost Rep w F g (openP D) = Pst
    have HPst := Lib.hid hPst
    have HP := Lib.hid hP
    have HLen := Lib.hid hlen
    clear hPst hP hlen hst2 hr
    go_enter Tryz.func12, Tryz.ntmps12
    go_wp2_with fail
    refine HSz.out.mono ?_
    rintro e w2 ⟨rfl, rfl⟩
    go_upto_region 6 with fail
    generalize w2.alloc (.cells #[.pointer (some ⟨g, 0, none⟩), .int .i64 0, .int .i64 0, .int .i64 0, .slice none 0 0, .int .i64 0, .slice none 0 0] 84) = W1 at *
    generalize hp : w2.heap.size = p at *
    have HS := Lib.hid hst
    have HB1 := Lib.hid hal
    have HFl := Lib.hid hFl
    clear hst hal hcb hFl
    go_wp2_with fail
    refine HS.out.mono ?_
    intro e w3 hpost
    obtain ⟨rfl, F1, h1, h2, h3, h5, h6⟩ := hpost
    have HE := Lib.hid (And.intro h1 (And.intro h2 (And.intro h3 h6)))
    clear h1 h2 h3 h5 h6 HS
    by_cases h0 : e1 = 0
    rotate_left
    · have hne : (e1 != 0) = true := by simpa using h0
      go_wp2_with fail
      rw [← HPst.out, HP.out, if_neg h0]
      obtain ⟨q1, q2, q3, q4⟩ := HE.out
      rw [← hp] at HB1 q4
      exact ⟨F1, q1, rfl, fr_less (fr_open HB1.out q4) (fun k hk => .inl hk)⟩
    subst h0
    have hlo := HLen.out rfl
    have hEo := HE.out
    have hLd := load_any (D := D1) H hEo.1 (hEo.2.2.1 rfl) (by omega) hlo.2.1 hlo.2.2.1 hlo.2.2.2
    have HSt := Lib.hid (stored_len2 (D := D1) (H.ok hEo.1) (by omega) hlo.2.1 hlo.2.2.1)
    have HLd := Lib.hid hLd
    clear hLd hlo hEo HLen
    go_wp2_with fail
    refine HLd.out.mono ?_
    intro e w4 hpost
    rcases hpost with ⟨hz, rfl, v, h1, h2, h3, h5⟩ | ⟨hz, rfl, h1⟩
    · have HQ := Lib.hid (And.intro h1 (And.intro h2 (And.intro h3 h5)))
      clear h1 h2 h3 h5
      go_wp2_with fail
      rw [← HPst.out, HP.out, if_pos (by trivial), if_pos hz]
      obtain ⟨q1, q2, q3, q4⟩ := HE.out
      obtain ⟨h1, h2, h3, h5⟩ := HQ.out
      have hlt1 := H.lt q1
      have hr4 : Rep w4 F1 g D1 := H.kept q1 fun k hk => h5.block k (hlt1 k hk) (fun e => q2 (e ▸ hk))
      rw [← hp] at HB1 q4
      have hfo := fr_open HB1.out q4
      have hvs : ∀ k, LFt p v (.slice none 0 0) k → w2.heap.size ≤ k := fun k hk => by
        rcases hk with e | e | e
        · omega
        · have := h3 k e; have := hfo.size; omega
        · cases e
      refine ⟨F1, hr4, p, LFt p v (.slice none 0 0), rfl, ⟨v, .slice none 0 0, rfl, ?_, h2, ?_⟩, fun k hk hf => ?_, ?_⟩
      · show LC w4 p g c1 a1 (storedL D1 a1 n1).length v _ _
        rw [HSt.out]; exact h1
      · show w4.ownsRow 0 5 1 (.slice none 0 0) (waitL ⟨c1, a1, storedL D1 a1 n1, (Su.allR ⟨(storedL D1 a1 n1).toArray⟩).1, (Su.allR ⟨(storedL D1 a1 n1).toArray⟩).1.length⟩).length (Lib.byteCells (waitL ⟨c1, a1, storedL D1 a1 n1, (Su.allR ⟨(storedL D1 a1 n1).toArray⟩).1, (Su.allR ⟨(storedL D1 a1 n1).toArray⟩).1.length⟩))
        unfold waitL
        rw [frs_same]
        exact World.ownsRow_nil _ _ _ _
      · rcases hk with rfl | e | e
        · exact q2 hf
        · have := h3 k e; have := hlt1 k hf; omega
        · cases e
      · refine ⟨h5.os.trans hfo.os, h5.tape.trans hfo.tape, h5.output.trans hfo.output, Nat.le_trans hfo.size h5.size, fun i hi hn => (h5.block i (Nat.lt_of_lt_of_le hi hfo.size) (fun e => by omega)).trans (hfo.block i hi hn), fun k hk => ?_⟩
        rcases hk with hk | hk
        · exact hfo.foot k (.inl hk)
        · exact .inr (hvs k hk)
    · have HQ := Lib.hid h1
      clear h1
      go_wp2_with fail
      rw [← HPst.out, HP.out, if_pos (by trivial), if_neg hz]
      obtain ⟨q1, q2, q3, q4⟩ := HE.out
      rw [← hp] at HB1 q4
      exact ⟨F1, H.step q1 HQ.out, rfl, (fr_less (fr_open HB1.out q4) (fun k hk => .inl hk)).below HQ.out⟩

end

end Rd
end Go.Proofs.YtjehjbkcdpidbaaGreat
