/- How the landed log settles bytes, and its Sync, Room and Synced; contracts; no condition but the range. -/
import Derived.Test.YtjehjbkcdpidbaaGreatRlFill
namespace Go.Proofs.YtjehjbkcdpidbaaGreat
namespace Rd
open Go.RowKit Sc Bk

attribute [local go_sem ↓] Go.wp_at_zero Go.wp_at_succ
attribute [local go_sem] floatUpon pick

section
variable {Rep : RepT} {w : World} {F : Nat → Prop} {p g c a n m mn : Nat} {A B : Value} {l : Lg} {D : Dev}

theorem andD_len {D : Dev} {r : Dev × Int} {f : Dev → Dev × Int} (h : r.1.on.length = D.on.length) (hf : ∀ E, (f E).1.on.length = E.on.length) : (andD r f).1.on.length = D.on.length := by
  unfold andD
  split
  · rw [hf]; exact h
  · exact h

set_option maxRecDepth 20000 in
set_option maxHeartbeats 8000000 in
theorem settle_any (HRt : RepTxt) (HB : DevBase Rep) (H : DevQ Rep) (hr : Rep w F g D) (hc : LC w p g c a n A mn B) (hpF : ¬ F p) (h4 : 4 ≤ D.on.length) (hu : D.down = false) (hcc : c ≤ 4611686018427388000) (b : Nat) (old more : List UInt8) (hb : b ≤ 1) (hz : (old ++ more).length ≤ areaN D)
    (hold : more ≠ [] → (flushF D (areaAt D b + old.length / 64)).data.toList.take (old.length % 64) = old.drop (64 * (old.length / 64))) :
    Calls Tryz.prog 46 #[.pointer (some ⟨p, 0, none⟩), .int .i64 (b : Int), .int .i64 (old.length : Int), .string ⟨more.toArray⟩] w (PutPost Rep w F p g c a n A mn B (c + 1) b (old ++ more).length (settleP D c b old more)) := by
  have hab : areaN D ≤ 65536 := by have := (H.ok hr).max; unfold areaN; omega
  have hall : (old ++ more).length = old.length + more.length := List.length_append
  have ec : ((c + 1 : Nat) : Int) = (c : Int) + 1 := by omega
  have hlb : (old.length : Int) ≤ 65536 := by omega
  by_cases hm : more = []
  · subst hm
    have hpu := putHead_any (c := c + 1) (a := b) (n := old.length) HRt HB H hr hc hpF (by omega) hb (by omega)
    unfold hdV at hpu
    rw [ec] at hpu
    have HPu := Lib.hid hpu
    have hS : settleP D c b old [] = putP D (c + 1) b old.length := settle_none
    rw [hS, List.append_nil]
    have k1 := hc.cell (i := 1) rfl
    generalize putP D (c + 1) b old.length = r at HPu ⊢
    generalize hPst : PutPost Rep w F p g c a n A mn B (c + 1) b old.length r = Pst
    have HPst := Lib.hid hPst
    clear hpu hS hPst hall hz hold ec hr hc
    have hE : (⟨([] : List UInt8).toArray⟩ : ByteArray) = ⟨#[]⟩ := rfl
    rw [hE]
    clear hE
    have q0 := text_eq ⟨#[]⟩
    go_enter Tryz.func46, Tryz.ntmps46
    go_wp2_with fail
    refine HPu.out.mono ?_
    intro e w3 hpost
    obtain ⟨rfl, hrest⟩ := hpost
    have HQ := Lib.hid hrest
    clear hrest HPu
    go_wp2_with fail
    rw [← HPst.out]
    exact ⟨rfl, HQ.out⟩
  · have hfi := fill_any HRt HB H hr hc hpF h4 hu b old more hb hm hz (hold hm)
    have hS : settleP D c b old more = andD (fillP D b old more) fun D2 => putP D2 (c + 1) b (old ++ more).length := settle_fill hm
    have hmz : (⟨more.toArray⟩ : ByteArray).size = more.length := text_size more
    have hmp : 0 < more.length := List.length_pos_iff.2 hm
    have hHE := hc.lt
    have HR0 := Lib.hid hr
    rw [hS]
    generalize fillP D b old more = rf at hfi ⊢
    obtain ⟨D2, e2⟩ := rf
    have HPu := Lib.hid (fun W F2 (h1 : Rep W F2 g D2) (h2 : LC W p g c a n A mn B) (h3 : ¬ F2 p) => putHead_any (c := c + 1) (a := b) (n := (old ++ more).length) HRt HB H h1 h2 h3 (by omega) hb (by omega))
    unfold hdV at HPu
    rw [ec] at HPu
    have en : ((old ++ more).length : Int) = (old.length : Int) + ((⟨more.toArray⟩ : ByteArray).size : Int) := by rw [hmz]; omega
    have hsz2 : (old.length : Int) + ((⟨more.toArray⟩ : ByteArray).size : Int) ≤ 65536 := by rw [hmz]; omega
    rw [en] at HPu
    generalize hPst : PutPost Rep w F p g c a n A mn B (c + 1) b (old ++ more).length (andD (D2, e2) fun D2 => putP D2 (c + 1) b (old ++ more).length) = Pst
    have HPst := Lib.hid hPst
    generalize (old ++ more).length = nn at *
    have hne : (⟨more.toArray⟩ : ByteArray) ≠ ⟨#[]⟩ := fun e => by
      rw [e] at hmz
      have : (⟨#[]⟩ : ByteArray).size = 0 := rfl
      omega
    have HFi := Lib.hid hfi
    clear hfi hS hPst hall hz hold ec hr hc hHE hmp hmz
    generalize (⟨more.toArray⟩ : ByteArray) = SM at *
    have hq := text_ne hne
    have hq2 : ¬ SM.toList = [] := fun e => by
      have e0 : (⟨#[]⟩ : ByteArray).toList = [] := by rw [ByteArray.toList_eq]
      rw [e, e0] at hq
      exact absurd hq (by decide)
    have hq3 : SM.toList.isEmpty = false := by simpa using hq2
    clear hne hm en
    go_enter Tryz.func46, Tryz.ntmps46
    go_wp2_with fail
    refine HFi.out.mono ?_
    intro e w3 hpost
    obtain ⟨rfl, F2, h1, h2, h3, h5⟩ := hpost
    have HQ := Lib.hid (And.intro h1 (And.intro h2 (And.intro h3 h5)))
    have k1 := h3.cell (i := 1) rfl
    clear h1 h2 h3 h5 HFi
    by_cases h0 : e2 = 0
    rotate_left
    · have hnz : (e2 != 0) = true := by simpa using h0
      go_wp2_with fail
      rw [← HPst.out, and_stop h0]
      obtain ⟨q1, q2, q3, q4⟩ := HQ.out
      exact ⟨rfl, F2, q1, q2, fun h => absurd h h0, fun _ => q3, fr_p q4⟩
    subst h0
    have HP2 := Lib.hid (HPu.out w3 F2 HQ.out.1 HQ.out.2.2.1 HQ.out.2.1)
    rw [and_go rfl] at HPst
    simp only at HPst HP2
    generalize putP D2 (c + 1) b nn = r at HP2 HPst
    clear HPu
    go_wp2_with fail
    refine HP2.out.mono ?_
    intro e w4 hpost
    obtain ⟨rfl, F3, h1, h2, h3, h5, h6⟩ := hpost
    have HQ2 := Lib.hid (And.intro h1 (And.intro h2 (And.intro h3 (And.intro h5 h6))))
    clear h1 h2 h3 h5 h6 HP2 k1
    go_wp2_with fail
    rw [← HPst.out]
    obtain ⟨q1, q2, q3, q4, q5⟩ := HQ2.out
    exact ⟨rfl, F3, q1, q2, q3, q4, (fr_p HQ.out.2.2.2).trans q5⟩

end

end Rd
end Go.Proofs.YtjehjbkcdpidbaaGreat
