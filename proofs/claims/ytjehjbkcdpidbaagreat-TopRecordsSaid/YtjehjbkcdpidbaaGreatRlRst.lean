/- A landed log's Restart; contract; no condition but the range. -/
import Derived.Test.YtjehjbkcdpidbaaGreatRlApp
namespace Go.Proofs.YtjehjbkcdpidbaaGreat
namespace Rd
open Go.RowKit Sc Bk

attribute [local go_sem ↓] Go.wp_at_zero Go.wp_at_succ
attribute [local go_sem] floatUpon pick

section
variable {Rep : RepT} {w : World} {F : Nat → Prop} {p g c a n m mn : Nat} {A B : Value} {l : Lg} {D : Dev}

set_option maxRecDepth 20000 in
set_option maxHeartbeats 8000000 in
theorem restart_any (HRt : RepTxt) (HB : DevBase Rep) (H : DevQ Rep) (hr : Rep w F g D) (hL : LL w p g A B l) (hd : ∀ k, LFt p A B k → ¬ F k) (hi : LgIn D l) (hu : D.down = false)
    (E : Option Addr) (cE : Nat) (ts : List ByteArray) (hE : StrsAt w E ts) (hEn : E = none → cE = 0) (hEo : 0 < ts.length → ∀ x, E = some x → x.block < w.heap.size ∧ ¬ F x.block ∧ ¬ LFt p A B x.block) (hn : ts.length * 16 ≤ reachBytes) (hs : ∀ t ∈ ts, t.size ≤ reachBytes) (hq : (allF ts).length ≤ 140737488355328) :
    Calls Tryz.prog 36 #[.pointer (some ⟨p, 0, none⟩), .slice E ts.length cE] w (LPost Rep w F p g A B (restartP D l ts)) := by
  have hok := H.ok hr
  have hlo := hi.ok
  have hrb : reachBytes = 140737488351232 := rfl
  have HFm := Lib.hid (framed_any E cE ts w hE (by omega) (fun t ht => by have := hs t ht; omega) hq)
  have HE : Hid (Rep w F g D ∧ LL w p g A B l) := Lib.hid ⟨hr, hL⟩
  have hfp : framedP ts = if ∃ t ∈ ts, 4096 < t.size then ([], 2) else (allF ts, 0) := rfl
  have HMo := Lib.hid (fun W (hb : Below w.heap.size w W) => most_any H (H.step hr hb) (hL.step hb).cel hlo.dev)
  have hab : areaN D ≤ 65536 := by have := hok.max; unfold areaN; omega
  by_cases hlong : ∃ t ∈ ts, 4096 < t.size
  · have hR : restartP D l ts = (D, l, 2) := by unfold restartP; rw [if_pos hlong]
    rw [hfp, if_pos hlong] at HFm
    rw [hR]
    clear hr hL hR hlong hfp hE hEn hEo
    generalize hPst : LPost Rep w F p g A B (D, l, 2) = Pst
    have HPst := Lib.hid hPst
    clear hPst
    go_enter Tryz.func36, Tryz.ntmps36
    go_wp2_with fail
    refine HFm.out.mono ?_
    rintro e w2 ⟨rfl, hb⟩
    have HB2 := Lib.hid hb
    clear hb HFm
    go_wp2_with fail
    rw [← HPst.out]
    exact ⟨rfl, F, A, B, H.step HE.out.1 HB2.out, HE.out.2.step HB2.out, hd, fr_refl_below HB2.out⟩
  rw [hfp, if_neg hlong] at HFm
  have hsz : (⟨(allF ts).toArray⟩ : ByteArray).size = (allF ts).length := text_size _
  by_cases hbig : areaN D < (allF ts).length
  · have hR : restartP D l ts = (D, l, 100) := by unfold restartP; rw [if_neg hlong, if_pos hbig]
    rw [hR]
    have pf : (areaN D : Int) < ((⟨(allF ts).toArray⟩ : ByteArray).size : Int) := by rw [hsz]; omega
    clear hr hL hR hlong hfp hE hEn hEo hsz
    simp only at HFm
    generalize (⟨(allF ts).toArray⟩ : ByteArray) = S at *
    generalize areaN D = ab at *
    clear hbig
    generalize hPst : LPost Rep w F p g A B (D, l, 100) = Pst
    have HPst := Lib.hid hPst
    clear hPst
    go_enter Tryz.func36, Tryz.ntmps36
    go_wp2_with fail
    refine HFm.out.mono ?_
    rintro e w2 ⟨rfl, hb⟩
    have HB2 := Lib.hid hb
    clear hb HFm
    go_wp2_with fail
    refine (HMo.out w2 HB2.out).mono ?_
    rintro e w3 ⟨rfl, rfl⟩
    go_wp2_with fail
    rw [← HPst.out]
    exact ⟨rfl, F, A, B, H.step HE.out.1 HB2.out, HE.out.2.step HB2.out, hd, fr_refl_below HB2.out⟩
  have hR : restartP D l ts = if (settleP D l.cnt (1 - l.ar) [] (allF ts)).2 = 0 then ((settleP D l.cnt (1 - l.ar) [] (allF ts)).1, ⟨l.cnt + 1, 1 - l.ar, allF ts, ts, ts.length⟩, 0) else ((settleP D l.cnt (1 - l.ar) [] (allF ts)).1, l, (settleP D l.cnt (1 - l.ar) [] (allF ts)).2) := by
    unfold restartP; rw [if_neg hlong, if_neg hbig]
  have pf : ((⟨(allF ts).toArray⟩ : ByteArray).size : Int) ≤ (areaN D : Int) := by rw [hsz]; omega
  have hSt := Lib.hid (fun W (hb : Below w.heap.size w W) => show Calls Tryz.prog 46 #[.pointer (some ⟨p, 0, none⟩), .int .i64 ((1 - l.ar : Nat) : Int), .int .i64 0, .string ⟨(allF ts).toArray⟩] W (PutPost Rep W F p g l.cnt l.ar l.bs.length A l.mn B (l.cnt + 1) (1 - l.ar) (allF ts).length (settleP D l.cnt (1 - l.ar) [] (allF ts))) from
    settle_any HRt HB H (H.step hr hb) (hL.step hb).cel (hd p (.inl rfl)) hlo.dev hu hi.cnt (1 - l.ar) [] (allF ts) (by omega) (by rw [List.nil_append]; omega) (fun _ => by simp))
  have e1 : ((1 - l.ar : Nat) : Int) = 1 - (l.ar : Int) := by have := hlo.ar; omega
  rw [e1] at hSt
  have b1 : (l.ar : Int) ≤ 1 := by have := hlo.ar; omega
  have HCl := Lib.hid (fun W (h : StrsAt W E ts) => cloned_any E cE ts W h hEn (by omega) (fun t ht => by have := hs t ht; omega))
  have HSt : Hid (∀ W W' F', Below w.heap.size w W → Fr (fun k => F k ∨ k = p) F' W W' → StrsAt W' E ts) := Lib.hid (fun W W' F' hb hf => by
    have h1 := hE.below hb
    intro hp
    exact strs_fr h1 hf (fun x hx hq => hq.elim (hEo hp x hx).2.1 (fun e => (hEo hp x hx).2.2 (.inl e))) hp)
  generalize settleP D l.cnt (1 - l.ar) [] (allF ts) = rs at hR hSt
  obtain ⟨D1, z1⟩ := rs
  have HR := Lib.hid hR
  have y2 := fun W (hb : Below w.heap.size w W) => (hL.step hb).cel.cell (i := 2) rfl
  have HY2 := Lib.hid y2
  simp only at HFm
  obtain ⟨nF, hnF⟩ : ∃ nF, nF = (allF ts).length := ⟨_, rfl⟩
  rw [← hnF] at hSt
  have HNF := Lib.hid hnF
  clear hr hL hR hfp hE hEn hEo hsz y2 hbig hnF hlong e1
  generalize (⟨(allF ts).toArray⟩ : ByteArray) = S at *
  generalize areaN D = ab at *
  generalize hPst : LPost Rep w F p g A B (restartP D l ts) = Pst
  have HPst := Lib.hid hPst
  clear hPst
  go_enter Tryz.func36, Tryz.ntmps36
  go_wp2_with fail
  refine HFm.out.mono ?_
  rintro e w2 ⟨rfl, hb⟩
  have HB2 := Lib.hid hb
  clear hb HFm
  go_wp2_with fail
  refine (HMo.out w2 HB2.out).mono ?_
  rintro e w3 ⟨rfl, rfl⟩
  have k2 := HY2.out _ HB2.out
  clear HMo HY2
  go_wp2_with fail
  refine (hSt.out _ HB2.out).mono ?_
  intro e w7 hpost
  obtain ⟨rfl, F1, h1, h2, h3, h5, h6⟩ := hpost
  have HQ := Lib.hid (And.intro h1 (And.intro h2 (And.intro h3 (And.intro h5 h6))))
  clear h1 h2 h3 h5 h6 hSt k2
  by_cases h0 : z1 = 0
  rotate_left
  · have hnz : (z1 != 0) = true := by simpa using h0
    go_wp2_with fail
    rw [← HPst.out, HR.out, if_neg h0]
    obtain ⟨q1, q2, q3, q4, q5⟩ := HQ.out
    have hL2 := HE.out.2.step HB2.out
    have hrw := ll_rows hL2 hd q5
    have hof := lft_off hL2 hd q5 q2
    exact ⟨rfl, F1, A, B, q1, ⟨q4 h0, hrw.1, hrw.2⟩, hof, below_fr HB2.out (fr_llp q5)⟩
  subst h0
  obtain ⟨q1, q2, q3, q4, q5⟩ := HQ.out
  have HC7 := Lib.hid (q3 rfl)
  have HS7 := Lib.hid (HSt.out _ _ _ HB2.out q5)
  clear q1 q2 q3 q4 q5
  go_wp2_with fail
  refine (HCl.out w7 HS7.out).mono ?_
  rintro e w8 ⟨v, rfl, hown, hb⟩
  obtain ⟨X, cX, rfl, -⟩ := own_form2 hown
  have HB8 := Lib.hid hb
  have HV := Lib.hid (own_ge hown)
  have HO := Lib.hid (owns_lower hown (Nat.zero_le _))
  have HC8 := Lib.hid (Cel.below HC7.out hb)
  have z4 := HC8.out.cell (i := 4) rfl
  have z5 := HC8.out.cell (i := 5) rfl
  have z6 := HC8.out.cell (i := 6) rfl
  have zq := fun i => HC8.out.free (i := i)
  clear hb hown HCl
  go_wp2_with fail
  rw [← HPst.out, HR.out, if_pos (by trivial)]
  obtain ⟨q1, q2, q3, q4, q5⟩ := HQ.out
  have hfs : ∀ v0 v1 v2, Fr (fun k => k = p) (fun k => k = p) w8 (((w8.setCell ⟨p, 4, none⟩ v0).setCell ⟨p, 5, none⟩ v1).setCell ⟨p, 6, none⟩ v2) := fun v0 v1 v2 => (((Fr.refl (fun k => k = p) w8).set (p := ⟨p, 4, none⟩) rfl v0).set (p := ⟨p, 5, none⟩) rfl v1).set (p := ⟨p, 6, none⟩) rfl v2
  have hR8 := H.step q1 HB8.out
  have hXp := own_far HO.out HC8.out (by decide)
  have hb7 : Fr (fun k => F k ∨ LFt p A B k) (fun k => F1 k ∨ LFt p A B k) w w8 := (below_fr HB2.out (fr_llp q5)).below HB8.out
  have hb8 : Fr (fun k => F k ∨ LFt p A B k) (fun k => F1 k ∨ LFt p A B k) w (((w8.setCell ⟨p, 4, none⟩ (.slice X ts.length cX)).setCell ⟨p, 5, none⟩ (.int .i64 (ts.length : Int))).setCell ⟨p, 6, none⟩ (.slice none 0 0)) := ((hb7.set (p := ⟨p, 4, none⟩) (.inr (.inl rfl)) _).set (p := ⟨p, 5, none⟩) (.inr (.inl rfl)) _).set (p := ⟨p, 6, none⟩) (.inr (.inl rfl)) _
  have hlt1 := H.lt q1
  refine ⟨rfl, F1, .slice X ts.length cX, .slice none 0 0, H.kept hR8 fun j hj => (hfs _ _ _).block j (H.lt hR8 j hj) (fun e => q2 (e ▸ hj)), ⟨?_, own_kept HO.out fun j hj => (hfs _ _ _).block j (own_lt HO.out j hj) (fun e => hXp (e ▸ hj)), ?_⟩, fun k hk hf => ?_, ?_⟩
  · show LC _ p g (l.cnt + 1) (1 - l.ar) (allF ts).length _ ts.length _
    rw [← HNF.out]
    exact ((HC8.out.set (i := 4) (v := .slice X ts.length cX)).set (i := 5) (v := .int .i64 (ts.length : Int))).set (i := 6) (v := .slice none 0 0)
  · show World.ownsRow _ 0 5 1 (.slice none 0 0) (waitL ⟨l.cnt + 1, 1 - l.ar, allF ts, ts, ts.length⟩).length (Lib.byteCells (waitL ⟨l.cnt + 1, 1 - l.ar, allF ts, ts, ts.length⟩))
    have e0 : waitL ⟨l.cnt + 1, 1 - l.ar, allF ts, ts, ts.length⟩ = [] := frs_same _ _
    rw [e0]
    exact World.ownsRow_nil _ _ _ _
  · rcases hk with e | e | e
    · exact q2 (e ▸ hf)
    · have := HV.out k e; have := hlt1 k hf; omega
    · cases e
  · refine fr_foot hb8 (fun k hk => ?_)
    rcases hk with hk | e | e | e
    · exact hb8.foot k (.inl hk)
    · exact .inl (.inr (.inl e))
    · have h1 := HV.out k e
      have h2 := q5.size
      have h3 := HB2.out.size
      exact .inr (by omega)
    · cases e

end

end Rd
end Go.Proofs.YtjehjbkcdpidbaaGreat
