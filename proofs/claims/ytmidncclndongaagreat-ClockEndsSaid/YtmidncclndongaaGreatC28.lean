/- Parts of the proof, joined: RdDoc, CkRef, RcCheck0, RcCheck1; their conditions stand with each. -/
import Derived.Test.YtmidncclndongaaGreatC4
import Derived.Test.YtmidncclndongaaGreatC5
import Derived.Test.YtmidncclndongaaGreatC11
import Derived.Test.YtmidncclndongaaGreatC12
import Derived.Test.YtmidncclndongaaGreatC13
import Derived.Test.YtmidncclndongaaGreatC23
import Derived.Test.YtmidncclndongaaGreatC27

set_option maxRecDepth 20000
set_option maxHeartbeats 8000000
namespace Go.Proofs.YtmidncclndongaaGreat
namespace Rd
open Go.RowKit Sc Bk
def RDev (W:World) (F:Nat → Prop) (g:Nat) (D:Dev):Prop:=∃ ao an co cn so sn,F = RFoot g ao an ∧ RAt W g ao an co cn so sn D ∧ DevOk D
def DLog (W:World) (F:Nat → Prop) (k g:Nat) (_:Nat) (l:Lg):Prop:=∃ A c,F = (fun j=>j = k ∨ (0 < l.ts.length ∧ ∃ x,A = some x ∧ j = x.block)) ∧ LAt W k g A c l ∧ (A = none → c = 0)
theorem docDev:DevF 21 130 132 82 83 RDev where
 lt:=fun {W F g D} h=>by obtain ⟨ao,an,co,cn,so,sn,rfl,h1,_⟩:=h;exact h1.lt
 ok:=fun {W F g D} h=>by obtain ⟨ao,an,co,cn,so,sn,_,_,h2⟩:=h;exact h2
 kept:=fun {W W' F g D} h hk=>by obtain ⟨ao,an,co,cn,so,sn,rfl,h1,h2⟩:=h;exact ⟨ao,an,co,cn,so,sn,rfl,h1.kept hk,h2⟩
 read:=fun {F g D} i w h _=>by
  obtain ⟨ao,an,co,cn,so,sn,rfl,h1,h2⟩:=h
  refine (rread_any h1 h2 i).mono ?_
  rintro e w' ⟨rfl,rfl⟩
  exact ⟨rfl,_,⟨ao,an,co,cn,so,sn,rfl,h1,h2⟩,Fr.refl _ _⟩
 write:=fun {F g D} i t w h _ _=>by
  obtain ⟨ao,an,co,cn,so,sn,rfl,h1,h2⟩:=h
  refine (rwrite_any h1 h2 i t).mono ?_
  rintro e w' ⟨rfl,q1,q2⟩
  exact ⟨rfl,_,⟨ao,an,co,cn,so,sn,rfl,q1,wrD_ok h2 i t⟩,q2⟩
 flush:=fun {F g D} w h=>by
  obtain ⟨ao,an,co,cn,so,sn,rfl,h1,h2⟩:=h
  refine (rflush_any h1 h2).mono ?_
  rintro e w' ⟨rfl,q1,q2⟩
  exact ⟨rfl,_,⟨ao,an,co,cn,so,sn,rfl,q1,flD_ok h2⟩,q2⟩
 fuse:=fun {F g D} n w h _=>by
  obtain ⟨ao,an,co,cn,so,sn,rfl,h1,h2⟩:=h
  refine (rfuse_any h1 n).mono ?_
  rintro e w' ⟨rfl,q1,q2⟩
  exact ⟨rfl,_,⟨ao,an,co,cn,so,sn,rfl,q1,fuD_ok h2 n⟩,q2⟩
 crash:=fun {F g D} A c ps w h hp hd hl _=>by
  obtain ⟨ao,an,co,cn,so,sn,rfl,h1,h2⟩:=h
  refine (rcrash_any h1 h2 A c ps hp hd (by unfold reachBytes at hl;omega)).mono ?_
  rintro e w' ⟨rfl,q1,q2⟩
  exact ⟨rfl,_,⟨ao,an,co,cn,so,sn,rfl,q1,crD_ok h2 ps⟩,q2⟩
theorem off_of {g k:Nat} {ao an:Addr} {A:Option Addr} {l:Lg} {L:Nat → Prop} (hL:L = fun j=>j = k ∨ (0 < l.ts.length ∧ ∃ x,A = some x ∧ j = x.block)) (h:∀ j,L j → ¬ RFoot g ao an j):Off k g ao an A l:=by
 subst hL
 exact ⟨h k (.inl rfl),fun hp x hx=>h x.block (.inr ⟨hp,x,hx,rfl⟩)⟩
theorem off_back {g k:Nat} {ao an:Addr} {A:Option Addr} {l:Lg} (h:Off k g ao an A l):∀ j,(j = k ∨ (0 < l.ts.length ∧ ∃ x,A = some x ∧ j = x.block)) → ¬ RFoot g ao an j:=fun j hj=>by
 rcases hj with rfl | ⟨hp,x,hx,rfl⟩
 ·exact h.k
 ·exact h.a hp x hx
theorem docLog:LogF 73 85 87 151 91 RDev DLog where
 lt:=fun {W F p g n l} h k hk=>by
  obtain ⟨A,c,rfl,h1,_⟩:=h
  rcases hk with rfl | ⟨hp,x,hx,rfl⟩
  ·exact h1.cel.lt
  ·obtain ⟨ad,e,hl,_⟩:=h1.strs hp
   rw [hx] at e;cases e;exact hl
 kept:=fun {W W' F p g n l} h hk=>by
  obtain ⟨A,c,rfl,h1,h2⟩:=h
  refine ⟨A,c,rfl,⟨(hk p (.inl rfl)).trans h1.cel,fun hp=>?_,h1.nk⟩,h2⟩
  obtain ⟨ad,e,hl,hc⟩:=h1.strs hp
  have hkp:=hk ad.block (.inr ⟨hp,ad,e,rfl⟩)
  refine ⟨ad,e,?_,fun i hi=>?_⟩
  ·have h3:W.heap[ad.block]? = some W.heap[ad.block]:=Array.getElem?_eq_getElem hl
   rw [h3] at hkp
   exact (Array.getElem?_eq_some_iff.1 hkp).1
  ·have hkp2:=hkp
   rw [← st_block ad i] at hkp2
   refine Eq.trans ?_ (hc i hi)
   unfold World.cell?
   rw [hkp2]
 opn:=fun {F g D} w h=>by
  obtain ⟨ao,an,co,cn,so,sn,rfl,h1,h2⟩:=h
  refine (ropen_any h1 h2).mono ?_
  intro e w' hp
  obtain ⟨q1,q2,q3⟩:=hp
  refine ⟨_,⟨ao,an,co,cn,so,sn,rfl,q1,open_dev h2⟩,?_⟩
  cases hv:(openP D).2.1 with
  | none =>
   rw [hv] at q3
   exact ⟨q3,q2⟩
  | some l =>
   rw [hv] at q3
   obtain ⟨k,A,c,rfl,hk,hl,hA,hn⟩:=q3
   refine ⟨k,_,rfl,⟨A,c,rfl,hl,hn⟩,fun j hj hf=>?_,?_⟩
   ·have hlt:=h1.lt j hf
    rcases hj with rfl | ⟨_,x,hx,rfl⟩
    ·omega
    ·have:=hA x hx;omega
   ·refine ⟨q2.os,q2.tape,q2.output,q2.size,q2.block,fun j hj=>?_⟩
    rcases hj with hf | rfl | ⟨_,x,hx,rfl⟩
    ·exact .inl hf
    ·exact .inr hk
    ·exact .inr (hA x hx)
 app:=fun {F L g p D l} t w h hl hd hi _ ht=>by
  obtain ⟨ao,an,co,cn,so,sn,rfl,h1,h2⟩:=h
  obtain ⟨A,c,hL,hl1,hn⟩:=hl
  refine (rappend_any h1 hl1 h2 (off_of hL hd) hn hi.ok t ht).mono ?_
  rintro e w' ⟨rfl,A',c',q1,q2,q3,q4,q5⟩
  have hpk:=hd p (by rw [hL];exact .inl rfl)
  refine ⟨rfl,_,_,⟨ao,an,co,cn,so,sn,rfl,h1.kept fun j hj=>q5.block j (h1.lt j hj) (fun e=>hpk (e ▸ hj)),h2⟩,⟨A',c',rfl,q1,q3⟩,off_back q2,?_⟩
  refine ⟨q5.os,q5.tape,q5.output,q5.size,fun j hj hn=>q5.block j hj (fun e=>hn (.inr (by rw [hL];exact .inl e))),fun j hj=>?_⟩
  rcases hj with hf | rfl | ⟨hp,x,hx,rfl⟩
  ·exact .inl (.inl hf)
  ·exact .inl (.inr (by rw [hL];exact .inl rfl))
  ·rcases q4 with ⟨e1,_,e3⟩ | h4
   ·exact .inl (.inr (by rw [hL];exact .inr ⟨by rw [← e3];exact hp,x,by rw [← e1];exact hx,rfl⟩))
   ·exact .inr (h4 x hx)
 syn:=fun {F L g p D l} w h hl hd hi _=>by
  obtain ⟨ao,an,co,cn,so,sn,rfl,h1,h2⟩:=h
  obtain ⟨A,c,hL,hl1,hn⟩:=hl
  have ho:=off_of hL hd
  refine (rsync_any h1 hl1 h2 ho hi.ok hi.cnt).mono ?_
  rintro e w' ⟨rfl,q1,q2,q3,q4⟩
  have hts:(syncP D l).2.1.ts = l.ts:=by
   unfold syncP
   split
   ·rfl
   split
   ·rfl
   ·rfl
  refine ⟨rfl,_,L,⟨ao,an,co,cn,so,sn,rfl,q1,q2⟩,⟨A,c,by rw [hts];exact hL,q3,hn⟩,hd,?_⟩
  refine ⟨q4.os,q4.tape,q4.output,q4.size,fun j hj hn=>q4.block j hj (fun e=>hn (e.elim .inl (fun e=>.inr (by rw [hL];exact .inl e)))),fun j hj=>.inl hj⟩
 room:=fun {F L g p D l} w h hl hd hi _=>by
  obtain ⟨ao,an,co,cn,so,sn,rfl,h1,h2⟩:=h
  obtain ⟨A,c,hL,hl1,hn⟩:=hl
  refine (rroom_any h1 hl1 h2 hi.ok).mono ?_
  rintro e w' ⟨rfl,hb⟩
  exact ⟨rfl,_,L,⟨ao,an,co,cn,so,sn,rfl,h1.step hb,h2⟩,⟨A,c,hL,hl1.below hb,hn⟩,hd,(Fr.refl _ _).below hb⟩
 rst:=fun {F L g p D l} B cB ts w h hl hd hi _ hB hBn hBo hn hs _=>by
  obtain ⟨ao,an,co,cn,so,sn,rfl,h1,h2⟩:=h
  obtain ⟨A,c,hL,hl1,hAn⟩:=hl
  have ho:=off_of hL hd
  refine (rrestart_any h1 hl1 h2 ho hAn hi.ok hi.cnt B cB ts hB hBn (fun hp x hx=>⟨(hBo hp x hx).1,(hBo hp x hx).2.1,fun e=>(hBo hp x hx).2.2 (by rw [hL];exact .inl e)⟩) hn hs).mono ?_
  rintro e w' ⟨rfl,q1,q2,⟨A',c',q3,q4,q5,q6⟩,q7⟩
  refine ⟨rfl,_,_,⟨ao,an,co,cn,so,sn,rfl,q1,q2⟩,⟨A',c',rfl,q3,q5⟩,off_back q4,?_⟩
  refine ⟨q7.os,q7.tape,q7.output,q7.size,fun j hj hn=>q7.block j hj (fun e=>hn (e.elim .inl (fun e=>.inr (by rw [hL];exact .inl e)))),fun j hj=>?_⟩
  rcases hj with hf | rfl | ⟨hp,x,hx,rfl⟩
  ·exact .inl (.inl hf)
  ·exact .inl (.inr (by rw [hL];exact .inl rfl))
  ·rcases q6 with ⟨e1,_,e3⟩ | h4
   ·exact .inl (.inr (by rw [hL];exact .inr ⟨by rw [← e3];exact hp,x,by rw [← e1];exact hx,rfl⟩))
   ·exact .inr (h4 x hx)
end Rd
end Go.Proofs.YtmidncclndongaaGreat
namespace Go.Proofs.YtmidncclndongaaGreat
namespace Ck
open Go.RowKit Bk Sc Rd Rc Lt
attribute [local go_sem ↓] Go.wp_at_zero Go.wp_at_succ
attribute [local go_sem] floatUpon pick
abbrev RC := CAt RDev DLog 60
section
variable {w W : World} {F : Nat → Prop} {b g p : Nat} {D : Dev} {blk : Int} {k : Cl}
theorem one_len' {t : ByteArray} (ht : t.size ≤ 4096) : (allF [t]).length ≤ 140737488355328 := by
  have h2 : t.data.toList.length = t.size := Array.length_toList
  unfold allF frs
  simp only [List.length_cons, List.length_nil, List.take_succ_cons, List.take_nil, List.drop_zero, List.flatMap_cons, List.flatMap_nil, List.append_nil, Su.frameL_len]
  omega
theorem rraise_any (h : RC w F b g p D blk k) (hi : LgIn D k.l) (hu : D.down = false) (n : Int) (h1 : 1 ≤ n) (h2 : n ≤ mxS) :
    Calls Tryz.prog 93 #[.pointer (some ⟨b, 0, none⟩), .int .i64 n] w fun e w' => e = .returned (.int .i64 (raiseC D k n).2.2) ∧ CPost RDev DLog 60 w F b g p blk (raiseC D k n).1 (raiseC D k n).2.1 w' := by
  have hen := Rc.bytes_any none none 0 0 (bareR 7 0 n) w (Rc.nil_strs w none) (Rc.nil_wrs w none) (fun _ => rfl) (up_ok h1 h2)
  rw [show (⟨(recL (bareR 7 0 n)).toArray⟩ : ByteArray) = upB n from rfl] at hen
  unfold Rc.recV bareR at hen
  have HEn := Lib.hid hen
  have HH := Lib.hid h
  have HU := Lib.hid (And.intro hu (up_size h1 h2))
  have HI := Lib.hid (And.intro hi (h.sd.ok docDev))
  have HR := Lib.hid (show raiseC D k n = ((writeC D k.l (upB n)).1, ⟨(writeC D k.l (upB n)).2.1, k.last, if (writeC D k.l (upB n)).2.2 = 0 then n else k.bound⟩, (writeC D k.l (upB n)).2.2) from rfl)
  have HW := Lib.hid (show writeC D k.l (upB n) = if (appendP D k.l (upB n)).2 = 100 then restartP D (appendP D k.l (upB n)).1 [upB n] else if (appendP D k.l (upB n)).2 = 0 then syncP D (appendP D k.l (upB n)).1 else (D, appendP D k.l (upB n)) from rfl)
  clear h hi hu h1 h2 hen
  go_enter Tryz.func93, Tryz.ntmps93
  go_wp2_with fail
  refine HEn.out.mono ?_
  rintro e0 w0 ⟨rfl, hb0⟩
  have HB0 := Lib.hid hb0
  have H0 := Lib.hid (HH.out.below docDev docLog hb0)
  clear hb0 HEn HH
  have s0 := H0.out.cel.cell (i := 0) rfl
  generalize upB n = t at HU HW HR ⊢
  have hrb : reachBytes = 140737488351232 := rfl
  have HAp := Lib.hid (Side.app docLog H0.out.sd HI.out.1 HU.out.1 t (by rw [hrb]; have := HU.out.2; omega))
  have HIn := Lib.hid (app_in HI.out.2 HI.out.1 t)
  clear hrb
  go_wp2_with fail
  refine HAp.out.mono ?_
  rintro e1 w1 ⟨rfl, F1, hs1, hf1⟩
  have H1 := Lib.hid (H0.out.dev hs1 hf1)
  clear hs1 hf1 s0 HAp
  obtain ⟨l1, er, he1⟩ : ∃ l1 er, appendP D k.l t = (l1, er) := ⟨_, _, rfl⟩
  rw [he1] at H1 HIn HW
  simp only [he1] at H1 HIn HW ⊢
  clear he1
  have s1 := H1.out.1.cel.cell (i := 0) rfl
  by_cases h0 : er = 100
  · subst h0
    rw [if_pos rfl] at HW
    have HB := Lib.hid ((Below.refl _ w1).alloc (Nat.le_refl _) (.cells #[.string t] 9))
    have H2 := Lib.hid (H1.out.1.below docDev docLog HB.out)
    have hst : StrsAt (w1.alloc (.cells #[.string t] 9)) (some ⟨w1.heap.size, 0, none⟩) [t] := fun _ => ⟨⟨w1.heap.size, 0, none⟩, rfl, by simp, fun i hi => by
      have hi' : i < 1 := hi
      obtain rfl : i = 0 := by omega
      exact blk_cell (blk1 w1 _).2 rfl⟩
    have hrb : reachBytes = 140737488351232 := rfl
    have HRs := Lib.hid (Side.rst docLog H2.out.sd HIn.out HU.out.1 (some ⟨w1.heap.size, 0, none⟩) 1 [t] hst (fun e => by cases e) (fun _ x hx => by
      cases hx
      exact ⟨by simp, fun hf => Nat.lt_irrefl _ (H1.out.1.sd.lt docDev docLog _ hf)⟩) (by rw [hrb]; show 1 * 16 ≤ _; omega) (fun x hx => by rw [List.mem_singleton.1 hx, hrb]; have := HU.out.2; omega) (one_len' (by have := HU.out.2; omega)))
    clear hst hrb
    rw [HW.out] at HR
    go_wp2_with fail
    refine HRs.out.mono ?_
    rintro e2 w2 ⟨rfl, F2, hs2, hf2⟩
    have H3 := Lib.hid (H2.out.dev hs2 hf2).1
    have HF3 := Lib.hid (Fr.after HB0.out (H1.out.2.trans (Fr.after HB.out (H2.out.dev hs2 hf2).2)))
    clear hs2 hf2 HRs s1 HW
    generalize restartP D l1 [t] = R at H3 HR HF3 ⊢
    obtain ⟨D2, l2, e2⟩ := R
    simp only at H3 HR ⊢
    by_cases h0 : e2 = 0
    · subst h0
      rw [if_pos rfl] at HR
      have z0 : ((0 : Int) != 0) = false := by simp
      have u3 := H3.out.cel.cell (i := 3) rfl
      have fr := fun i => H3.out.cel.free (i := i)
      have H4 := Lib.hid (H3.out.setBound docDev docLog n)
      have HF4 := Lib.hid (fr_set HF3.out (b := b) (.inl (.inr rfl)) 3 (.int .i64 n))
      go_wp2_with fail
      go_ret
      rw [HR.out]
      exact ⟨rfl, F2, H4.out, HF4.out⟩
    · rw [if_neg h0] at HR
      have z0 : (e2 != 0) = true := by simpa using h0
      clear h0
      go_wp2_with fail
      go_ret
      rw [HR.out]
      exact ⟨rfl, F2, H3.out, HF3.out⟩
  rw [if_neg h0] at HW
  have z1 : (er == 100) = false := by simpa using h0
  clear h0
  by_cases h1 : er = 0
  · subst h1
    rw [if_pos rfl] at HW
    have HSy := Lib.hid (Side.syn docLog H1.out.1.sd HIn.out HU.out.1)
    rw [HW.out] at HR
    go_wp2_with fail
    refine HSy.out.mono ?_
    rintro e2 w2 ⟨rfl, F2, hs2, hf2⟩
    have H3 := Lib.hid (H1.out.1.dev hs2 hf2).1
    have HF3 := Lib.hid (Fr.after HB0.out (H1.out.2.trans (H1.out.1.dev hs2 hf2).2))
    clear hs2 hf2 HSy s1 HW
    generalize syncP D l1 = R at H3 HR HF3 ⊢
    obtain ⟨D2, l2, e2⟩ := R
    simp only at H3 HR ⊢
    by_cases h0 : e2 = 0
    · subst h0
      rw [if_pos rfl] at HR
      have z0 : ((0 : Int) != 0) = false := by simp
      have u3 := H3.out.cel.cell (i := 3) rfl
      have fr := fun i => H3.out.cel.free (i := i)
      have H4 := Lib.hid (H3.out.setBound docDev docLog n)
      have HF4 := Lib.hid (fr_set HF3.out (b := b) (.inl (.inr rfl)) 3 (.int .i64 n))
      go_wp2_with fail
      go_ret
      rw [HR.out]
      exact ⟨rfl, F2, H4.out, HF4.out⟩
    · rw [if_neg h0] at HR
      have z0 : (e2 != 0) = true := by simpa using h0
      clear h0
      go_wp2_with fail
      go_ret
      rw [HR.out]
      exact ⟨rfl, F2, H3.out, HF3.out⟩
  · rw [if_neg h1] at HW
    rw [HW.out] at HR
    simp only at HR ⊢
    rw [if_neg h1] at HR
    have z2 : (er == 0) = false := by simpa using h1
    have z3 : (er != 0) = true := by simpa using h1
    have HF3 := Lib.hid (Fr.after HB0.out H1.out.2)
    clear h1 s1
    go_wp2_with fail
    go_ret
    rw [HR.out]
    exact ⟨rfl, F1, H1.out.1, HF3.out⟩
theorem RC.drew (h : RC w F b g p D blk k) (n : Nat) : RC (w.drewN n) F b g p D blk k := h.below docDev docLog (below_drewN (Below.refl _ w) n)
theorem rnext_any (h : RC w F b g p D blk k) (hi : LgIn D k.l) (hu : D.down = false) (ho : ClOk k) (hb1 : 1 ≤ blk) (hb2 : blk ≤ 4096) :
    Calls Tryz.prog 48 #[.pointer (some ⟨b, 0, none⟩)] w fun e w' => e = .returned (.tuple #[.int .i64 (nextC D k blk).2.2.1, .int .i64 (nextC D k blk).2.2.2]) ∧ CPost RDev DLog 60 w F b g p blk (nextC D k blk).1 (nextC D k blk).2.1 w' := by
  have HH := Lib.hid h
  have HI := Lib.hid (And.intro hi hu)
  have s1 := h.cel.cell (i := 1) rfl
  have s2 := h.cel.cell (i := 2) rfl
  have s3 := h.cel.cell (i := 3) rfl
  have o1 := ho.l0
  have o2 := ho.lb
  have o3 := ho.bm
  have hm := mx_eq
  by_cases hx : k.last = 1125899906842624
  · have HE := Lib.hid (show nextC D k blk = (D, k, 0, 160) by unfold nextC; exact if_pos (hx.trans hm.symm))
    rw [hx] at s2
    clear h hi hu ho hx o1 o2 o3 hm s1 s3
    go_enter Tryz.func48, Tryz.ntmps48
    go_wp2_with fail
    go_ret2
    rw [HE.out]
    exact ⟨rfl, F, HH.out, Fr.refl _ _⟩
  have hx' : ¬ k.last = mxS := by rw [hm]; exact hx
  have z0 : ¬ 1125899906842624 ≤ k.last := by omega
  by_cases hy : k.last = k.bound
  case neg =>
    have HE := Lib.hid (show nextC D k blk = (D, ⟨k.l, k.last + 1, k.bound⟩, k.last + 1, 0) by unfold nextC; rw [if_neg hx', if_neg hy])
    have z1 : (k.last == k.bound) = false := by simpa using hy
    have ws : IntKind.i64.wrap (k.last + 1) = k.last + 1 := i64_wrap (by omega) (by omega)
    have HP := Lib.hid (fun W (hb : Below w.heap.size w W) => show RC (W.setCell ⟨b, 2, none⟩ (.int .i64 (k.last + 1))) F b g p D blk ⟨k.l, k.last + 1, k.bound⟩ ∧ Fr (Tc F b) (Tc F b) w (W.setCell ⟨b, 2, none⟩ (.int .i64 (k.last + 1))) from
      ⟨(HH.out.below docDev docLog hb).setLast docDev docLog _, fr_set (fr_below (Fr.refl _ w) hb) (.inl (.inr rfl)) 2 _⟩)
    have fr := fun i => h.cel.free (i := i)
    clear h hi hu ho hx hx' hy o1 o2 o3 hm
    go_enter Tryz.func48, Tryz.ntmps48
    go_upto_region 3 with fail
    go_quiet (fail)
    have hbd : Below w.heap.size w (w.drewN nq) := below_drewN (Below.refl _ w) nq
    have s2' := (HH.out.drew nq).cel.cell (i := 2) rfl
    have fr' := fun i => (HH.out.drew nq).cel.free (i := i)
    have HQ := Lib.hid (HP.out _ hbd)
    have s4 := HQ.out.1.cel.cell (i := 2) rfl
    generalize w.drewN nq = W1 at hbd s2' fr' HQ s4 ⊢
    clear s1 s2 s3 fr hbd HP
    go_wp2_with fail
    go_ret2
    rw [HE.out]
    exact ⟨rfl, F, HQ.out.1, HQ.out.2⟩
  obtain ⟨n, hn⟩ : ∃ n, n = min (k.bound + blk) mxS := ⟨_, rfl⟩
  have hn1 : k.bound < n := by rw [hn]; omega
  have hn2 : n ≤ mxS := by rw [hn]; omega
  have HE := Lib.hid (show nextC D k blk = if (raiseC D k n).2.2 = 0 then ((raiseC D k n).1, ⟨(raiseC D k n).2.1.l, k.last + 1, (raiseC D k n).2.1.bound⟩, k.last + 1, 0) else ((raiseC D k n).1, (raiseC D k n).2.1, 0, (raiseC D k n).2.2) by unfold nextC; rw [if_neg hx', if_pos hy, hn])
  have z1 : (k.last == k.bound) = true := by simpa using hy
  have wa : IntKind.i64.wrap (k.bound + blk) = k.bound + blk := i64_wrap (by omega) (by omega)
  have ws : IntKind.i64.wrap (k.last + 1) = k.last + 1 := i64_wrap (by omega) (by omega)
  have wm : min (k.bound + blk) 1125899906842624 = n := by rw [hn, hm]
  have HT := Lib.hid (fun W (t : RC W F b g p D blk k) => rraise_any t HI.out.1 HI.out.2 n (by omega) hn2)
  have HL := Lib.hid (show (raiseC D k n).2.1.last = k.last from rfl)
  have HY := Lib.hid hy
  clear h hi hu ho hx hx' hy o1 o2 o3 hm hn hn1 hn2
  go_enter Tryz.func48, Tryz.ntmps48
  go_upto_region 3 with fail
  go_quiet (fail)
  have H1 := Lib.hid (HH.out.drew nq)
  have HB1 := Lib.hid (below_drewN (Below.refl w.heap.size w) nq)
  generalize w.drewN nq = W1 at H1 HB1 ⊢
  have t1 := H1.out.cel.cell (i := 1) rfl
  have t3 := H1.out.cel.cell (i := 3) rfl
  clear s1 s2 s3 HH
  go_upto_region 4 with fail
  go_region_with (first
    | (refine (HT.out _ (H1.out.below docDev docLog (Below.refl _ _).drew)).mono ?_
       rintro e W2 ⟨rfl, F2, h2, hf2⟩
       have H2 := Lib.hid h2
       have HF2 := Lib.hid (Fr.after (HB1.out.trans ((Below.refl _ W1).drew.mono HB1.out.size)) hf2)
       clear h2 hf2 HT t1 t3))
  all_goals
    generalize raiseC D k n = R at H2 HE HL HF2 ⊢
    obtain ⟨D2, k2, er⟩ := R
    simp only at H2 HE HL ⊢
    by_cases h0 : er = 0
    · subst h0
      rw [if_pos rfl] at HE
      have u2 := H2.out.cel.cell (i := 2) rfl
      rw [HL.out] at u2
      have fr := fun i => H2.out.cel.free (i := i)
      have H3 := Lib.hid (H2.out.setLast docDev docLog (k.last + 1))
      have HF3 := Lib.hid (fr_set HF2.out (b := b) (.inl (.inr rfl)) 2 (.int .i64 (k.last + 1)))
      have u4 := H3.out.cel.cell (i := 2) rfl
      go_wp2_with fail
      go_ret2
      rw [HE.out]
      exact ⟨rfl, F2, H3.out, HF3.out⟩
    · rw [if_neg h0] at HE
      have z : (er != 0) = true := by simpa using h0
      clear h0
      go_wp2_with fail
      go_ret2
      rw [HE.out]
      exact ⟨rfl, F2, H2.out, HF2.out⟩
theorem rskip_any (h : RC w F b g p D blk k) (hi : LgIn D k.l) (hu : D.down = false) (ho : ClOk k) (n : Int) :
    Calls Tryz.prog 49 #[.pointer (some ⟨b, 0, none⟩), .int .i64 n] w fun e w' => e = .returned (.int .i64 (skipC D k n).2.2) ∧ CPost RDev DLog 60 w F b g p blk (skipC D k n).1 (skipC D k n).2.1 w' := by
  have HH := Lib.hid h
  have HI := Lib.hid (And.intro hi hu)
  have s2 := h.cel.cell (i := 2) rfl
  have s3 := h.cel.cell (i := 3) rfl
  have o1 := ho.l0
  have o2 := ho.lb
  have hm := mx_eq
  by_cases hx : n < k.last ∨ 1125899906842624 < n
  · have HE := Lib.hid (show skipC D k n = (D, k, 1) by unfold skipC; rw [hm]; exact if_pos hx)
    clear h hi hu ho o1 o2 hm
    by_cases hx1 : n < k.last
    · clear hx
      go_enter Tryz.func49, Tryz.ntmps49
      go_wp2_with fail
      go_ret
      rw [HE.out]
      exact ⟨rfl, F, HH.out, Fr.refl _ _⟩
    · have hx2 := hx.resolve_left hx1
      clear hx
      go_enter Tryz.func49, Tryz.ntmps49
      go_wp2_with fail
      go_ret
      rw [HE.out]
      exact ⟨rfl, F, HH.out, Fr.refl _ _⟩
  have x1 : ¬ n < k.last := fun q => hx (.inl q)
  have x2 : ¬ 1125899906842624 < n := fun q => hx (.inr q)
  have hx' : ¬ (n < k.last ∨ mxS < n) := by rw [hm]; exact hx
  by_cases hy : k.bound < n
  case neg =>
    have HE := Lib.hid (show skipC D k n = (D, ⟨k.l, n, k.bound⟩, 0) by unfold skipC; rw [if_neg hx', if_neg hy])
    have fr := fun i => h.cel.free (i := i)
    have H3 := Lib.hid (HH.out.setLast docDev docLog n)
    have HF3 := Lib.hid (fr_set (Fr.refl (Tc F b) w) (b := b) (.inl (.inr rfl)) 2 (.int .i64 n))
    clear h hi hu ho hx hx' o1 o2 hm
    go_enter Tryz.func49, Tryz.ntmps49
    go_wp2_with fail
    go_ret
    rw [HE.out]
    exact ⟨rfl, F, H3.out, HF3.out⟩
  have HE := Lib.hid (show skipC D k n = if (raiseC D k n).2.2 = 0 then ((raiseC D k n).1, ⟨(raiseC D k n).2.1.l, n, (raiseC D k n).2.1.bound⟩, 0) else raiseC D k n by unfold skipC; rw [if_neg hx', if_pos hy])
  have HT := Lib.hid (rraise_any h HI.out.1 HI.out.2 n (by omega) (by omega))
  clear h hi hu ho hx hx' o1 o2 hm
  go_enter Tryz.func49, Tryz.ntmps49
  go_wp2_with fail
  refine HT.out.mono ?_
  rintro e W2 ⟨rfl, F2, h2, hf2⟩
  have H2 := Lib.hid h2
  have HF2 := Lib.hid hf2
  clear h2 hf2 HT s2 s3
  generalize raiseC D k n = R at H2 HE HF2 ⊢
  obtain ⟨D2, k2, er⟩ := R
  simp only at H2 HE ⊢
  by_cases h0 : er = 0
  · subst h0
    rw [if_pos rfl] at HE
    have u2 := H2.out.cel.cell (i := 2) rfl
    have fr := fun i => H2.out.cel.free (i := i)
    have H3 := Lib.hid (H2.out.setLast docDev docLog n)
    have HF3 := Lib.hid (fr_set HF2.out (b := b) (.inl (.inr rfl)) 2 (.int .i64 n))
    go_wp2_with fail
    go_ret
    rw [HE.out]
    exact ⟨rfl, F2, H3.out, HF3.out⟩
  · rw [if_neg h0] at HE
    have z : (er != 0) = true := by simpa using h0
    clear h0
    go_wp2_with fail
    go_ret
    rw [HE.out]
    exact ⟨rfl, F2, H2.out, HF2.out⟩
end
end Ck
end Go.Proofs.YtmidncclndongaaGreat
namespace Go.Proofs.YtmidncclndongaaGreat
namespace Rc
open Go.RowKit Bk Lt
attribute [local go_sem ↓] Go.wp_at_zero Go.wp_at_succ
attribute [local go_sem] floatUpon pick
theorem check_bad (A B:Option Addr) (c d:Nat) (r:Rec) (w:World) (ha:StrsAt w A r.keys) (hb:WrsAt w B r.ws) (hr:RecRng r) (hbad:¬ headOk r) :
  Calls Tryz.prog 137 #[recV r A B c d] w fun e w'=>e = .returned (.int .i64 (ckN r:Int)) ∧ Below w.heap.size w w':=by
 have henv:=RcEnv.start (c:=c) (d:=d) ha hb
 have rb:reachBytes ≤ 140737488351232:=by unfold reachBytes;omega
 have HTa:=Lib.hid (fun W=>txn_any r.txn W hr.txn)
 have HPa:=Lib.hid (fun W=>stamp_any r.ts W hr.ts)
 have nk:r.keys.length ≤ 9223372036854775807:=by have:=hr.k16;omega
 have nw:r.ws.length * 16 + 16 ≤ 140737488355328:=by have:=hr.w40;omega
 have HRi:=Lib.hid (fun W (h:StrsAt W A r.keys)=>rising_any A c r.keys W h nk (fun s hs=>by have:=hr.kr s hs;omega))
 have HWr:=Lib.hid (fun W (h:WrsAt W B r.ws)=>writes_any B d r.ws W h nw (fun x hx=>by have:=hr.wr x hx;omega))
 have HKy:=Lib.hid (fun W=>key_any r.key W (by have:=hr.key;omega))
 have pk:(r.keys.length:Int) ≤ 9223372036854775807:=by omega
 have pw:(r.ws.length:Int) ≤ 9223372036854775807:=by omega
 have ptx:(r.text.size:Int) ≤ 140737488351232:=by have:=hr.text;omega
 clear ha hb hr rb nk nw
 unfold recV
 go_enter Tryz.func137,Tryz.ntmps137
 go_upto_region 1 with fail
 generalize w.alloc (.cells #[.int .i64 r.kind,.int .i64 r.txn,.int .i64 r.ts,.int .i64 r.coord,.string r.key,.string r.text,.bool r.dead,.slice A r.keys.length c,.slice B r.ws.length d] 39) = W1 at henv ⊢
 have HE:=Lib.hid henv
 have k0:=henv.cel.cell (i:=0) rfl
 have k1:=henv.cel.cell (i:=1) rfl
 have k2:=henv.cel.cell (i:=2) rfl
 have k3:=henv.cel.cell (i:=3) rfl
 have k4:=henv.cel.cell (i:=4) rfl
 have k5:=henv.cel.cell (i:=5) rfl
 have k6:=henv.cel.cell (i:=6) rfl
 have k7:=henv.cel.cell (i:=7) rfl
 have k8:=henv.cel.cell (i:=8) rfl
 clear henv
 have E:=Lib.hid (ckN_head hbad)
 have HB1:=Lib.hid HE.out.bel
 by_cases h0:r.txn = 0
 ·have HT0:r.txn = 0 ∨ txnOk r.txn:=.inl h0
  have q0:(r.txn != 0) = false:=by simp [h0]
  by_cases h3:stampOk r.ts
  ·rw [show decide (stampOk r.ts) = true from decide_eq_true h3] at HPa
   by_cases h4:r.coord < 0
   ·clear h3 hbad h0 HT0
    go_wp2_with fail
    refine (HPa.out _).mono ?_
    rintro e w' ⟨rfl,rfl⟩
    go_wp2_with fail
    go_ret
    exact ⟨by rw [E.out];rfl,HB1.out⟩
   ·have p4:0 ≤ r.coord:=by omega
    have p5:16 ≤ r.coord:=by
     rcases Int.lt_or_le r.coord 16 with h5 | h5
     ·exact absurd ⟨HT0,h3,p4,h5⟩ hbad
     ·exact h5
    clear h3 h4 hbad h0 HT0
    go_wp2_with fail
    refine (HPa.out _).mono ?_
    rintro e w' ⟨rfl,rfl⟩
    go_wp2_with fail
    go_ret
    exact ⟨by rw [E.out];rfl,HB1.out⟩
  ·rw [show decide (stampOk r.ts) = false from decide_eq_false h3] at HPa
   clear h3 hbad h0 HT0
   go_wp2_with fail
   refine (HPa.out _).mono ?_
   rintro e w' ⟨rfl,rfl⟩
   go_wp2_with fail
   go_ret
   exact ⟨by rw [E.out];rfl,HB1.out⟩
 ·have q0:(r.txn != 0) = true:=by simp [h0]
  by_cases h1:txnOk r.txn
  ·have HT0:r.txn = 0 ∨ txnOk r.txn:=.inr h1
   rw [show decide (txnOk r.txn) = true from decide_eq_true h1] at HTa
   by_cases h3:stampOk r.ts
   ·rw [show decide (stampOk r.ts) = true from decide_eq_true h3] at HPa
    by_cases h4:r.coord < 0
    ·clear h3 hbad h0 h1 HT0
     go_wp2_with fail
     refine (HTa.out _).mono ?_
     rintro e w' ⟨rfl,rfl⟩
     go_wp2_with fail
     refine (HPa.out _).mono ?_
     rintro e w' ⟨rfl,rfl⟩
     go_wp2_with fail
     go_ret
     exact ⟨by rw [E.out];rfl,HB1.out⟩
    ·have p4:0 ≤ r.coord:=by omega
     have p5:16 ≤ r.coord:=by
      rcases Int.lt_or_le r.coord 16 with h5 | h5
      ·exact absurd ⟨HT0,h3,p4,h5⟩ hbad
      ·exact h5
     clear h3 h4 hbad h0 h1 HT0
     go_wp2_with fail
     refine (HTa.out _).mono ?_
     rintro e w' ⟨rfl,rfl⟩
     go_wp2_with fail
     refine (HPa.out _).mono ?_
     rintro e w' ⟨rfl,rfl⟩
     go_wp2_with fail
     go_ret
     exact ⟨by rw [E.out];rfl,HB1.out⟩
   ·rw [show decide (stampOk r.ts) = false from decide_eq_false h3] at HPa
    clear h3 hbad h0 h1 HT0
    go_wp2_with fail
    refine (HTa.out _).mono ?_
    rintro e w' ⟨rfl,rfl⟩
    go_wp2_with fail
    refine (HPa.out _).mono ?_
    rintro e w' ⟨rfl,rfl⟩
    go_wp2_with fail
    go_ret
    exact ⟨by rw [E.out];rfl,HB1.out⟩
  ·rw [show decide (txnOk r.txn) = false from decide_eq_false h1] at HTa
   clear h0 h1 hbad
   go_wp2_with fail
   refine (HTa.out _).mono ?_
   rintro e w' ⟨rfl,rfl⟩
   go_wp2_with fail
   go_ret
   exact ⟨by rw [E.out];rfl,HB1.out⟩
theorem check_g1 (A B:Option Addr) (c d:Nat) (r:Rec) (w:World) (ha:StrsAt w A r.keys) (hb:WrsAt w B r.ws) (hr:RecRng r) (hhead:headOk r) (HKd:Hid (r.kind = 1 ∨ r.kind = 2)) :
  Calls Tryz.prog 137 #[recV r A B c d] w fun e w'=>e = .returned (.int .i64 (ckN r:Int)) ∧ Below w.heap.size w w':=by
 have henv:=RcEnv.start (c:=c) (d:=d) ha hb
 have rb:reachBytes ≤ 140737488351232:=by unfold reachBytes;omega
 have HTa:=Lib.hid (fun W=>txn_any r.txn W hr.txn)
 have HPa:=Lib.hid (fun W=>stamp_any r.ts W hr.ts)
 have nk:r.keys.length ≤ 9223372036854775807:=by have:=hr.k16;omega
 have nw:r.ws.length * 16 + 16 ≤ 140737488355328:=by have:=hr.w40;omega
 have HRi:=Lib.hid (fun W (h:StrsAt W A r.keys)=>rising_any A c r.keys W h nk (fun s hs=>by have:=hr.kr s hs;omega))
 have HWr:=Lib.hid (fun W (h:WrsAt W B r.ws)=>writes_any B d r.ws W h nw (fun x hx=>by have:=hr.wr x hx;omega))
 have HKy:=Lib.hid (fun W=>key_any r.key W (by have:=hr.key;omega))
 have pk:(r.keys.length:Int) ≤ 9223372036854775807:=by omega
 have pw:(r.ws.length:Int) ≤ 9223372036854775807:=by omega
 have ptx:(r.text.size:Int) ≤ 140737488351232:=by have:=hr.text;omega
 clear ha hb hr rb nk nw
 unfold recV
 go_enter Tryz.func137,Tryz.ntmps137
 go_upto_region 1 with fail
 generalize w.alloc (.cells #[.int .i64 r.kind,.int .i64 r.txn,.int .i64 r.ts,.int .i64 r.coord,.string r.key,.string r.text,.bool r.dead,.slice A r.keys.length c,.slice B r.ws.length d] 39) = W1 at henv ⊢
 have HE:=Lib.hid henv
 have k0:=henv.cel.cell (i:=0) rfl
 have k1:=henv.cel.cell (i:=1) rfl
 have k2:=henv.cel.cell (i:=2) rfl
 have k3:=henv.cel.cell (i:=3) rfl
 have k4:=henv.cel.cell (i:=4) rfl
 have k5:=henv.cel.cell (i:=5) rfl
 have k6:=henv.cel.cell (i:=6) rfl
 have k7:=henv.cel.cell (i:=7) rfl
 have k8:=henv.cel.cell (i:=8) rfl
 clear henv
 have HHead:=Lib.hid hhead
 rw [show decide (stampOk r.ts) = true from decide_eq_true hhead.2.1] at HPa
 have p4:0 ≤ r.coord:=hhead.2.2.1
 have p5:r.coord < 16:=hhead.2.2.2
 go_cut [31] (fun s wx=>s = .bool false ∧ wx = W1)
 case first =>
  by_cases h0:r.txn = 0
  ·have HT0:r.txn = 0 ∨ txnOk r.txn:=.inl h0
   have q0:(r.txn != 0) = false:=by simp [h0]
   clear h0 HT0
   go_wp2_with fail
   refine (HPa.out _).mono ?_
   rintro e w' ⟨rfl,rfl⟩
   go_wp2_with fail
   go_meet
   exact ⟨by first | rfl | (simp;omega),rfl⟩
  ·have q0:(r.txn != 0) = true:=by simp [h0]
   have h1:txnOk r.txn:=by rcases hhead.1 with h | h;exact absurd h h0;exact h
   rw [show decide (txnOk r.txn) = true from decide_eq_true h1] at HTa
   clear h0 h1
   go_wp2_with fail
   refine (HTa.out _).mono ?_
   rintro e w' ⟨rfl,rfl⟩
   go_wp2_with fail
   refine (HPa.out _).mono ?_
   rintro e w' ⟨rfl,rfl⟩
   go_wp2_with fail
   go_meet
   exact ⟨by first | rfl | (simp;omega),rfl⟩
 case rest =>
  obtain ⟨rfl,rfl⟩:=hcut
  have HB1:=Lib.hid HE.out.bel
  go_upto_region 3 with fail
  obtain ⟨lb,hlb⟩:=bool_of (p:=ListsOk r)
  have HL:=Lib.hid hlb
  clear hlb
  go_cut [3] (fun s wx=>s = .bool lb ∧ wx = wc)
  case first =>
   by_cases g1:r.keys = []
   ·have q1:((r.keys.length:Int) == 0) = true:=by rw [g1];rfl
    by_cases g2:r.ws = []
    ·have q2:((r.ws.length:Int) == 0) = true:=by rw [g2];rfl
     have N:=Lib.hid (HL.out.2 ⟨g1,g2⟩)
     clear g1 g2
     go_wp2_with fail
     go_meet
     exact ⟨by first | (rw [N.out];done) | (rw [N.out];rfl) | (rw [N.out];simp;omega),rfl⟩
    ·have h3:¬ r.ws.length = 0:=fun h=>g2 (List.length_eq_zero_iff.1 h)
     have q2:((r.ws.length:Int) == 0) = false:=by simp;exact g2
     have N:=Lib.hid (show lb = false by
      cases lb
      ·rfl
      ·exact absurd (HL.out.1 rfl).2 g2)
     clear g1 g2 h3
     go_wp2_with fail
     go_meet
     exact ⟨by first | (rw [N.out];done) | (rw [N.out];rfl) | (rw [N.out];simp;omega),rfl⟩
   ·have q1:((r.keys.length:Int) == 0) = false:=by simp;exact g1
    have N:=Lib.hid (show lb = false by
     cases lb
     ·rfl
     ·exact absurd (HL.out.1 rfl).1 g1)
    clear g1
    go_wp2_with fail
    go_meet
    exact ⟨by first | (rw [N.out];done) | (rw [N.out];rfl) | (rw [N.out];simp;omega),rfl⟩
  case rest =>
   obtain ⟨rfl,rfl⟩:=hcut
   go_upto_region 4 with fail
   obtain ⟨tb,htb⟩:=bool_of (p:=TextOk r)
   have HTx:=Lib.hid htb
   clear htb
   obtain ⟨wo,rfl⟩:∃ wo:World,wo = wc:=⟨_,rfl⟩
   go_cut [4] (fun s wx=>s = .bool tb ∧ wx = wo)
   case first =>
    by_cases g1:r.key = ⟨#[]⟩
    ·have te:=text_eq ⟨#[]⟩
     rw [g1] at k4
     by_cases g2:r.text = ⟨#[]⟩
     ·rw [g2] at k5
      rcases Bool.eq_false_or_eq_true r.dead with g3 | g3
      ·have hd:=g3
       have N:=Lib.hid (show tb = false by
        cases tb
        ·rfl
        ·exact absurd (HTx.out.1 rfl).2.2 (by rw [hd];simp))
       rw [g3] at k6
       clear g1 g2 g3 hd
       go_wp2_with fail
       go_meet
       exact ⟨by first | (rw [N.out];done) | (rw [N.out];rfl) | (rw [N.out];simp;omega),rfl⟩
      ·have hd:=g3
       have N:=Lib.hid (HTx.out.2 ⟨g1,g2,hd⟩)
       rw [g3] at k6
       clear g1 g2 g3 hd
       go_wp2_with fail
       go_meet
       exact ⟨by first | (rw [N.out];done) | (rw [N.out];rfl) | (rw [N.out];simp;omega),rfl⟩
     ·have hz:=g2
      have t0:=text_ne g2
      have t1:=empty_list g2
      have t2:r.text.toList.isEmpty = false:=by rw [List.isEmpty_eq_false_iff];exact t1
      have N:=Lib.hid (show tb = false by
       cases tb
       ·rfl
       ·exact absurd (HTx.out.1 rfl).2.1 g2)
      clear g1 g2 hz
      go_wp2_with fail
      go_meet
      exact ⟨by first | (rw [N.out];done) | (rw [N.out];rfl) | (rw [N.out];simp;omega),rfl⟩
    ·have hz:=g1
     have t0:=text_ne g1
     have t1:=empty_list g1
     have t2:r.key.toList.isEmpty = false:=by rw [List.isEmpty_eq_false_iff];exact t1
     have N:=Lib.hid (show tb = false by
      cases tb
      ·rfl
      ·exact absurd (HTx.out.1 rfl).1 g1)
     clear g1 hz
     go_wp2_with fail
     go_meet
     exact ⟨by first | (rw [N.out];done) | (rw [N.out];rfl) | (rw [N.out];simp;omega),rfl⟩
   case rest =>
    obtain ⟨rfl,rfl⟩:=hcut
    go_upto_region 5 with fail
    obtain ⟨b,hb⟩:=bool_of (p:=BareOk r)
    have HBa:=Lib.hid hb
    clear hb
    obtain ⟨wo2,rfl⟩:∃ wo2:World,wo2 = wc:=⟨_,rfl⟩
    go_cut [5] (fun s wx=>s = .bool b ∧ wx = wo2)
    case first =>
     cases lb with
     | true =>
      cases tb with
      | true =>
       by_cases g1:r.coord = 0
       ·have q1:(r.coord == 0) = true:=by simp [g1]
        have N:=Lib.hid (HBa.out.2 ⟨HL.out.1 rfl,HTx.out.1 rfl,g1⟩)
        clear g1
        go_wp2_with fail
        go_meet
        exact ⟨by first | (rw [N.out];done) | (rw [N.out];rfl) | (rw [N.out];simp;omega),rfl⟩
       ·have q1:(r.coord == 0) = false:=by simp [g1]
        have N:=Lib.hid (show b = false by
         cases b
         ·rfl
         ·exact absurd (HBa.out.1 rfl).2.2 g1)
        clear g1
        go_wp2_with fail
        go_meet
        exact ⟨by first | (rw [N.out];done) | (rw [N.out];rfl) | (rw [N.out];simp;omega),rfl⟩
      | false =>
       have N:=Lib.hid (show b = false by
        cases b
        ·rfl
        ·exact absurd (HBa.out.1 rfl).2.1 (fun h=>by have:=HTx.out.2 h;cases this))
       go_wp2_with fail
       go_meet
       exact ⟨by first | (rw [N.out];done) | (rw [N.out];rfl) | (rw [N.out];simp;omega),rfl⟩
     | false =>
      have N:=Lib.hid (show b = false by
       cases b
       ·rfl
       ·exact absurd (HBa.out.1 rfl).1 (fun h=>by have:=HL.out.2 h;cases this))
      go_wp2_with fail
      go_meet
      exact ⟨by first | (rw [N.out];done) | (rw [N.out];rfl) | (rw [N.out];simp;omega),rfl⟩
    case rest =>
     obtain ⟨rfl,rfl⟩:=hcut
     have HBb:=Lib.hid HE.out.bel
     have hk:=HKd.out
     by_cases hkd:r.kind = 1
     ·have HK:=Lib.hid (kind_1 hkd)
      have e1:(r.kind == 1) = true:=by rw [beq_iff_eq];exact hkd
      have e2:(r.kind == 2) = false:=by rw [beq_eq_false_iff_ne];omega
      have e3:(r.kind == 3) = false:=by rw [beq_eq_false_iff_ne];omega
      have e4:(r.kind == 4) = false:=by rw [beq_eq_false_iff_ne];omega
      have e5:(r.kind == 5) = false:=by rw [beq_eq_false_iff_ne];omega
      have e6:(r.kind == 6) = false:=by rw [beq_eq_false_iff_ne];omega
      have e7:(r.kind == 7) = false:=by rw [beq_eq_false_iff_ne];omega
      clear hkd hk
      cases tb with
      | false =>
       have E:=Lib.hid (ckN_bad (fun h=>absurd (HTx.out.2 (HK.out.1 h).1) (by simp)))
       go_wp2_with fail
       go_ret
       exact ⟨by rw [E.out];rfl,HB1.out⟩
      | true =>
       have htx:=HTx.out.1 rfl
       by_cases g1:r.txn = 0
       ·have q1:(r.txn == 0) = true:=by simp [g1]
        have q1':(r.txn != 0) = false:=by simp [g1]
        have E:=Lib.hid (ckN_bad (fun h=>(HK.out.1 h).2.1 g1))
        clear g1
        go_wp2_with fail
        go_ret
        exact ⟨by rw [E.out];rfl,HB1.out⟩
       ·have q1:(r.txn == 0) = false:=by simp [g1]
        have q1':(r.txn != 0) = true:=by simp [g1]
        by_cases g2:r.keys.length ≤ 16
        ·have q2:(r.keys.length:Int) ≤ 16:=by omega
         have HR:=Lib.hid (HRi.out _ HE.out.ks)
         by_cases g3:Rises r.keys
         ·rw [risesB_true g3] at HR
          by_cases g4:WritesOk r.ws
          ·rw [writesB_true g4] at HWr
           have E:=Lib.hid (ckN_ok HHead.out (HK.out.2 ⟨htx,g1,g2,g3,g4⟩))
           clear g1 g2 g3 g4 htx
           go_wp2_with fail
           refine HR.out.mono ?_
           rintro e w2 ⟨rfl,hb2⟩
           have HE2:=Lib.hid (HE.out.step hb2)
           have HW2:=Lib.hid (HWr.out _ HE2.out.ws)
           have k8':=HE2.out.cel.cell (i:=8) rfl
           clear hb2
           go_wp2_with fail
           refine HW2.out.mono ?_
           rintro e w3 ⟨rfl,hb3⟩
           have HBz:=Lib.hid (HE2.out.step hb3).bel
           clear hb3 k8'
           go_wp2_with fail
           go_ret
           exact ⟨by rw [E.out];rfl,HBz.out⟩
          ·rw [writesB_false g4] at HWr
           have E:=Lib.hid (ckN_bad (fun h=>g4 (HK.out.1 h).2.2.2.2))
           clear g1 g2 g3 g4 htx
           go_wp2_with fail
           refine HR.out.mono ?_
           rintro e w2 ⟨rfl,hb2⟩
           have HE2:=Lib.hid (HE.out.step hb2)
           have HW2:=Lib.hid (HWr.out _ HE2.out.ws)
           have k8':=HE2.out.cel.cell (i:=8) rfl
           clear hb2
           go_wp2_with fail
           refine HW2.out.mono ?_
           rintro e w3 ⟨rfl,hb3⟩
           have HBz:=Lib.hid (HE2.out.step hb3).bel
           clear hb3 k8'
           go_wp2_with fail
           go_ret
           exact ⟨by rw [E.out];rfl,HBz.out⟩
         ·rw [risesB_false g3] at HR
          have E:=Lib.hid (ckN_bad (fun h=>g3 (HK.out.1 h).2.2.2.1))
          clear g1 g2 g3 htx
          go_wp2_with fail
          refine HR.out.mono ?_
          rintro e w2 ⟨rfl,hb2⟩
          have HBz:=Lib.hid (HE.out.step hb2).bel
          clear hb2
          go_wp2_with fail
          go_ret
          exact ⟨by rw [E.out];rfl,HBz.out⟩
        ·have q2:16 < (r.keys.length:Int):=by omega
         have E:=Lib.hid (ckN_bad (fun h=>g2 (HK.out.1 h).2.2.1))
         clear g1 g2 htx
         go_wp2_with fail
         go_ret
         exact ⟨by rw [E.out];rfl,HB1.out⟩
     by_cases hkd:r.kind = 2
     ·have HK:=Lib.hid (kind_2 hkd)
      have e1:(r.kind == 1) = false:=by rw [beq_eq_false_iff_ne];omega
      have e2:(r.kind == 2) = true:=by rw [beq_iff_eq];exact hkd
      have e3:(r.kind == 3) = false:=by rw [beq_eq_false_iff_ne];omega
      have e4:(r.kind == 4) = false:=by rw [beq_eq_false_iff_ne];omega
      have e5:(r.kind == 5) = false:=by rw [beq_eq_false_iff_ne];omega
      have e6:(r.kind == 6) = false:=by rw [beq_eq_false_iff_ne];omega
      have e7:(r.kind == 7) = false:=by rw [beq_eq_false_iff_ne];omega
      clear hkd hk
      cases b with
      | false =>
       have E:=Lib.hid (ckN_bad (fun h=>absurd (HBa.out.2 (HK.out.1 h).1) (by simp)))
       go_wp2_with fail
       go_ret
       exact ⟨by rw [E.out];rfl,HB1.out⟩
      | true =>
       have hba:=HBa.out.1 rfl
       by_cases g1:r.txn = 0
       ·have q1:(r.txn == 0) = true:=by simp [g1]
        have q1':(r.txn != 0) = false:=by simp [g1]
        have E:=Lib.hid (ckN_bad (fun h=>(HK.out.1 h).2 g1))
        clear g1
        go_wp2_with fail
        go_ret
        exact ⟨by rw [E.out];rfl,HB1.out⟩
       ·have q1:(r.txn == 0) = false:=by simp [g1]
        have q1':(r.txn != 0) = true:=by simp [g1]
        have E:=Lib.hid (ckN_ok HHead.out (HK.out.2 ⟨hba,g1⟩))
        clear g1
        go_wp2_with fail
        go_ret
        exact ⟨by rw [E.out];rfl,HB1.out⟩
     exfalso
     omega
end Rc
end Go.Proofs.YtmidncclndongaaGreat
