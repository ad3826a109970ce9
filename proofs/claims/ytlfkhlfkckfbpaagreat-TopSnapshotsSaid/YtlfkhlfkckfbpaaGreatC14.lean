/- Parts of the proof, joined: RlAll, RlLoad, RlOpen, RlFill, RlSettle, RlSync; their conditions stand with each. -/
import Derived.Test.YtlfkhlfkckfbpaaGreatC13

set_option maxRecDepth 20000
set_option maxHeartbeats 8000000
namespace Go.Proofs.YtlfkhlfkckfbpaaGreat
namespace Su
open Go.RowKit Bk
attribute [local go_sem ↓] Go.wp_at_zero Go.wp_at_succ
attribute [local go_sem] floatUpon pick
theorem all_own (s:ByteArray) (w:World) (hs:s.size ≤ 50000000000000) :
  Calls Tryz.prog 81 #[.string s] w fun e w'=>∃ v:Value,e = .returned (.tuple #[v,.int .i64 ((allR s).2.1:Int),.int .i64 ((allR s).2.2:Int)]) ∧ w'.ownsRow w.heap.size 9 1 v (allR s).1.length (strV (allR s).1) ∧ Below w.heap.size w w':=by
 obtain ⟨i0,hi,hz0,hz1,hz2⟩:=info_parts Tryz.infoStr
 have hB:(s.size:Int) ≤ 50000000000000:=by omega
 go_enter Tryz.func81,Tryz.ntmps81
 go_wp2_with fail
 go_loopw [2,3] (fun out i wr=>∃ (a:Nat) (O:List ByteArray),a ≤ s.size ∧ O.length * 6 ≤ a ∧ i = .int .i64 (a:Int) ∧ wr.ownsRow w.heap.size 9 1 out O.length (strV O) ∧ Upto s O a ∧ Below w.heap.size w wr) (fun _ i _=>s.size - (intOf i).toNat)
 case atStart=>exact ⟨0,[],by omega,by simp,rfl,⟨rfl,.inl ⟨rfl,rfl⟩⟩,Upto.start s,Below.refl _ _⟩
 case round =>
  obtain ⟨a,O,ha,hO,rfl,hown,hup,hbel⟩:=hrel
  by_cases hlt:a < s.size
  ·have pa:(a:Int) < (s.size:Int):=by omega
   have HN:=Lib.hid (next_any s (a:Int) wr (by omega) ⟨by omega,by omega⟩)
   have hv:=nextV_at (s:=s) (a:=a) (by omega)
   cases hr:restR (s.data.toList.drop a) with
   | error e =>
    have he:=restR_err hr
    have hall:=hup.err hlt hr
    rw [hr] at hv
    have hv2:nextV s (a:Int) = .tuple #[.string ⟨#[]⟩,.int .i64 0,.int .i64 (e:Int)]:=hv
    have hne:(((e:Nat):Int) != 0) = true:=by simp;omega
    rw [hv2] at HN
    have HA:=Lib.hid hall
    have HU:=Lib.hid hown
    have HBl:=Lib.hid hbel
    clear hr hup hv hv2 hall hown hbel he
    go_wp2_with fail
    refine HN.out.mono ?_
    rintro e w1 ⟨rfl,hb⟩
    have HU1:=Lib.hid (st_keep HU.out hb)
    have HB1:=Lib.hid (HBl.out.trans (hb.mono HBl.out.size))
    clear hb HU HBl HN
    go_wp2_with fail
    go_ret3
    exact ⟨_,by rw [HA.out];rfl,by rw [HA.out];exact HU1.out,HB1.out⟩
   | ok t =>
    obtain ⟨hk1,hk2,-⟩:=restR_ok hr
    have hup2:=hup.more hlt hr
    have hle:a + t.length + 6 ≤ s.size:=by rw [List.length_drop,list_size] at hk2;omega
    rw [hr] at hv
    have hv2:nextV s (a:Int) = .tuple #[.string ⟨t.toArray⟩,.int .i64 ((a + t.length + 6:Nat):Int),.int .i64 0]:=hv
    rw [hv2] at HN
    have HP:=Lib.hid hup2
    have HU:=Lib.hid hown
    have HBl:=Lib.hid hbel
    have hsn:=strV_snoc O ⟨t.toArray⟩
    generalize hT:(⟨t.toArray⟩:ByteArray) = T at HN HP hsn
    have HSn:=Lib.hid hsn
    generalize hnx:a + t.length + 6 = nx at HN HP hle
    have hnx2:a + 6 ≤ nx:=by omega
    have hOl:(strV O).length = O.length:=strV_len O
    clear hr hup hv hv2 hup2 hown hbel hk1 hk2 hT hnx hsn
    go_wp2_with fail
    refine HN.out.mono ?_
    rintro e w1 ⟨rfl,hb⟩
    have HU1:=Lib.hid (st_keep HU.out hb)
    have HB1:=Lib.hid (HBl.out.trans (hb.mono HBl.out.size))
    clear hb HU HBl HN
    go_wp2_with (at_builtin;refine wpList_append_own _ rfl _ _ 57 rfl w.heap.size 9 i0 (.string ⟨#[]⟩) 1 16 Tryz.underlying57 hi hz0 hz1 hz2 rfl (by decide) _ _ _ rfl (HU1.out.alloc _) ⟨w1.heap.size,0,none⟩ 1 1 [.string T] rfl rfl ?c1 ?c2 ?c3 ?c4 ?c5 ?_)
    case c1=>exact cell_one_new _ _ _
    case c2=>intro q hq;simp at hq;subst hq;rfl
    case c3=>unfold maxLen;omega
    case c4=>omega
    case c5=>have:=HB1.out.size;simp;omega
    intro v' w5 hown' hgrow _
    have HB5:=Lib.hid (below_append HU1.out HB1.out (Nat.le_refl _) hgrow)
    rw [← HSn.out] at hown'
    have HO5:=Lib.hid hown'
    clear hown' hgrow HU1 HB1
    go_wp2_with fail
    go_roundw
    case rel=>exact ⟨nx,O ++ [T],hle,by rw [List.length_append,List.length_singleton];omega,rfl,by rw [List.length_append,List.length_singleton];exact HO5.out,HP.out,HB5.out⟩
    case measure=>simp [intOf];omega
  ·obtain rfl:a = s.size:=by omega
   have HA:=Lib.hid (hup.done (Nat.le_refl _))
   have HU:=Lib.hid hown
   have HBl:=Lib.hid hbel
   clear hup hown hbel
   go_wp2_with fail
   go_ret3
   exact ⟨_,by rw [HA.out];rfl,by rw [HA.out];exact HU.out,HBl.out⟩
end Su
end Go.Proofs.YtlfkhlfkckfbpaaGreat
namespace Go.Proofs.YtlfkhlfkckfbpaaGreat
namespace Rd
open Go.RowKit Sc Bk
attribute [local go_sem ↓] Go.wp_at_zero Go.wp_at_succ
attribute [local go_sem] floatUpon pick
section
variable {Rep:RepT} {w:World} {F:Nat → Prop} {p g c a n m mn:Nat} {A B:Value} {l:Lg} {D:Dev}
def LoadPost (w:World) (p g c a n:Nat) (B:Value) (r:List ByteArray × Nat × Nat) (e:Ending) (w':World):Prop :=
 (r.2.2 = 0 ∧ e = .returned (.int .i64 0) ∧ ∃ v:Value,LC w' p g c a n v r.1.length B ∧ w'.ownsRow 0 9 1 v r.1.length (strV r.1) ∧ (∀ j,v.ownBlock = some j → w.heap.size ≤ j) ∧ Fr (fun k=>k = p) (fun k=>k = p) w w') ∨
 (r.2.2 ≠ 0 ∧ e = .returned (.int .i64 101) ∧ Below w.heap.size w w')
theorem own_ge {e:TypeId} {H:Nat} {v:Value} {k:Nat} {xs:List Value} {W:World} (h:W.ownsRow H e 1 v k xs):∀ j,v.ownBlock = some j → H ≤ j:=fun j hj=>by
 rcases h with ⟨hl,⟨hn,_⟩ | ⟨i,cap,cur,hv,hb,hg,rest⟩⟩
 ·rw [hn] at hj;cases hj
 ·rw [hv] at hj;cases hj;exact hb
theorem own_form2 {e:TypeId} {H:Nat} {v:Value} {k:Nat} {xs:List Value} {W:World} (h:W.ownsRow H e 1 v k xs):∃ (X:Option Addr) (c:Nat),v = .slice X k c ∧ k ≤ c:=by
 rcases h with ⟨hl,⟨hn,h0⟩ | ⟨i,cap,cur,hv,hb,hg,h1,rest⟩⟩
 ·exact ⟨none,0,by rw [hn,h0],by omega⟩
 ·exact ⟨_,cap,hv,h1⟩
theorem load_any (H:DevQ Rep) (hr:Rep w F g D) (hc:LC w p g c a n A mn B) (h4:4 ≤ D.on.length) (ha:a ≤ 1) (hn:n ≤ areaN D) (hu:n ≠ 0 → D.down = false) :
  Calls Tryz.prog 50 #[.pointer (some ⟨p,0,none⟩)] w (LoadPost w p g c a n B (Su.allR ⟨(storedL D a n).toArray⟩)):=by
 have HBy:=Lib.hid (bytes_any H hr hc h4 ha hn hu)
 have hok:=H.ok hr
 have hsz:(⟨(storedL D a n).toArray⟩:ByteArray).size ≤ 65536:=by
  have h1:(storedL D a n).length ≤ n:=by unfold storedL;rw [List.length_take];omega
  rw [text_size]
  have:areaN D ≤ 65536:=by have:=hok.max;unfold areaN;omega
  omega
 have HC0:=Lib.hid hc
 have HR0:=Lib.hid hr
 have hL:=Su.allR_len ⟨(storedL D a n).toArray⟩
 generalize (⟨(storedL D a n).toArray⟩:ByteArray) = s at *
 have HA:=Lib.hid (fun W=>Su.all_own s W (by omega))
 generalize hP:LoadPost w p g c a n B (Su.allR s) = Pst
 have HP:=Lib.hid hP
 clear hP hr hc hok
 generalize hq:Su.allR s = q at *
 obtain ⟨ts,at0,z⟩:=q
 simp only at HA hL
 clear hq
 go_enter Tryz.func50,Tryz.ntmps50
 go_wp2_with fail
 refine HBy.out.mono ?_
 rintro e w2 ⟨rfl,hb⟩
 have HB2:=Lib.hid hb
 clear hb HBy
 go_wp2_with fail
 refine (HA.out _).mono ?_
 rintro e w3 ⟨v,rfl,hown,hb⟩
 have HB3:=Lib.hid (HB2.out.trans (hb.mono HB2.out.size))
 obtain ⟨X,cX,rfl,hlc⟩:=own_form2 hown
 have HV:=Lib.hid (own_ge hown)
 have HO:=Lib.hid (owns_lower hown (Nat.zero_le _))
 have HS2:=Lib.hid HB2.out.size
 clear hb hown HA hlc
 by_cases hz:z = 0
 ·subst hz
  have HC3:=Lib.hid (Cel.below HC0.out HB3.out)
  have zq:=fun i=>HC3.out.free (i:=i)
  have z4:=HC3.out.cell (i:=4) rfl
  have z5:=HC3.out.cell (i:=5) rfl
  go_wp2_with fail
  rw [← HP.out]
  have hfr:∀ v0 v1,Fr (fun k=>k = p) (fun k=>k = p) w ((w3.setCell ⟨p,4,none⟩ v0).setCell ⟨p,5,none⟩ v1):=fun v0 v1=>((fr_refl_below (G:=fun k=>k = p) HB3.out).set (p:=⟨p,4,none⟩) rfl v0).set (p:=⟨p,5,none⟩) rfl v1
  have hdA:=own_far HO.out HC3.out (by decide)
  refine .inl ⟨rfl,rfl,_,(HC3.out.set (i:=4) (v:=.slice X ts.length cX)).set (i:=5) (v:=.int .i64 (ts.length:Int)),own_kept HO.out fun j hj=>?_,fun j hj=>Nat.le_trans HS2.out (HV.out j hj),hfr _ _⟩
  have hne:j ≠ p:=fun e=>hdA (by rw [← e];exact hj)
  exact (Below.heap_setCell _ ⟨p,5,none⟩ _ j hne).trans (Below.heap_setCell _ ⟨p,4,none⟩ _ j hne)
 ·have hne:((z:Int) != 0) = true:=by simpa using hz
  go_wp2_with fail
  rw [← HP.out]
  exact .inr ⟨hz,rfl,HB3.out⟩
end
section
variable {Rep:RepT} {w:World} {F:Nat → Prop} {p g c a n m mn:Nat} {A B:Value} {l:Lg} {D:Dev}
def OpnPost (Rep:RepT) (w:World) (F:Nat → Prop) (g:Nat) (r:Dev × Option Lg × Int) (e:Ending) (w':World):Prop :=
 ∃ F',Rep w' F' g r.1 ∧
  match r.2.1 with
  | none=>e = .returned (.tuple #[.pointer none,.int .i64 r.2.2]) ∧ Fr F F' w w'
  | some l=>∃ p L,e = .returned (.tuple #[.pointer (some ⟨p,0,none⟩),.int .i64 r.2.2]) ∧ LRep w' L p g r.1.on.length l ∧ (∀ k,L k → ¬ F' k) ∧ Fr F (fun k=>F' k ∨ L k) w w'
theorem putP_len (D:Dev) (c a n:Nat):(putP D c a n).1.on.length = D.on.length:=by
 unfold putP andD
 split
 ·rw [flD_len,wrD_on]
 ·rw [wrD_on]
theorem store_none (D:Dev) (a:Nat):storedL D a 0 = []:=by unfold storedL;rfl
theorem stored_len2 {D:Dev} (hok:DevOk D) (h4:4 ≤ D.on.length) {a n:Nat} (ha:a ≤ 1) (hn:n ≤ areaN D):(storedL D a n).length = n:=by
 have h1:(n + 63) / 64 ≤ areaN D / 64:=by unfold areaN at *;omega
 unfold storedL
 rw [List.length_take,catS_len hok h4 ha _ h1]
 omega
theorem fr_open {F G:Nat → Prop} {w W1 W:World} (h:Below w.heap.size w W1) (hf:Fr (fun k=>F k ∨ k = w.heap.size) G W1 W):Fr F G w W :=
 ⟨hf.os.trans h.os,hf.tape.trans h.tape,hf.output.trans h.output,Nat.le_trans h.size hf.size,
  fun i hi hn=>(hf.block i (Nat.lt_of_lt_of_le hi h.size) (fun hq=>hq.elim hn (fun e=>by omega))).trans (h.block i hi),
  fun k hk=>(hf.foot k hk).elim (fun hq=>hq.elim .inl (fun e=>.inr (by omega))) (fun hs=>.inr (Nat.le_trans h.size hs))⟩
theorem fr_less {F G G':Nat → Prop} {w W:World} (h:Fr F G w W) (hs:∀ k,G' k → G k):Fr F G' w W:=⟨h.os,h.tape,h.output,h.size,h.block,fun k hk=>h.foot k (hs k hk)⟩
theorem open_start {D:Dev} (h4:4 ≤ D.on.length):openP D =
  if (startP D).1.2 = 0 then
   (if (Su.allR ⟨(storedL (startP D).1.1 (startP D).2.2.1 (startP D).2.2.2).toArray⟩).2.2 = 0 then
    ((startP D).1.1,some ⟨(startP D).2.1,(startP D).2.2.1,storedL (startP D).1.1 (startP D).2.2.1 (startP D).2.2.2,(Su.allR ⟨(storedL (startP D).1.1 (startP D).2.2.1 (startP D).2.2.2).toArray⟩).1,(Su.allR ⟨(storedL (startP D).1.1 (startP D).2.2.1 (startP D).2.2.2).toArray⟩).1.length⟩,0)
   else ((startP D).1.1,none,101))
  else ((startP D).1.1,none,(startP D).1.2):=by
 unfold openP startP
 rw [if_neg (by omega)]
 by_cases hu:D.down = true
 ·rw [if_pos hu,if_pos hu,if_neg (show ¬ (90:Int) = 0 by decide)]
 ·rw [if_neg hu,if_neg hu,hds_nw]
  by_cases hz:(nwP D).1 = 0
  ·rw [if_pos hz,if_pos hz]
   have e:andD (wrD D 1 (headB 1 0 0)) flD = putP D 1 0 0:=rfl
   simp only [e,store_none]
   by_cases h0:(putP D 1 0 0).2 = 0
   ·rw [if_pos h0,if_pos h0]
    have ea:Su.allR ⟨([]:List UInt8).toArray⟩ = ([],0,0):=by decide
    rw [ea]
    rfl
   ·rw [if_neg h0,if_neg h0]
  ·rw [if_neg hz,if_neg hz]
   rfl
theorem open_any (HRt:RepTxt) (HB:DevBase Rep) (H:DevQ Rep) (hr:Rep w F g D) :
  Calls Tryz.prog 22 #[.pointer (some ⟨g,0,none⟩)] w (OpnPost Rep w F g (openP D)):=by
 have HSz:=Lib.hid (H.size w hr)
 have hmx:=(H.ok hr).max
 by_cases h4:D.on.length < 4
 ·have hP:openP D = (D,none,4):=by unfold openP;rw [if_pos h4]
  rw [hP]
  have HR0:=Lib.hid hr
  have p4:(D.on.length:Int) < 4:=by omega
  generalize D.on.length = N at *
  clear h4 hP hr
  generalize hPst:OpnPost Rep w F g (D,none,4) = Pst
  have HPst:=Lib.hid hPst
  clear hPst
  go_enter Tryz.func22,Tryz.ntmps22
  go_wp2_with fail
  refine HSz.out.mono ?_
  rintro e w2 ⟨rfl,rfl⟩
  go_wp2_with fail
  rw [← HPst.out]
  exact ⟨F,HR0.out,rfl,Fr.refl _ _⟩
 ·have p4:¬ (D.on.length:Int) < 4:=by omega
  have hP:=open_start (D:=D) (by omega)
  have hal:Below w.heap.size w (w.alloc (.cells #[.pointer (some ⟨g,0,none⟩),.int .i64 0,.int .i64 0,.int .i64 0,.slice none 0 0,.int .i64 0,.slice none 0 0] 117)):=(Below.refl _ w).alloc (Nat.le_refl _) _
  have hcb:LC (w.alloc (.cells #[.pointer (some ⟨g,0,none⟩),.int .i64 0,.int .i64 0,.int .i64 0,.slice none 0 0,.int .i64 0,.slice none 0 0] 117)) w.heap.size g 0 0 0 (.slice none 0 0) 0 (.slice none 0 0):=(blk1 w _).2
  have hFl:=H.lt hr
  have hpF:¬ F w.heap.size:=fun hf=>by have:=hFl _ hf;omega
  have hst:=start_any HRt HB H (H.step hr hal) hcb hpF (by omega)
  have hsz1:w.heap.size < (w.alloc (.cells #[.pointer (some ⟨g,0,none⟩),.int .i64 0,.int .i64 0,.int .i64 0,.slice none 0 0,.int .i64 0,.slice none 0 0] 117)).heap.size:=by simp
  generalize hst2:startP D = st at hst hP
  have hlen:st.1.2 = 0 → st.1.1.on.length = D.on.length ∧ st.2.2.1 ≤ 1 ∧ st.2.2.2 ≤ areaN st.1.1 ∧ (st.2.2.2 ≠ 0 → st.1.1.down = false):=fun h0=>by
   rw [← hst2] at h0 ⊢
   unfold startP at h0 ⊢
   by_cases hu:D.down = true
   ·rw [if_pos hu] at h0
    exact absurd h0 (show ¬ (90:Int) = 0 by decide)
   ·have hu2:D.down = false:=by simpa using hu
    rw [if_neg hu] at h0 ⊢
    by_cases hz:(nwP D).1 = 0
    ·rw [if_pos hz] at h0 ⊢
     exact ⟨putP_len D 1 0 0,Nat.zero_le _,Nat.zero_le _,fun h=>absurd rfl h⟩
    ·rw [if_neg hz]
     have hd:=hds_nw D
     rw [if_neg hz] at hd
     have:=hds_ok hd
     exact ⟨rfl,this.2.2.1,this.2.2.2,fun _=>hu2⟩
  obtain ⟨⟨D1,e1⟩,c1,a1,n1⟩:=st
  simp only at hst hP hlen
  generalize hPst:OpnPost Rep w F g (openP D) = Pst
  have HPst:=Lib.hid hPst
  have HP:=Lib.hid hP
  have HLen:=Lib.hid hlen
  clear hPst hP hlen hst2 hr
  go_enter Tryz.func22,Tryz.ntmps22
  go_wp2_with fail
  refine HSz.out.mono ?_
  rintro e w2 ⟨rfl,rfl⟩
  go_upto_region 6 with fail
  generalize w2.alloc (.cells #[.pointer (some ⟨g,0,none⟩),.int .i64 0,.int .i64 0,.int .i64 0,.slice none 0 0,.int .i64 0,.slice none 0 0] 117) = W1 at *
  generalize hp:w2.heap.size = p at *
  have HS:=Lib.hid hst
  have HB1:=Lib.hid hal
  have HFl:=Lib.hid hFl
  clear hst hal hcb hFl
  go_wp2_with fail
  refine HS.out.mono ?_
  intro e w3 hpost
  obtain ⟨rfl,F1,h1,h2,h3,h5,h6⟩:=hpost
  have HE:=Lib.hid (And.intro h1 (And.intro h2 (And.intro h3 h6)))
  clear h1 h2 h3 h5 h6 HS
  by_cases h0:e1 = 0
  rotate_left
  ·have hne:(e1 != 0) = true:=by simpa using h0
   go_wp2_with fail
   rw [← HPst.out,HP.out,if_neg h0]
   obtain ⟨q1,q2,q3,q4⟩:=HE.out
   rw [← hp] at HB1 q4
   exact ⟨F1,q1,rfl,fr_less (fr_open HB1.out q4) (fun k hk=>.inl hk)⟩
  subst h0
  have hlo:=HLen.out rfl
  have hEo:=HE.out
  have hLd:=load_any (D:=D1) H hEo.1 (hEo.2.2.1 rfl) (by omega) hlo.2.1 hlo.2.2.1 hlo.2.2.2
  have HSt:=Lib.hid (stored_len2 (D:=D1) (H.ok hEo.1) (by omega) hlo.2.1 hlo.2.2.1)
  have HLd:=Lib.hid hLd
  clear hLd hlo hEo HLen
  go_wp2_with fail
  refine HLd.out.mono ?_
  intro e w4 hpost
  rcases hpost with ⟨hz,rfl,v,h1,h2,h3,h5⟩ | ⟨hz,rfl,h1⟩
  ·have HQ:=Lib.hid (And.intro h1 (And.intro h2 (And.intro h3 h5)))
   clear h1 h2 h3 h5
   go_wp2_with fail
   rw [← HPst.out,HP.out,if_pos (by trivial),if_pos hz]
   obtain ⟨q1,q2,q3,q4⟩:=HE.out
   obtain ⟨h1,h2,h3,h5⟩:=HQ.out
   have hlt1:=H.lt q1
   have hr4:Rep w4 F1 g D1:=H.kept q1 fun k hk=>h5.block k (hlt1 k hk) (fun e=>q2 (e ▸ hk))
   rw [← hp] at HB1 q4
   have hfo:=fr_open HB1.out q4
   have hvs:∀ k,LFt p v (.slice none 0 0) k → w2.heap.size ≤ k:=fun k hk=>by
    rcases hk with e | e | e
    ·omega
    ·have:=h3 k e;have:=hfo.size;omega
    ·cases e
   refine ⟨F1,hr4,p,LFt p v (.slice none 0 0),rfl,⟨v,.slice none 0 0,rfl,?_,h2,?_⟩,fun k hk hf=>?_,?_⟩
   ·show LC w4 p g c1 a1 (storedL D1 a1 n1).length v _ _
    rw [HSt.out];exact h1
   ·show w4.ownsRow 0 5 1 (.slice none 0 0) (waitL ⟨c1,a1,storedL D1 a1 n1,(Su.allR ⟨(storedL D1 a1 n1).toArray⟩).1,(Su.allR ⟨(storedL D1 a1 n1).toArray⟩).1.length⟩).length (Lib.byteCells (waitL ⟨c1,a1,storedL D1 a1 n1,(Su.allR ⟨(storedL D1 a1 n1).toArray⟩).1,(Su.allR ⟨(storedL D1 a1 n1).toArray⟩).1.length⟩))
    unfold waitL
    rw [frs_same]
    exact World.ownsRow_nil _ _ _ _
   ·rcases hk with rfl | e | e
    ·exact q2 hf
    ·have:=h3 k e;have:=hlt1 k hf;omega
    ·cases e
   ·refine ⟨h5.os.trans hfo.os,h5.tape.trans hfo.tape,h5.output.trans hfo.output,Nat.le_trans hfo.size h5.size,fun i hi hn=>(h5.block i (Nat.lt_of_lt_of_le hi hfo.size) (fun e=>by omega)).trans (hfo.block i hi hn),fun k hk=>?_⟩
    rcases hk with hk | hk
    ·exact hfo.foot k (.inl hk)
    ·exact .inr (hvs k hk)
  ·have HQ:=Lib.hid h1
   clear h1
   go_wp2_with fail
   rw [← HPst.out,HP.out,if_pos (by trivial),if_neg hz]
   obtain ⟨q1,q2,q3,q4⟩:=HE.out
   rw [← hp] at HB1 q4
   exact ⟨F1,H.step q1 HQ.out,rfl,(fr_less (fr_open HB1.out q4) (fun k hk=>.inl hk)).below HQ.out⟩
end
theorem list_sum3 (X Y:List UInt8) (h:X.length + Y.length ≤ 1000000000) (W:World):(Op.stringOp .add ⟨X.toArray⟩ ⟨Y.toArray⟩).run Tryz.prog W = .ok (.string ⟨(X ++ Y).toArray⟩) W:=by
 have h1:(⟨X.toArray⟩:ByteArray).size = X.length:=text_size X
 have h2:(⟨Y.toArray⟩:ByteArray).size = Y.length:=text_size Y
 rw [run_string_add_sum W _ _ (by omega),ByteArray.mk_append_mk]
theorem padded_any (HRt:RepTxt) (L:List UInt8) (w:World) (h:L.length ≤ 64) :
  Calls Tryz.prog 193 #[.string ⟨L.toArray⟩] w fun e w'=>e = .returned (.string ⟨(L ++ List.replicate (64 - L.length) 0).toArray⟩) ∧ Below w.heap.size w w':=by
 have hR:=fun W=>HRt ⟨#[0]⟩ (64 - L.length) W (by omega) (by decide)
 have e1:(List.replicate (64 - L.length) (⟨#[0]⟩:ByteArray).data.toList).flatten = List.replicate (64 - L.length) (0:UInt8):=by
  show (List.replicate (64 - L.length) [(0:UInt8)]).flatten = _
  generalize 64 - L.length = k
  induction k with
  | zero=>rfl
  | succ k ih=>rw [List.replicate_succ,List.flatten_cons,ih,List.replicate_succ];rfl
 rw [e1] at hR
 have hs:=fun W=>list_sum3 L (List.replicate (64 - L.length) 0) (by rw [List.length_replicate];omega) W
 have hsz:(⟨L.toArray⟩:ByteArray).size = L.length:=text_size L
 have e2:((64 - L.length:Nat):Int) = 64 - (L.length:Int):=by omega
 rw [e2] at hR
 have HR:=Lib.hid hR
 have hb:(L.length:Int) ≤ 64:=by omega
 clear hR e1 e2 HRt
 generalize (⟨(L ++ List.replicate (64 - L.length) 0).toArray⟩:ByteArray) = X at hs ⊢
 generalize (⟨(List.replicate (64 - L.length) (0:UInt8)).toArray⟩:ByteArray) = Y at hs HR
 generalize (⟨L.toArray⟩:ByteArray) = S at hs hsz ⊢
 generalize L.length = m at *
 subst hsz
 go_enter Tryz.func193,Tryz.ntmps193
 go_wp2_with fail
 refine (HR.out _).mono ?_
 rintro e w2 ⟨rfl,hb2⟩
 have HB:=Lib.hid hb2
 clear hb2
 go_wp2_with fail
 go_ret
 exact ⟨rfl,HB.out⟩
def fillP (D:Dev) (a:Nat) (old more:List UInt8):Dev × Int:=andD (wrs (areaAt D a) (old ++ more) (old.length / 64) (((old ++ more).length + 63) / 64 - old.length / 64) D) flD
theorem settle_fill {D:Dev} {c a:Nat} {old more:List UInt8} (h:more ≠ []):settleP D c a old more = andD (fillP D a old more) fun D2=>putP D2 (c + 1) a (old ++ more).length:=by
 unfold settleP fillP manyW
 rw [if_neg h]
 generalize wrs (areaAt D a) (old ++ more) (old.length / 64) (((old ++ more).length + 63) / 64 - old.length / 64) D = r
 by_cases h0:r.2 = 0
 ·rw [and_go h0,and_go h0]
  show andD (if more = [] then _ else _) _ = _
  rw [if_neg h];rfl
 ·rw [and_stop h0,and_stop h0,and_stop h0]
theorem settle_none {D:Dev} {c a:Nat} {old:List UInt8}:settleP D c a old [] = putP D (c + 1) a old.length:=by
 unfold settleP manyW
 rw [if_pos rfl,and_go rfl]
 show andD (if ([]:List UInt8) = [] then _ else _) _ = _
 rw [if_pos rfl,and_go rfl,List.append_nil]
 rfl
theorem limB_drop {all:List UInt8} {i:Nat} (h:64 * i < all.length):(all.drop (64 * i)).drop (limB all i) = all.drop (64 * (i + 1)):=by
 have h1:=lim_say all h
 rw [List.drop_drop]
 rcases h1.2.2 with e | e
 ·rw [e];congr 1
 ·rw [List.drop_of_length_le (by omega),List.drop_of_length_le (by omega)]
theorem blkB_pad (all:List UInt8) (i:Nat) (h:64 * i < all.length):(all.drop (64 * i)).take (limB all i) ++ List.replicate (64 - ((all.drop (64 * i)).take (limB all i)).length) 0 = (blkB all i).data.toList:=by
 have h1:=lim_say all h
 rw [List.length_take,List.length_drop,Nat.min_eq_left (by omega)]
 unfold blkB rowB
 simp
section
variable {Rep:RepT} {w:World} {F:Nat → Prop} {p g c a n m mn:Nat} {A B:Value} {l:Lg} {D:Dev}
def FillPost (Rep:RepT) (w:World) (F:Nat → Prop) (p g c a n:Nat) (A:Value) (mn:Nat) (B:Value) (r:Dev × Int) (e:Ending) (w':World):Prop :=
 e = .returned (.int .i64 r.2) ∧ ∃ F',Rep w' F' g r.1 ∧ ¬ F' p ∧ LC w' p g c a n A mn B ∧ Fr F F' w w'
theorem fill_any (HRt:RepTxt) (HB:DevBase Rep) (H:DevQ Rep) (hr:Rep w F g D) (hc:LC w p g c a n A mn B) (hpF:¬ F p) (h4:4 ≤ D.on.length) (hu:D.down = false) (b:Nat) (old more:List UInt8) (hb:b ≤ 1) (hm:more ≠ []) (hz:(old ++ more).length ≤ areaN D)
  (hold:(flushF D (areaAt D b + old.length / 64)).data.toList.take (old.length % 64) = old.drop (64 * (old.length / 64))) :
  Calls Tryz.prog 161 #[.pointer (some ⟨p,0,none⟩),.int .i64 (b:Int),.int .i64 (old.length:Int),.string ⟨more.toArray⟩] w (FillPost Rep w F p g c a n A mn B (fillP D b old more)):=by
 have hok:=H.ok hr
 have hab:areaN D ≤ 65536:=by have:=hok.max;unfold areaN;omega
 have hmp:0 < more.length:=List.length_pos_iff.2 hm
 have hall:(old ++ more).length = old.length + more.length:=List.length_append
 obtain ⟨f,hf⟩:∃ f,f = old.length / 64:=⟨_,rfl⟩
 obtain ⟨N,hN⟩:∃ N,N = ((old ++ more).length + 63) / 64:=⟨_,rfl⟩
 have hfm:f < areaN D / 64:=by unfold areaN at *;omega
 have hNm:N ≤ areaN D / 64:=by unfold areaN at *;omega
 have hFi:=first_any H hr hc h4 b hb
 have hrd:=H.read ((areaAt D b + f:Nat):Int) w hr ⟨by omega,by have:=area_fit h4 hb hfm;have:=hok.max;omega⟩
 rw [rd_up hu (area_fit h4 hb hfm)] at hrd
 have ht64:(flushF D (areaAt D b + f)).size = 64:=flush64 hok (area_fit h4 hb hfm)
 have hP:fillP D b old more = andD (wrs (areaAt D b) (old ++ more) f (N - f) D) flD:=by unfold fillP;rw [← hf,← hN]
 rw [← hf] at hold
 have hbs:areaAt D b ≤ 1026:=by
  unfold areaAt
  have:areaN D / 64 ≤ 1024:=by omega
  have hb2:b = 0 ∨ b = 1:=by omega
  rcases hb2 with rfl | rfl <;> omega
 have hmm:areaN D / 64 ≤ 1024:=by omega
 generalize areaN D / 64 = mm at hfm hNm hmm
 generalize areaN D = ab at *
 generalize areaAt D b = base at *
 generalize flushF D (base + f) = t at *
 have hdrop:t.data.toList.take (old.length % 64) ++ more = (old ++ more).drop (64 * f):=by
  rw [hold,List.drop_append_of_le_length (by omega)]
 have hto:=fun W=>str_to t (old.length % 64) (by omega) ((old.length:Int).tmod 64) (by rw [Int.tmod_eq_emod_of_nonneg (by omega)];omega) W
 have hsum:=fun W=>list_sum3 (t.data.toList.take (old.length % 64)) more (by rw [List.length_take];omega) W
 rw [hdrop] at hsum
 have hq1:(old.length:Int).tdiv 64 = (f:Int):=by rw [Int.tdiv_eq_ediv_of_nonneg (by omega)];omega
 have hq2:(old.length:Int) / 64 = (f:Int):=by omega
 have hm1:(old.length:Int).tmod 64 = ((old.length % 64:Nat):Int):=by rw [Int.tmod_eq_emod_of_nonneg (by omega)];omega
 rw [hm1] at hto
 have hm2:(old.length:Int) % 64 = ((old.length % 64:Nat):Int):=by omega
 have hlb:(old.length:Int) ≤ 65536:=by omega
 have hml:(old.length % 64:Nat) < 64:=by omega
 have HAllL:=Lib.hid (show 64 * f < (old ++ more).length from by omega)
 have HNn:=Lib.hid (show ∀ i,64 * i < (old ++ more).length → i < N from fun i h=>by omega)
 have HNe:=Lib.hid (show ∀ i,¬ 64 * i < (old ++ more).length → 64 * i < (old ++ more).length + 64 → N = i from fun i h h2=>by omega)
 have hal6:(old ++ more).length ≤ 65536:=by omega
 have HPad:=Lib.hid (fun L V h=>padded_any HRt L V h)
 have HR0:=Lib.hid hr
 have HC0:=Lib.hid hc
 have HFi:=Lib.hid hFi
 have HRd:=Lib.hid hrd
 have HP:=Lib.hid hP
 have hfN:f < N:=HNn.out f HAllL.out
 generalize old.length % 64 = mo at *
 generalize (⟨more.toArray⟩:ByteArray) = SM at *
 generalize (⟨(t.data.toList.take mo).toArray⟩:ByteArray) = ST at *
 generalize hPst:FillPost Rep w F p g c a n A mn B (fillP D b old more) = Pst
 have HPst:=Lib.hid hPst
 generalize hOL:old.length = ol at *
 generalize hAL:old ++ more = all at *
 clear hPst hr hc hFi hrd hP hdrop hold hN hf hall hz hmp hm hOL hAL hok ht64 hm1 HRt
 have k0:=HC0.out.cell (i:=0) rfl
 have HLen0:=Lib.hid h4
 clear h4
 go_enter Tryz.func161,Tryz.ntmps161
 go_wp2_with fail
 refine HFi.out.mono ?_
 rintro e w2 ⟨rfl,rfl⟩
 go_wp2_with fail
 refine HRd.out.mono ?_
 rintro e w3 ⟨rfl,hb3⟩
 have HB3:=Lib.hid hb3
 clear hb3 k0 HRd HFi
 have HR3:=Lib.hid (H.step HR0.out HB3.out)
 have HC3:=Lib.hid (Cel.below HC0.out HB3.out)
 have HF3:=Lib.hid (fr_refl_below (G:=F) HB3.out)
 clear HR0 HC0 HB3 HLen0
 go_upto_region 6 with fail
 clear hto hsum hq1 hq2 hm2 hlb hml
 go_loopw [9,12] (fun u r wr=>∃ (i:Nat) (D1:Dev) (F1:Nat → Prop),i ≤ N ∧ u = .int .i64 ((base:Int) + (i:Int)) ∧ r = .string ⟨(all.drop (64 * i)).toArray⟩ ∧ Hid (64 * i < all.length + 64) ∧ Hid (wrs base all f (N - f) D = wrs base all i (N - i) D1) ∧ Hid (Rep wr F1 g D1) ∧ Hid (¬ F1 p) ∧ Hid (LC wr p g c a n A mn B) ∧ Hid (Fr F F1 w2 wr)) (fun u _ _=>3000 - (intOf u).toNat)
 case atStart=>exact ⟨f,D,F,by omega,rfl,rfl,Lib.hid (by have:=HAllL.out;omega),Lib.hid rfl,HR3.out,hpF,HC3.out,HF3.out⟩
 case round =>
  obtain ⟨i,D1,F1,hi,rfl,rfl,hj,hwrs,hr1,hp1,hc1,hf1⟩:=hrel
  obtain ⟨R,hR⟩:∃ R:ByteArray,R = ⟨(all.drop (64 * i)).toArray⟩:=⟨_,rfl⟩
  have hRl:R.data.toList = all.drop (64 * i):=by rw [hR]
  have hRs:R.size = all.length - 64 * i:=by rw [hR,text_size,List.length_drop]
  rw [← hR]
  by_cases hlt:64 * i < all.length
  ·have hiN:=HNn.out i hlt
   have hlim:=lim_say all hlt
   have hne:R ≠ ⟨#[]⟩:=fun e=>by rw [e] at hRs;have:(⟨#[]⟩:ByteArray).size = 0:=rfl;omega
   have hq:=text_ne hne
   have hq2:¬ R.toList = []:=fun e=>by
    have e0:(⟨#[]⟩:ByteArray).toList = []:=by rw [ByteArray.toList_eq]
    rw [e,e0] at hq
    exact absurd hq (by decide)
   have hq3:R.toList.isEmpty = false:=by simpa using hq2
   have hpad:=HPad.out ((all.drop (64 * i)).take (limB all i))
   rw [blkB_pad all i hlt] at hpad
   have hbs64:=blkB_size all i
   have hsto:=fun W=>str_to R (limB all i) (by omega) (limB all i:Int) rfl W
   have hsfr:=fun W=>str_from R (limB all i) (by omega) (limB all i:Int) rfl W
   rw [hRl] at hsto hsfr
   rw [limB_drop hlt] at hsfr
   have hpadl:((all.drop (64 * i)).take (limB all i)).length ≤ 64:=by rw [List.length_take];omega
   have hmn:min (R.size:Int) 64 = (limB all i:Int):=by
    rcases hlim.2.2 with e | e <;> omega
   have HPd:=Lib.hid (fun V=>hpad V hpadl)
   have hN1:=fun h=>wrs_next (base:=base) (all:=all) (i:=i) (N:=N) (D1:=D1) hiN h
   have hS1:=fun h=>wrs_stop (base:=base) (all:=all) (i:=i) (N:=N) (D1:=D1) hiN h
   have ecast:((base + i:Nat):Int) = (base:Int) + (i:Int):=by omega
   rw [ecast] at hN1 hS1
   generalize (⟨((all.drop (64 * i)).take (limB all i)).toArray⟩:ByteArray) = PR at HPd hsto
   have hBB:(⟨(blkB all i).data.toList.toArray⟩:ByteArray) = blkB all i:=rfl
   rw [hBB] at HPd
   generalize blkB all i = BL at HPd hN1 hS1 hbs64
   obtain ⟨R2,hR2⟩:∃ R2:ByteArray,R2 = ⟨(all.drop (64 * (i + 1))).toArray⟩:=⟨_,rfl⟩
   rw [← hR2] at hsfr
   have HR2:=Lib.hid hR2
   have HS1:=Lib.hid hS1
   have HN1:=Lib.hid hN1
   have HLt:=Lib.hid hlt
   generalize limB all i = k at hsto hsfr hmn hlim
   have hk64:k ≤ 64:=hlim.1
   have HI0:Hid (Rep wr F1 g D1 ∧ LC wr p g c a n A mn B):=Lib.hid ⟨hr1.out,hc1.out⟩
   clear hR hRl hRs hlim hne hpad hpadl hN1 hS1 ecast hBB hR2 hlt
   go_upto_region 9 with fail
   refine wp_region_said 9 [46,47,48,49,50,51,52,53,54]
    [.is (.pointer (some ⟨p,0,none⟩)),.is (.pointer (some ⟨p,0,none⟩)),.is (.pointer (some ⟨p,0,none⟩)),.is (.pointer (some ⟨g,0,none⟩)),.is (.int .i64 ((base:Int) + (i:Int))),.is (.string R),.is (.int .i64 (k:Int)),.is (.string PR),.is (.string BL)]
    (fun W=>Rep W F1 g D1 ∧ LC W p g c a n A mn B) (by kernel_rfl) (by kernel_rfl) (by kernel_rfl) (by kernel_rfl) (by kernel_rfl) (fun W W' h hb=>⟨H.step h.1 hb,Cel.below h.2 hb⟩) HI0.out ?steps ?last
   case steps =>
    simp only [List.take_succ_cons,List.take_zero]
    refine ⟨?_,?_,?_,?_,?_,?_,?_,?_,?_,trivial⟩
    all_goals
     intro vs W ρ hρ hc hf hg hI hH hd R' hR
     have y0:=hI.2.cell (i:=0) rfl
     have HR:=Lib.hid hR
     simp [depsOf,Region.binds,sayAt,Say.holds] at hd
     clear hR hI
     go_simp
     first
      | exact HR.out _ _ (by simp [sayAt,Say.holds]) (Below.refl _ _) (by simp [sayAt,Say.isBlk])
      | (refine (HPd.out _).mono ?_;rintro e w' ⟨rfl,hb⟩;exact ⟨_,rfl,HR.out _ _ (by simp [sayAt,Say.holds]) hb (by simp [sayAt,Say.isBlk])⟩)
      | trace_state
   case last =>
    intro vs W hI hbw hg hd
    have e3:=hg 3 (by omega)
    have e4:=hg 4 (by omega)
    have e8:=hg 8 (by omega)
    simp only [sayAt,Say.holds,List.getD_cons_succ,List.getD_cons_zero] at e3 e4 e8
    simp only [List.take_succ_cons,List.take_zero,List.drop_succ_cons,List.drop_zero,putAll,Act.put,List.setIfInBounds_toArray,List.set_cons_succ,List.set_cons_zero,Nat.zero_add,Nat.reduceAdd]
    rw [e3,e4,e8]
    have hwr:=HB.write ((base:Int) + (i:Int)) BL W hI.1 ⟨by omega,by omega⟩ (by rw [hbs64];unfold reachBytes;omega)
    have HF4:=Lib.hid (hf1.out.below hbw)
    have HC4:=Lib.hid hI.2
    generalize wrD D1 ((base:Int) + (i:Int)) BL = rr at hwr HN1 HS1
    obtain ⟨D3,e3'⟩:=rr
    have HWr:=Lib.hid hwr
    clear e3 e4 e8 hg hd hbw hI hwr HPd
    go_wp2_with fail
    refine HWr.out.mono ?_
    rintro e w7 ⟨rfl,F2,hr7,hf7⟩
    have HF7:=Lib.hid (HF4.out.trans hf7)
    have HR7:=Lib.hid hr7
    have HC7:=Lib.hid (cel_fr HC4.out hf7 hp1.out)
    have HP7:=Lib.hid (foot_not hf7 hp1.out HC4.out.lt)
    clear hr7 hf7 HWr HF4 HC4
    by_cases h0:e3' = 0
    rotate_left
    ·have hnz:(e3' != 0) = true:=by simpa using h0
     go_wp2_with fail
     rw [← HPst.out,HP.out,hwrs.out,HS1.out h0,and_stop h0]
     exact ⟨rfl,F2,HR7.out,HP7.out,HC7.out,HF7.out⟩
    subst h0
    have HW2:=Lib.hid (hwrs.out.trans (HN1.out rfl))
    go_wp2_with fail
    go_roundw
    case rel=>exact ⟨i + 1,D3,F2,by omega,by go_num,by rw [HR2.out],Lib.hid (by have:=HLt.out;omega),HW2.out,HR7.out,HP7.out,HC7.out,HF7.out⟩
    case measure=>simp [intOf];omega
  ·have hNi:=HNe.out i hlt hj.out
   have hw2:=hwrs.out
   rw [← hNi,Nat.sub_self] at hw2
   have HW:=Lib.hid (show wrs base all f (N - f) D = (D1,0) from hw2)
   have hem:R = ⟨#[]⟩:=by rw [hR,List.drop_of_length_le (by omega)]
   clear hw2 hNi hRl hRs hR
   subst hem
   have q0:=text_eq ⟨#[]⟩
   have y0:=hc1.out.cell (i:=0) rfl
   have hfl:=HB.flush wr hr1.out
   have HEq:=Lib.hid (show andD (wrs base all f (N - f) D) flD = flD D1 from by rw [HW.out,and_go rfl])
   generalize flD D1 = rr at hfl HEq
   obtain ⟨D3,e3'⟩:=rr
   have HFl:=Lib.hid hfl
   clear hfl
   go_wp2_with fail
   refine HFl.out.mono ?_
   rintro e w7 ⟨rfl,F2,hr7,hf7⟩
   have HF7:=Lib.hid (hf1.out.trans hf7)
   have HR7:=Lib.hid hr7
   have HC7:=Lib.hid (cel_fr hc1.out hf7 hp1.out)
   have HP7:=Lib.hid (foot_not hf7 hp1.out hc1.out.lt)
   clear hr7 hf7 HFl y0
   go_wp2_with fail
   rw [← HPst.out,HP.out,HEq.out]
   exact ⟨rfl,F2,HR7.out,HP7.out,HC7.out,HF7.out⟩
end
section
variable {Rep:RepT} {w:World} {F:Nat → Prop} {p g c a n m mn:Nat} {A B:Value} {l:Lg} {D:Dev}
theorem settle_any (HRt:RepTxt) (HB:DevBase Rep) (H:DevQ Rep) (hr:Rep w F g D) (hc:LC w p g c a n A mn B) (hpF:¬ F p) (h4:4 ≤ D.on.length) (hu:D.down = false) (hcc:c ≤ 4611686018427388000) (b:Nat) (old more:List UInt8) (hb:b ≤ 1) (hz:(old ++ more).length ≤ areaN D)
  (hold:more ≠ [] → (flushF D (areaAt D b + old.length / 64)).data.toList.take (old.length % 64) = old.drop (64 * (old.length / 64))) :
  Calls Tryz.prog 105 #[.pointer (some ⟨p,0,none⟩),.int .i64 (b:Int),.int .i64 (old.length:Int),.string ⟨more.toArray⟩] w (PutPost Rep w F p g c a n A mn B (c + 1) b (old ++ more).length (settleP D c b old more)):=by
 have hab:areaN D ≤ 65536:=by have:=(H.ok hr).max;unfold areaN;omega
 have hall:(old ++ more).length = old.length + more.length:=List.length_append
 have ec:((c + 1:Nat):Int) = (c:Int) + 1:=by omega
 have hlb:(old.length:Int) ≤ 65536:=by omega
 by_cases hm:more = []
 ·subst hm
  have hpu:=putHead_any (c:=c + 1) (a:=b) (n:=old.length) HRt HB H hr hc hpF (by omega) hb (by omega)
  unfold hdV at hpu
  rw [ec] at hpu
  have HPu:=Lib.hid hpu
  have hS:settleP D c b old [] = putP D (c + 1) b old.length:=settle_none
  rw [hS,List.append_nil]
  have k1:=hc.cell (i:=1) rfl
  generalize putP D (c + 1) b old.length = r at HPu ⊢
  generalize hPst:PutPost Rep w F p g c a n A mn B (c + 1) b old.length r = Pst
  have HPst:=Lib.hid hPst
  clear hpu hS hPst hall hz hold ec hr hc
  have hE:(⟨([]:List UInt8).toArray⟩:ByteArray) = ⟨#[]⟩:=rfl
  rw [hE]
  clear hE
  have q0:=text_eq ⟨#[]⟩
  go_enter Tryz.func105,Tryz.ntmps105
  go_wp2_with fail
  refine HPu.out.mono ?_
  intro e w3 hpost
  obtain ⟨rfl,hrest⟩:=hpost
  have HQ:=Lib.hid hrest
  clear hrest HPu
  go_wp2_with fail
  rw [← HPst.out]
  exact ⟨rfl,HQ.out⟩
 ·have hfi:=fill_any HRt HB H hr hc hpF h4 hu b old more hb hm hz (hold hm)
  have hS:settleP D c b old more = andD (fillP D b old more) fun D2=>putP D2 (c + 1) b (old ++ more).length:=settle_fill hm
  have hmz:(⟨more.toArray⟩:ByteArray).size = more.length:=text_size more
  have hmp:0 < more.length:=List.length_pos_iff.2 hm
  have hHE:=hc.lt
  have HR0:=Lib.hid hr
  rw [hS]
  generalize fillP D b old more = rf at hfi ⊢
  obtain ⟨D2,e2⟩:=rf
  have HPu:=Lib.hid (fun W F2 (h1:Rep W F2 g D2) (h2:LC W p g c a n A mn B) (h3:¬ F2 p)=>putHead_any (c:=c + 1) (a:=b) (n:=(old ++ more).length) HRt HB H h1 h2 h3 (by omega) hb (by omega))
  unfold hdV at HPu
  rw [ec] at HPu
  have en:((old ++ more).length:Int) = (old.length:Int) + ((⟨more.toArray⟩:ByteArray).size:Int):=by rw [hmz];omega
  have hsz2:(old.length:Int) + ((⟨more.toArray⟩:ByteArray).size:Int) ≤ 65536:=by rw [hmz];omega
  rw [en] at HPu
  generalize hPst:PutPost Rep w F p g c a n A mn B (c + 1) b (old ++ more).length (andD (D2,e2) fun D2=>putP D2 (c + 1) b (old ++ more).length) = Pst
  have HPst:=Lib.hid hPst
  generalize (old ++ more).length = nn at *
  have hne:(⟨more.toArray⟩:ByteArray) ≠ ⟨#[]⟩:=fun e=>by
   rw [e] at hmz
   have:(⟨#[]⟩:ByteArray).size = 0:=rfl
   omega
  have HFi:=Lib.hid hfi
  clear hfi hS hPst hall hz hold ec hr hc hHE hmp hmz
  generalize (⟨more.toArray⟩:ByteArray) = SM at *
  have hq:=text_ne hne
  have hq2:¬ SM.toList = []:=fun e=>by
   have e0:(⟨#[]⟩:ByteArray).toList = []:=by rw [ByteArray.toList_eq]
   rw [e,e0] at hq
   exact absurd hq (by decide)
  have hq3:SM.toList.isEmpty = false:=by simpa using hq2
  clear hne hm en
  go_enter Tryz.func105,Tryz.ntmps105
  go_wp2_with fail
  refine HFi.out.mono ?_
  intro e w3 hpost
  obtain ⟨rfl,F2,h1,h2,h3,h5⟩:=hpost
  have HQ:=Lib.hid (And.intro h1 (And.intro h2 (And.intro h3 h5)))
  have k1:=h3.cell (i:=1) rfl
  clear h1 h2 h3 h5 HFi
  by_cases h0:e2 = 0
  rotate_left
  ·have hnz:(e2 != 0) = true:=by simpa using h0
   go_wp2_with fail
   rw [← HPst.out,and_stop h0]
   obtain ⟨q1,q2,q3,q4⟩:=HQ.out
   exact ⟨rfl,F2,q1,q2,fun h=>absurd h h0,fun _=>q3,fr_p q4⟩
  subst h0
  have HP2:=Lib.hid (HPu.out w3 F2 HQ.out.1 HQ.out.2.2.1 HQ.out.2.1)
  rw [and_go rfl] at HPst
  simp only at HPst HP2
  generalize putP D2 (c + 1) b nn = r at HP2 HPst
  clear HPu
  go_wp2_with fail
  refine HP2.out.mono ?_
  intro e w4 hpost
  obtain ⟨rfl,F3,h1,h2,h3,h5,h6⟩:=hpost
  have HQ2:=Lib.hid (And.intro h1 (And.intro h2 (And.intro h3 (And.intro h5 h6))))
  clear h1 h2 h3 h5 h6 HP2 k1
  go_wp2_with fail
  rw [← HPst.out]
  obtain ⟨q1,q2,q3,q4,q5⟩:=HQ2.out
  exact ⟨rfl,F3,q1,q2,q3,q4,(fr_p HQ.out.2.2.2).trans q5⟩
end
section
variable {Rep:RepT} {w:World} {F:Nat → Prop} {p g c a n m mn:Nat} {A B:Value} {l:Lg} {D:Dev}
theorem room_any (H:DevQ Rep) (hr:Rep w F g D) (hL:LL w p g A B l) (hlo:LgOk D l) :
  Calls Tryz.prog 136 #[.pointer (some ⟨p,0,none⟩)] w fun e w'=>e = .returned (.int .i64 (roomN D l:Int)) ∧ Below w.heap.size w w':=by
 have hab:areaN D ≤ 65536:=by have:=(H.ok hr).max;unfold areaN;omega
 have h4:=hlo.dev
 have hro:=hlo.room
 have HM:=Lib.hid (fun W (h:Rep W F g D ∧ LL W p g A B l)=>most_any H h.1 h.2.cel h4)
 have HE:Hid (Rep w F g D ∧ LL w p g A B l):=Lib.hid ⟨hr,hL⟩
 obtain ⟨X,cX,rfl,hlc⟩:=own_form2 hL.wt
 have hR:(roomN D l:Int) = (areaN D:Int) - (l.bs.length:Int) - ((waitL l).length:Int):=by unfold roomN;omega
 rw [hR]
 clear hR hr hL hlo
 have q1:(areaN D:Int) ≤ 65536:=by omega
 have q2:(l.bs.length:Int) + ((waitL l).length:Int) ≤ (areaN D:Int):=by omega
 have k3:=HE.out.2.cel
 clear k3 hlc
 generalize hbl:l.bs.length = bl at *
 generalize hwl:(waitL l).length = wl at *
 generalize areaN D = ab at *
 have HBl:=Lib.hid hbl
 have HWl:=Lib.hid hwl
 clear hbl hwl hab hro
 go_enter Tryz.func136,Tryz.ntmps136
 go_upto_region 1 with fail
 refine wp_region_said 15 [3,4,5,6,7,8,9,10,11,12,13,14,15,16,2]
  [.is (.pointer (some ⟨p,0,none⟩)),.is (.int .i64 (ab:Int)),.is (.pointer (some ⟨p,0,none⟩)),.is (.pointer (some ⟨p,0,none⟩)),.is (.pointer (some ⟨p,1,none⟩)),.is (.pointer (some ⟨p,3,none⟩)),.is (.int .i64 (bl:Int)),.is (.int .i64 ((ab:Int) - (bl:Int))),.is (.pointer (some ⟨p,0,none⟩)),.is (.pointer (some ⟨p,0,none⟩)),.is (.pointer (some ⟨p,6,none⟩)),.is (.slice X wl cX),.is (.int .i64 (wl:Int)),.is (.int .i64 ((ab:Int) - (bl:Int) - (wl:Int))),.is (.int .i64 ((ab:Int) - (bl:Int) - (wl:Int)))]
  (fun W=>Rep W F g D ∧ LL W p g A (.slice X wl cX) l) (by kernel_rfl) (by kernel_rfl) (by kernel_rfl) (by kernel_rfl) (by kernel_rfl) (fun W W' h hb=>⟨H.step h.1 hb,h.2.step hb⟩) HE.out ?steps ?last
 case steps =>
  simp only [List.take_succ_cons,List.take_zero]
  refine ⟨?_,?_,?_,?_,?_,?_,?_,?_,?_,?_,?_,?_,?_,?_,?_,trivial⟩
  all_goals
   intro vs W ρ hρ hc hf hg hI hH hd R' hR
   have y3:=hI.2.cel.cell (i:=3) rfl
   have y6:=hI.2.cel.cell (i:=6) rfl
   rw [HBl.out] at y3
   have v1:=i64_wrap (x:=(ab:Int) - (bl:Int)) (by omega) (by omega)
   have v2:=i64_wrap (x:=(ab:Int) - (bl:Int) - (wl:Int)) (by omega) (by omega)
   have HI:=Lib.hid hI
   have HR:=Lib.hid hR
   simp [depsOf,Region.binds,sayAt,Say.holds] at hd
   clear hR hI
   go_simp
   first
    | exact HR.out _ _ (by simp [sayAt,Say.holds]) (Below.refl _ _) (by simp [sayAt,Say.isBlk])
    | (refine (HM.out _ HI.out).mono ?_;rintro e w' ⟨rfl,rfl⟩;exact ⟨_,rfl,HR.out _ _ (by simp [sayAt,Say.holds]) (Below.refl _ _) (by simp [sayAt,Say.isBlk])⟩)
    | trace_state
 case last =>
  intro vs W hI hb hg hd
  have e14:=hg 14 (by omega)
  simp only [sayAt,Say.holds,List.getD_cons_succ,List.getD_cons_zero] at e14
  simp only [List.take_succ_cons,List.take_zero,List.drop_succ_cons,List.drop_zero,putAll,Act.put,List.setIfInBounds_toArray,List.set_cons_succ,List.set_cons_zero,Nat.zero_add,Nat.reduceAdd]
  rw [e14]
  have HB2:=Lib.hid hb
  clear e14 hg hd hb hI
  go_wp2_with fail
  go_ret
  exact ⟨rfl,HB2.out⟩
def LPost (Rep:RepT) (w:World) (F:Nat → Prop) (p g:Nat) (A B:Value) (r:Dev × Lg × Int) (e:Ending) (w':World):Prop :=
 e = .returned (.int .i64 r.2.2) ∧ ∃ F' A' B',Rep w' F' g r.1 ∧ LL w' p g A' B' r.2.1 ∧ (∀ k,LFt p A' B' k → ¬ F' k) ∧ Fr (fun k=>F k ∨ LFt p A B k) (fun k=>F' k ∨ LFt p A' B' k) w w'
theorem stored_tail {D:Dev} (hok:DevOk D) (h4:4 ≤ D.on.length) {a n:Nat} (ha:a ≤ 1) (hn:n ≤ areaN D):(flushF D (areaAt D a + n / 64)).data.toList.take (n % 64) = (storedL D a n).drop (64 * (n / 64)):=by
 have hm:areaN D = 64 * (areaN D / 64):=by unfold areaN;omega
 have hq:n / 64 ≤ areaN D / 64:=by omega
 have hl:=catS_len hok h4 ha (n / 64) hq
 unfold storedL
 by_cases h0:n % 64 = 0
 ·rw [h0,List.take_zero,show (n + 63) / 64 = n / 64 by omega,List.drop_of_length_le (by rw [List.length_take,hl];omega)]
 ·have e:(catS D a (n / 64) ++ (flushF D (areaAt D a + n / 64)).data.toList).take n = catS D a (n / 64) ++ (flushF D (areaAt D a + n / 64)).data.toList.take (n % 64):=by
   rw [List.take_append,hl,show n - 64 * (n / 64) = n % 64 by omega]
   congr 1
   exact List.take_of_length_le (by rw [hl];omega)
  rw [show (n + 63) / 64 = n / 64 + 1 by omega,catS_succ,e]
  exact (List.drop_left' hl).symm
end
end Rd
end Go.Proofs.YtlfkhlfkckfbpaaGreat
