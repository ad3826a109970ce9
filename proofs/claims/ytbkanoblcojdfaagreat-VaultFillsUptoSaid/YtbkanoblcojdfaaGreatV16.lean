/- Parts of the proof, joined: RcPack, PkLaw, BkBuild, PkDone1; their conditions stand with each. -/
import Derived.Shelf.Strings.BuilderK
import Derived.Test.YtbkanoblcojdfaaGreatRows
import Derived.Test.YtbkanoblcojdfaaGreatV0
import Derived.Test.YtbkanoblcojdfaaGreatV4
import Derived.Test.YtbkanoblcojdfaaGreatV14
import Derived.Test.YtbkanoblcojdfaaGreatV15

set_option maxRecDepth 20000
set_option maxHeartbeats 8000000
namespace Go.Proofs.YtbkanoblcojdfaaGreat
namespace Rc
open Go.RowKit Bk Lt
attribute [local go_sem ↓] Go.wp_at_zero Go.wp_at_succ
attribute [local go_sem] floatUpon pick
theorem toPack_any (A B:Option Addr) (c d:Nat) (r:Rec) (w:World) (ha:StrsAt w A r.keys) (hb:WrsAt w B r.ws) (hA:A = none → c = 0) (hok:RecOk r) :
  Calls Tryz.prog 201 #[recV r A B c d] w fun e w'=>∃ (A1 B1:Option Addr) (c1 d1:Nat),e = .returned (Pk.packV A1 B1 c1 d1 (numsOf r) (textsOf r)) ∧ IntsAt w' A1 (numsOf r) ∧ StrsAt w' B1 (textsOf r) ∧ (numsOf r).length ≤ c1 ∧ (textsOf r).length ≤ d1 ∧ c1 ≤ maxLen ∧ d1 ≤ maxLen ∧ Below w.heap.size w w':=by
 obtain ⟨i0,hi,hz0,hz1,hz2⟩:=info_parts Tryz.infoStr
 obtain ⟨i1,hi',hz0',hz1',hz2'⟩:=info_parts Pk.Tryz.infoInt
 have henv:=RcEnv.start (c:=c) (d:=d) ha hb
 have hbd:=hok.bounds
 have nk:r.keys.length ≤ 16:=hbd.1
 have nw:r.ws.length ≤ 16:=hbd.2.1
 have pk:(r.keys.length:Int) ≤ 16:=by omega
 have pw:(r.ws.length:Int) ≤ 16:=by omega
 have HAn:=Lib.hid hA
 have HFb:=Lib.hid (fun b W=>fromBool_any b W)
 clear ha hb hbd hok hA
 unfold recV
 go_enter Tryz.func201,Tryz.ntmps201
 go_upto_region 1 with fail
 have hE1:=henv.step ((Below.refl _ _).alloc (Nat.le_refl _) (.cells #[.slice none 0 0,.slice none 0 0] 240))
 have hR1:Cel ((w.alloc (.cells #[.int .i64 r.kind,.int .i64 r.txn,.int .i64 r.ts,.int .i64 r.coord,.string r.key,.string r.text,.bool r.dead,.slice A r.keys.length c,.slice B r.ws.length d] 37)).alloc (.cells #[.slice none 0 0,.slice none 0 0] 240)) (w.heap.size + 1) 240 [.slice none 0 0,.slice none 0 0]:=(blk2 w _ _).2.2
 generalize (w.alloc (.cells #[.int .i64 r.kind,.int .i64 r.txn,.int .i64 r.ts,.int .i64 r.coord,.string r.key,.string r.text,.bool r.dead,.slice A r.keys.length c,.slice B r.ws.length d] 37)).alloc (.cells #[.slice none 0 0,.slice none 0 0] 240) = W1 at hE1 hR1 ⊢
 have HE:=Lib.hid hE1
 have HR:=Lib.hid hR1
 clear henv hE1 hR1
 refine wp_region_said 15 [7,8,9,10,11,12,13,14,15,16,17,18,19,20,21]
  [.is (.pointer (some ⟨w.heap.size,0,none⟩)),.is (.int .i64 r.kind),.is (.pointer (some ⟨w.heap.size,1,none⟩)),.is (.int .i64 r.txn),.is (.pointer (some ⟨w.heap.size,2,none⟩)),.is (.int .i64 r.ts),.is (.pointer (some ⟨w.heap.size,3,none⟩)),.is (.int .i64 r.coord),.is (.pointer (some ⟨w.heap.size,6,none⟩)),.is (.bool r.dead),.is (.int .i64 (flag r.dead)),.is (.pointer (some ⟨w.heap.size,7,none⟩)),.is (.slice A r.keys.length c),.is (.int .i64 (r.keys.length:Int)),.arr 3 #[.int .i64 r.kind,.int .i64 r.txn,.int .i64 r.ts,.int .i64 r.coord,.int .i64 (flag r.dead),.int .i64 (r.keys.length:Int)] 6 6]
  (fun W=>RcEnv w W w.heap.size A B c d r ∧ Below W1.heap.size W1 W) (by kernel_rfl) (by kernel_rfl) (by kernel_rfl) (by kernel_rfl) (by kernel_rfl) (fun W W' h hb=>⟨h.1.step hb,h.2.trans (hb.mono h.2.size)⟩) ⟨HE.out,Below.refl _ _⟩ ?steps1 ?last1
 case steps1 =>
  simp only [List.take_succ_cons,List.take_zero]
  refine ⟨?_,?_,?_,?_,?_,?_,?_,?_,?_,?_,?_,?_,?_,?_,?_,trivial⟩
  all_goals
   intro vs W ρ hρ hc hf hg hI hH hd R' hR
   have k0:=hI.1.cel.cell (i:=0) rfl
   have k1:=hI.1.cel.cell (i:=1) rfl
   have k2:=hI.1.cel.cell (i:=2) rfl
   have k3:=hI.1.cel.cell (i:=3) rfl
   have k6:=hI.1.cel.cell (i:=6) rfl
   have k7:=hI.1.cel.cell (i:=7) rfl
   have HR:=Lib.hid hR
   simp [depsOf,Region.binds,sayAt,Say.holds] at hd
   clear hR hI
   go_simp
   first
    | exact HR.out _ _ (by simp [sayAt,Say.holds]) (Below.refl _ _) (by simp [sayAt,Say.isBlk])
    | exact HR.out _ _ ⟨_,hH,by simp,rfl,heap_alloc_new _ _⟩ ((Below.refl _ _).alloc (Nat.le_refl _) _) (fun h=>by cases h)
    | (refine (HFb.out _ _).mono ?_;rintro e w' ⟨rfl,rfl⟩;exact ⟨_,rfl,HR.out _ _ (by simp [sayAt,Say.holds]) (Below.refl _ _) (by simp [sayAt,Say.isBlk])⟩)
    | trace_state
 case last1 =>
 intro vs W hI hb hg hd
 obtain ⟨p,hp1,hp2,g14,hp4⟩:=hg 14 (by omega)
 simp only [List.take_succ_cons,List.take_zero,List.drop_succ_cons,List.drop_zero,putAll,Act.put,List.setIfInBounds_toArray,List.set_cons_succ,List.set_cons_zero,Nat.zero_add,Nat.reduceAdd]
 rw [g14]
 clear g14 hg hd hb
 go_upto_region 2 with fail
 have hE1:=hI.1
 have hB1:=hI.2
 have k4:=hE1.cel.cell (i:=4) rfl
 have k5:=hE1.cel.cell (i:=5) rfl
 have q7:=fun o:Obj=>(hE1.step ((Below.refl _ W).alloc (Nat.le_refl _) o)).cel.cell (i:=7) rfl
 obtain ⟨s2,b2⟩:=blk1 W (.cells #[.string r.key,.string r.text] 9)
 have hrw:PkRows W1 (W.alloc (.cells #[.string r.key,.string r.text] 9)) W1.heap.size (.slice (some ⟨p,0,none⟩) 6 6) (.slice (some ⟨W.heap.size,0,none⟩) 2 2) (numsP r 0) [r.key,r.text]:=by
  have hsz:=hB1.size
  refine ⟨?_,?_,?_,hB1.alloc hsz _,by omega⟩
  ·have:(numsP r 0).length = 6:=by simp [numsP]
   rw [this]
   exact ⟨by rw [intV_len,this],.inr ⟨p,6,_,rfl,hp1,((Below.refl _ W).alloc (Nat.le_refl _) _).block p hp2 |>.trans hp4,Nat.le_refl _,by unfold maxLen;omega,rfl,by simp [numsP,intV]⟩⟩
  ·exact ⟨rfl,.inr ⟨W.heap.size,2,_,rfl,hsz,b2,Nat.le_refl _,by unfold maxLen;omega,rfl,rfl⟩⟩
  ·intro j h1 h2;simp [Value.ownBlock] at h1 h2;omega
 have HRw:=Lib.hid hrw
 have HA2:=Lib.hid (show A = none → r.keys.length = 0 ∧ c = 0 from fun e=>by
   refine ⟨?_,HAn.out e⟩
   rcases Nat.eq_zero_or_pos r.keys.length with h | h
   ·exact h
   ·obtain ⟨ad,h2,_⟩:=HE.out.ks h;rw [e] at h2;cases h2)
 clear s2 b2 hrw hp1 hp2 hp4 hI hE1 hB1
 go_upto_region 3 with (at_builtin;refine wpList_append_opt rfl _ _ 23 rfl W1.heap.size 9 i0 (.string ⟨#[]⟩) 16 Tryz.underlying23 hi hz0 hz1 hz2 rfl _ 2 _ rfl HRw.out.r1 A r.keys.length c (strV r.keys) rfl (strV_len _) HA2.out ?c1 ?c2 ?c3 ?c4 HRw.out.le ?_)
 case c1=>exact fun ad e=>by subst e;exact (HE.out.step HRw.out.bel).ks.news
 case c2=>intro u hu;obtain ⟨s,_,rfl⟩:=List.mem_map.1 hu;rfl
 case c3=>unfold maxLen;omega
 case c4=>omega
 intro v' w3 ho hg hat
 have HR3:=Lib.hid (PkRows.grow2 (ts':=textsP r 0) HRw.out (by
  have e:strV [r.key,r.text] ++ strV r.keys = strV (textsP r 0):=by simp [strV,textsP]
  rw [← e];exact ho) (by simp [textsP];omega) hg (by rcases hat with h | h;exact .inl h;exact .inr (by rw [h];simp)))
 clear ho hg hat HRw q7 k4 k5
 generalize (Value.slice (some ⟨p,0,none⟩) 6 6) = vn at HR3 ⊢
 have k8:=(HE.out.step HR3.out.bel).cel.cell (i:=8) rfl
 go_wp2_with fail
 go_loopw [3,4,33] (fun v1 v2 i wr=>∃ (j:Nat),j ≤ r.ws.length ∧ i = .int .i64 (j:Int) ∧ Hid (PkRows W1 wr W1.heap.size v1 v2 (numsP r j) (textsP r j))) (fun _ _ i _=>r.ws.length - (intOf i).toNat)
 case atStart=>exact ⟨0,by omega,rfl,HR3.out⟩
 case round =>
  obtain ⟨j,hj,rfl,hrw⟩:=hrel
  clear HR3 k8
  by_cases hlt:j < r.ws.length
  ·have pj:(j:Int) < (r.ws.length:Int):=by omega
   have hle:=HE.out.step hrw.out.bel
   obtain ⟨bd,rfl,_,hcb⟩:=hle.ws (by omega)
   obtain ⟨x0,x1,x2⟩:=hcb j hlt
   rw [← add_field _ _ _ (by omega)] at x1 x2
   have hns:=numsP_succ hlt
   have hts:=textsP_succ hlt
   have hnl:=numsP_len r j
   have htl:=textsP_len r j
   obtain ⟨X,hX⟩:∃ X,X = r.ws[j]:=⟨_,rfl⟩
   rw [← hX] at x0 x1 x2 hns hts
   clear hX hcb hle
   obtain ⟨xk,xs,xd⟩:=X
   simp only at *
   go_upto_region 6 with fail
   have hR2:=hrw.out.step ((Below.refl _ wr).alloc (Nat.le_refl _) (.cells #[.string xk,.string xs,.bool xd] 45))
   have hC2:Cel (wr.alloc (.cells #[.string xk,.string xs,.bool xd] 45)) wr.heap.size 45 [.string xk,.string xs,.bool xd]:=(blk1 _ _).2
   have hOn:∀ k,u3.ownBlock = some k → k < wr.heap.size:=fun k hk=>(hrw.out.r0.lt k hk).2
   generalize wr.alloc (.cells #[.string xk,.string xs,.bool xd] 45) = W2 at hR2 hC2 ⊢
   have HR2:=Lib.hid hR2
   have HNs:=Lib.hid (show numsP r (j + 1) = numsP r j ++ [flag xd] from hns)
   have HTs:=Lib.hid hts
   have HOn:=Lib.hid hOn
   have z0:=hC2.cell (i:=0) rfl
   have z1:=hC2.cell (i:=1) rfl
   have z2:=hC2.cell (i:=2) rfl
   have HC2:=Lib.hid hC2
   clear hR2 hns hts hOn hC2 hrw x0 x1 x2
   generalize wr.heap.size = g5 at *
   go_wp2_with fail
   refine (HFb.out _ _).mono ?_
   rintro e w' ⟨rfl,rfl⟩
   generalize flag xd = fx at HNs ⊢
   go_upto_region 7 with (at_builtin;refine wpList_append_own_at _ rfl _ _ 24 rfl W1.heap.size 3 i1 (.int .i64 0) 1 8 Tryz.underlying24 hi' hz0' hz1' hz2' rfl (by decide) _ _ _ rfl (HR2.out.step ((Below.refl _ w').alloc (Nat.le_refl _) _)).r0 ⟨w'.heap.size,0,none⟩ 1 1 [.int .i64 fx] rfl rfl (cell_one_new _ _ _) ?a2 ?a3 ?a4 (HR2.out.step ((Below.refl _ w').alloc (Nat.le_refl _) _)).le ?_)
   case a2=>first | rfl | (intro u hu;simp at hu;subst hu;rfl)
   case a3=>unfold maxLen;omega
   case a4=>omega
   intro v' w5 hown' hgrow _ hat
   have hR5:=PkRows.grow1 (ns':=numsP r (j + 1)) (HR2.out.step ((Below.refl _ w').alloc (Nat.le_refl _) (.cells #[.int .i64 fx] 3))) (by rw [HNs.out,intV_snoc];exact hown') (by rw [HNs.out,List.length_append];rfl) hgrow (by rcases hat with h | h;exact .inl h;exact .inr (by rw [h];simp))
   have hC5:Cel w5 g5 45 [.string xk,.string xs,.bool xd] :=
    (hgrow.block g5 (by have:=HC2.out.lt;simp;omega) (fun e=>absurd (HOn.out _ e.symm) (Nat.lt_irrefl _))).trans (HC2.out.below ((Below.refl _ w').alloc (Nat.le_refl _) _))
   have HR5:=Lib.hid hR5
   have y0:=hC5.cell (i:=0) rfl
   have y1:=hC5.cell (i:=1) rfl
   clear hown' hgrow hat hR5 hC5 HR2 HC2 z0 z1 z2 HOn
   go_wp2_with (at_builtin;refine wpList_append_own_at _ rfl _ _ 23 rfl W1.heap.size 9 i0 (.string ⟨#[]⟩) 1 16 Tryz.underlying23 hi hz0 hz1 hz2 rfl (by decide) _ _ _ rfl (HR5.out.step ((Below.refl _ w5).alloc (Nat.le_refl _) _)).r1 ⟨w5.heap.size,0,none⟩ 2 2 [.string xk,.string xs] rfl rfl (new_row (heap_alloc_new _ _)) ?b2 ?b3 ?b4 (HR5.out.step ((Below.refl _ w5).alloc (Nat.le_refl _) _)).le ?_)
   case b2=>intro u hu;simp at hu;rcases hu with rfl | rfl <;> rfl
   case b3=>unfold maxLen;omega
   case b4=>omega
   intro v2 w6 hown' hgrow _ hat
   have HR6:=Lib.hid (PkRows.grow2 (ts':=textsP r (j + 1)) (HR5.out.step ((Below.refl _ w5).alloc (Nat.le_refl _) (.cells #[.string xk,.string xs] 9))) (by rw [HTs.out,Pk.strV_snoc2,Pk.strV_snoc2,List.append_assoc];exact hown') (by rw [HTs.out];simp) hgrow (by rcases hat with h | h;exact .inl h;exact .inr (by rw [h];simp)))
   clear hown' hgrow hat HR5 y0 y1
   go_wp2_with fail
   go_roundw
   case rel=>exact ⟨j + 1,by omega,by go_num,HR6.out⟩
   case measure=>simp [intOf];omega
  ·obtain rfl:j = r.ws.length:=by omega
   have h2:=hrw.out
   rw [numsP_all,textsP_all] at h2
   obtain ⟨A1,c1,rfl,f1,f2⟩:=Pk.own_form h2.r0
   obtain ⟨B1,d1,rfl,f3,f4⟩:=Pk.own_form h2.r1
   have F:=Lib.hid (And.intro f1 (And.intro f2 (And.intro f3 f4)))
   have hlt0:w.heap.size + 1 < W1.heap.size:=HR.out.lt
   have hN0:(Value.slice A1 (numsOf r).length c1).ownBlock ≠ some (w.heap.size + 1):=fun e=>by have:=(h2.r0.lt _ e).1;omega
   have hN1:(Value.slice B1 (textsOf r).length d1).ownBlock ≠ some (w.heap.size + 1):=fun e=>by have:=(h2.r1.lt _ e).1;omega
   have o0:=ownsRow_setCell_other (a:=⟨w.heap.size + 1,1,none⟩) (ownsRow_setCell_other (a:=⟨w.heap.size + 1,0,none⟩) h2.r0 hN0 (.slice A1 (numsOf r).length c1)) hN0 (.slice B1 (textsOf r).length d1)
   have o1:=ownsRow_setCell_other (a:=⟨w.heap.size + 1,1,none⟩) (ownsRow_setCell_other (a:=⟨w.heap.size + 1,0,none⟩) h2.r1 hN1 (.slice A1 (numsOf r).length c1)) hN1 (.slice B1 (textsOf r).length d1)
   have hRc:=HR.out.below h2.bel
   have hF:=(hRc.set (i:=0) (v:=.slice A1 (numsOf r).length c1)).set (i:=1) (v:=.slice B1 (textsOf r).length d1)
   have hBl:Below w.heap.size w ((wr.setCell ⟨w.heap.size + 1,0,none⟩ (.slice A1 (numsOf r).length c1)).setCell ⟨w.heap.size + 1,1,none⟩ (.slice B1 (textsOf r).length d1)) :=
    ((HE.out.bel.trans (h2.bel.mono HE.out.bel.size)).setCell (p:=⟨w.heap.size + 1,0,none⟩) (by show w.heap.size ≤ w.heap.size + 1;omega) (.slice A1 (numsOf r).length c1)).setCell (p:=⟨w.heap.size + 1,1,none⟩) (by show w.heap.size ≤ w.heap.size + 1;omega) (.slice B1 (textsOf r).length d1)
   have hI1:=ints_of_slice o0
   have hS1:=strs_of_slice o1
   have kq:=fun i=>hRc.free (i:=i)
   have kq0:=hRc.cell (i:=0) rfl
   have kq1:=hRc.cell (i:=1) rfl
   have z0:=hF.cell (i:=0) rfl
   have z1:=hF.cell (i:=1) rfl
   have HBl:=Lib.hid hBl
   have HI1:=Lib.hid hI1
   have HS1:=Lib.hid hS1
   clear hrw h2 hN0 hN1 o0 o1 hRc hF hBl hI1 hS1 f1 f2 f3 f4
   go_wp2_with fail
   exact bodyPost_ret (v:=Pk.packV A1 B1 c1 d1 (numsOf r) (textsOf r)) (by simp [results,Tryz.results201,go_sem,Pk.packV,z0,z1]) rfl ⟨A1,B1,c1,d1,rfl,HI1.out,HS1.out,F.out.1,F.out.2.2.1,F.out.2.1,F.out.2.2.2,HBl.out⟩
end Rc
end Go.Proofs.YtbkanoblcojdfaaGreat
namespace Go.Proofs.YtbkanoblcojdfaaGreat
namespace Pk
open Go.RowKit Bk
attribute [local go_sem ↓] Go.wp_at_zero Go.wp_at_succ
attribute [local go_sem] floatUpon pick
structure ArgOk (c d:Nat) (ns:List Int) (ts:List ByteArray):Prop where
 n8:ns.length * 8 ≤ 140737488351232
 t16:ts.length * 16 ≤ 140737488351232
 nr:∀ n ∈ ns,-9223372036854775808 ≤ n ∧ n ≤ 9223372036854775807
 tr:∀ t ∈ ts,t.size ≤ 140737488351232
 nc:ns.length ≤ c
 tc:ts.length ≤ d
 c63:c ≤ maxLen
 d63:d ≤ maxLen
theorem ArgOk.range {c d:Nat} {ns:List Int} {ts:List ByteArray} (h:ArgOk c d ns ts):InRange ns ts :=
 ⟨by have:=h.n8;omega,by have:=h.t16;omega,h.nr,fun t ht=>by have:=h.tr t ht;omega⟩
def CheckAll:Prop:=∀ (A B:Option Addr) (c d:Nat) (ns:List Int) (ts:List ByteArray) (w:World),IntsAt w A ns → StrsAt w B ts → ArgOk c d ns ts →
 Calls Tryz.prog 265 #[packV A B c d ns ts] w fun e w'=>e = .returned (.int .i64 (ckE ns ts:Int)) ∧ Below w.heap.size w w'
def EncodeAll:Prop:=∀ (A B:Option Addr) (c d:Nat) (ns:List Int) (ts:List ByteArray) (w:World),IntsAt w A ns → StrsAt w B ts → ArgOk c d ns ts →
 Calls Tryz.prog 200 #[packV A B c d ns ts] w fun e w'=>e = .returned (encV ns ts) ∧ Below w.heap.size w w'
def DecAns2 (s:ByteArray) (w:World):Ending → World → Prop:=fun e w' =>
 ∃ (A B:Option Addr) (c d:Nat),e = .returned (.tuple #[packV A B c d (decR s).1 (decR s).2.1,.int .i64 ((decR s).2.2.1:Int),.int .i64 ((decR s).2.2.2:Int)]) ∧ IntsAt w' A (decR s).1 ∧ StrsAt w' B (decR s).2.1 ∧ Below w.heap.size w w' ∧
  (decR s).1.length ≤ c ∧ (decR s).2.1.length ≤ d ∧ c ≤ maxLen ∧ d ≤ maxLen
def DecodeAll:Prop:=∀ (s:ByteArray) (w:World),s.size ≤ 1000000000000000 → Calls Tryz.prog 197 #[.string s] w (DecAns2 s w)
end Pk
end Go.Proofs.YtbkanoblcojdfaaGreat
namespace Go.Proofs.YtbkanoblcojdfaaGreat
namespace Bk
open Go.RowKit Go.Shelf
def ren:Go.Shelf.Ren:=⟨fun | 240=>314 | 276=>344 | 167=>320 | 166=>256 | 169=>257 | n=>n,fun | 0=>0 | 3=>3 | 4=>4 | 5=>5 | 9=>9 | 20=>20 | 37=>142 | 70=>300 | 72=>302 | 75=>304 | 80=>119 | 127=>217 | 164=>373 | n=>n,fun n=>n⟩
theorem lays167:Go.Proofs.Lays.n167 Tryz.prog ren:={
 mixed:=by kernel_rfl
 f167:=Tryz.func320.trans (congrArg some (by kernel_rfl))
 f240:=Tryz.func314.trans (congrArg some (by kernel_rfl))
 f276:=Tryz.func344.trans (congrArg some (by kernel_rfl))
 t0:=Tryz.underlying0
 a0:=Tryz.isAgg0
 z0:=Tryz.sizeOf0
 v0:=Tryz.zeroValue0
 t4:=Tryz.underlying4
 a4:=Tryz.isAgg4
 z4:=Tryz.sizeOf4
 v4:=Tryz.zeroValue4
 t5:=Tryz.underlying5
 a5:=Tryz.isAgg5
 z5:=Tryz.sizeOf5
 v5:=Tryz.zeroValue5
 t9:=Tryz.underlying9
 a9:=Tryz.isAgg9
 z9:=Tryz.sizeOf9
 v9:=Tryz.zeroValue9
 t20:=Tryz.underlying20
 a20:=Tryz.isAgg20
 z20:=Tryz.sizeOf20
 v20:=Tryz.zeroValue20
 t37:=Tryz.underlying142
 a37:=Tryz.isAgg142
 z37:=Tryz.sizeOf142
 v37:=Tryz.zeroValue142
 t70:=Tryz.underlying300
 a70:=Tryz.isAgg300
 z70:=Tryz.sizeOf300
 v70:=Tryz.zeroValue300
 t72:=Tryz.underlying302
 a72:=Tryz.isAgg302
 z72:=Tryz.sizeOf302
 v72:=Tryz.zeroValue302
 t75:=Tryz.underlying304
 a75:=Tryz.isAgg304
 z75:=Tryz.sizeOf304
 v75:=Tryz.zeroValue304
 t164:=Tryz.underlying373
 a164:=Tryz.isAgg373
 z164:=Tryz.sizeOf373
 v164:=Tryz.zeroValue373 }
theorem lays166:Go.Proofs.Lays.n166 Tryz.prog ren:={
 mixed:=by kernel_rfl
 f166:=Tryz.func256.trans (congrArg some (by kernel_rfl))
 f240:=Tryz.func314.trans (congrArg some (by kernel_rfl))
 f276:=Tryz.func344.trans (congrArg some (by kernel_rfl))
 t0:=Tryz.underlying0
 a0:=Tryz.isAgg0
 z0:=Tryz.sizeOf0
 v0:=Tryz.zeroValue0
 t3:=Tryz.underlying3
 a3:=Tryz.isAgg3
 z3:=Tryz.sizeOf3
 v3:=Tryz.zeroValue3
 t4:=Tryz.underlying4
 a4:=Tryz.isAgg4
 z4:=Tryz.sizeOf4
 v4:=Tryz.zeroValue4
 t9:=Tryz.underlying9
 a9:=Tryz.isAgg9
 z9:=Tryz.sizeOf9
 v9:=Tryz.zeroValue9
 t20:=Tryz.underlying20
 a20:=Tryz.isAgg20
 z20:=Tryz.sizeOf20
 v20:=Tryz.zeroValue20
 t37:=Tryz.underlying142
 a37:=Tryz.isAgg142
 z37:=Tryz.sizeOf142
 v37:=Tryz.zeroValue142
 t70:=Tryz.underlying300
 a70:=Tryz.isAgg300
 z70:=Tryz.sizeOf300
 v70:=Tryz.zeroValue300
 t72:=Tryz.underlying302
 a72:=Tryz.isAgg302
 z72:=Tryz.sizeOf302
 v72:=Tryz.zeroValue302
 t75:=Tryz.underlying304
 a75:=Tryz.isAgg304
 z75:=Tryz.sizeOf304
 v75:=Tryz.zeroValue304
 t164:=Tryz.underlying373
 a164:=Tryz.isAgg373
 z164:=Tryz.sizeOf373
 v164:=Tryz.zeroValue373 }
theorem lays169:Go.Proofs.Lays.n169 Tryz.prog ren:={
 mixed:=by kernel_rfl
 f169:=Tryz.func257.trans (congrArg some (by kernel_rfl))
 t0:=Tryz.underlying0
 a0:=Tryz.isAgg0
 z0:=Tryz.sizeOf0
 v0:=Tryz.zeroValue0
 t3:=Tryz.underlying3
 a3:=Tryz.isAgg3
 z3:=Tryz.sizeOf3
 v3:=Tryz.zeroValue3
 t9:=Tryz.underlying9
 a9:=Tryz.isAgg9
 z9:=Tryz.sizeOf9
 v9:=Tryz.zeroValue9
 t37:=Tryz.underlying142
 a37:=Tryz.isAgg142
 z37:=Tryz.sizeOf142
 v37:=Tryz.zeroValue142
 t70:=Tryz.underlying300
 a70:=Tryz.isAgg300
 z70:=Tryz.sizeOf300
 v70:=Tryz.zeroValue300
 t72:=Tryz.underlying302
 a72:=Tryz.isAgg302
 z72:=Tryz.sizeOf302
 v72:=Tryz.zeroValue302
 t127:=Tryz.underlying217
 a127:=Tryz.isAgg217
 z127:=Tryz.sizeOf217
 v127:=Tryz.zeroValue217 }
theorem bldExtra:Go.Proofs.Builder.Extra Tryz.prog ren:={
 sizeBuilder:=by kernel_rfl
 liesBuilder:=by kernel_rfl
 t5:=Tryz.underlying5
 a5:=Tryz.isAgg5
 z5:=Tryz.sizeOf5
 v5:=Tryz.zeroValue5
 infoByte:=by kernel_rfl
 cellsByte:=by kernel_rfl
 sizeByte:=by kernel_rfl
 neB5:=by decide }
def Bld (b:Nat) (l:List UInt8) (w:World):Prop:=Lib.IsBuilderF 302 5 b b (Lib.byteCells l) w
theorem Bld.lt {b:Nat} {l:List UInt8} {w:World} (h:Bld b l w):b < w.heap.size:=by
 rcases h with h | h
 ·exact h.lt
 ·exact h.lt
theorem Bld.new (w:World):Bld w.heap.size [] (w.alloc (.cells #[.pointer none,.slice none 0 0] 302)):=Lib.IsBuilderF.of (Lib.fresh_isBuilder _ _ w)
theorem bld_byte {b:Nat} {l:List UInt8} {w:World} (c:Nat) (h:Bld b l w) (hc:c < 256) (hl:l.length + 1 ≤ 140737488355328) :
  Calls Tryz.prog 320 #[.pointer (some ⟨b,0,none⟩),.int .u8 (c:Int)] w fun e w'=>e = .returned .nilIface ∧ Bld b (l ++ [UInt8.ofNat c]) w' ∧ Below b w w':=by
 refine (Any.Builder_WriteByte_k lays167 bldExtra b b (Lib.byteCells l) (c:Int) w h (by rw [Lib.byteCells_length];exact hl) (Nat.le_of_lt h.lt)).mono ?_
 rintro e w' ⟨rfl,h1,h2,_⟩
 refine ⟨rfl,.inr ?_,h2⟩
 have e1:Lib.byteCells l ++ [.int .u8 (c:Int)] = Lib.byteCells (l ++ [UInt8.ofNat c]):=by
  unfold Lib.byteCells
  rw [List.map_append,List.map_cons,UInt8.toNat_ofNat_of_lt' (by show c < 256;exact hc)];rfl
 rw [← e1];exact h1
theorem bld_string {b:Nat} {l:List UInt8} {w:World} (s:ByteArray) (h:Bld b l w) (hl:l.length + s.size ≤ 140737488355328) :
  Calls Tryz.prog 256 #[.pointer (some ⟨b,0,none⟩),.string s] w fun e w'=>e = .returned (.tuple #[.int .i64 (s.size:Int),.nilIface]) ∧ Bld b (l ++ s.data.toList) w' ∧ Below b w w':=by
 refine (Any.Builder_WriteString_k lays166 bldExtra b b (Lib.byteCells l) s w h (by rw [Lib.byteCells_length];exact hl) (Nat.le_of_lt h.lt)).mono ?_
 rintro e w' ⟨rfl,h1,h2,_⟩
 refine ⟨rfl,.inr ?_,h2⟩
 have e1:Lib.byteCells l ++ Lib.strCells s = Lib.byteCells (l ++ s.data.toList):=by
  unfold Lib.byteCells Lib.strCells
  rw [List.map_append]
 rw [← e1];exact h1
theorem bld_text {b:Nat} {l:List UInt8} {w:World} (h:Bld b l w) :
  Calls Tryz.prog 257 #[.pointer (some ⟨b,0,none⟩)] w fun e w'=>e = .returned (.string ⟨l.toArray⟩) ∧ Bld b l w' ∧ Below b w w':=by
 refine (Any.Builder_String_any_k lays169 bldExtra b b l w h (Nat.le_of_lt h.lt)).mono ?_
 rintro e w' ⟨rfl,h1,h2,_⟩
 exact ⟨rfl,h1,h2⟩
end Bk
end Go.Proofs.YtbkanoblcojdfaaGreat
namespace Go.Proofs.YtbkanoblcojdfaaGreat
namespace Pk
open Go.RowKit Bk
attribute [local go_sem ↓] Go.wp_at_zero Go.wp_at_succ
attribute [local go_sem] floatUpon pick
theorem u64_wrap {x:Int} (h0:0 ≤ x) (h1:x ≤ 18446744073709551615):IntKind.u64.wrap x = x:=by
 simp only [IntKind.wrap,IntKind.bits,IntKind.signed];simp;omega
theorem writeInt_any (b n:Nat) (L:List UInt8) (w:World) (h:Bld b L w) (hn:n ≤ 9223372036854775807) (hL:L.length ≤ 1000000000000) :
  Calls Tryz.prog 266 #[.pointer (some ⟨b,0,none⟩),.int .i64 (n:Int)] w fun e w'=>e = .returned (.tuple #[]) ∧ Bld b (L ++ plain n) w' ∧ Below b w w':=by
 have H:=Lib.hid h
 clear h
 go_enter Tryz.func266,Tryz.ntmps266
 go_wp2_with fail
 go_loopw [1] (fun c wr=>∃ (m:Nat) (O:List UInt8),m ≤ n ∧ Hid (plain n = O ++ plain m) ∧ c = .int .i64 (m:Int) ∧ Hid (Bld b (L ++ O) wr) ∧ Hid (Below b w wr)) (fun c _=>(intOf c).toNat)
 case atStart=>exact ⟨n,[],Nat.le_refl _,rfl,rfl,by rw [List.append_nil];exact H.out,Below.refl _ _⟩
 case round =>
  obtain ⟨m,O,hmn,hpl,rfl,hB,hbel⟩:=hrel
  have hOl:O.length ≤ 8:=by
   have h1:=plain_len 9 n (by show n < 9223372036854775808;omega) (by omega)
   have h2:=plain_pos m
   rw [hpl.out,List.length_append] at h1
   omega
  have hlen:(L ++ O).length + 1 ≤ 140737488355328:=by rw [List.length_append];omega
  by_cases hlt:128 ≤ m
  ·have pm:(128:Int) ≤ (m:Int):=by omega
   have hmod:(m:Int).tmod 128 = ((m % 128:Nat):Int):=by rw [Int.tmod_eq_emod_of_nonneg (by omega)];omega
   have hdiv:(m:Int).tdiv 128 = ((m / 128:Nat):Int):=by rw [Int.tdiv_eq_ediv_of_nonneg (by omega)];omega
   have hp2:plain n = (O ++ [UInt8.ofNat (m % 128 + 128)]) ++ plain (m / 128):=by rw [hpl.out,plain_big hlt,List.append_assoc];rfl
   have hx:m % 128 < 128:=by omega
   have hy:m / 128 + 1 ≤ m:=by omega
   have hc1:=bld_byte (m % 128 + 128) hB.out (by omega) hlen
   rw [Int.natCast_add] at hc1
   generalize hxe:m % 128 = x at hmod hc1 hx hp2
   generalize hye:m / 128 = y at hdiv hy hp2
   have hxi:(x:Int) < 128:=by omega
   have hcv:IntKind.u8.wrap (x:Int) = (x:Int):=u8_wrap (by omega) (by omega)
   have hcv2:IntKind.u8.wrap ((x:Int) + 128) = (x:Int) + 128:=u8_wrap (by omega) (by omega)
   have HC:=Lib.hid hc1
   have HP:=Lib.hid hp2
   clear hc1 hp2 hxe hye hpl hB hlen hOl
   go_wp2_with fail
   refine HC.out.mono ?_
   rintro e w2 ⟨rfl,h2,hb⟩
   have HB2:=Lib.hid h2
   have HL2:=Lib.hid (hbel.out.trans hb)
   clear h2 hb hbel HC
   go_wp2_with fail
   go_roundw
   case rel=>exact ⟨y,O ++ [UInt8.ofNat (x + 128)],by omega,HP.out,rfl,by rw [← List.append_assoc];exact HB2.out,HL2.out⟩
   case measure=>simp [intOf];omega
  ·have pm:(m:Int) < 128:=by omega
   have hcv:IntKind.u8.wrap (m:Int) = (m:Int):=u8_wrap (by omega) (by omega)
   have hp2:plain n = O ++ [UInt8.ofNat m]:=by rw [hpl.out,plain_small (by omega)]
   have HC:=Lib.hid (bld_byte m hB.out (by omega) hlen)
   have HP:=Lib.hid hp2
   clear hp2 hpl hB hlen hOl
   go_wp2_with fail
   refine HC.out.mono ?_
   rintro e w2 ⟨rfl,h2,hb⟩
   have HB2:=Lib.hid h2
   have HL2:=Lib.hid (hbel.out.trans hb)
   clear h2 hb hbel HC
   go_wp2_with fail
   go_end0
   exact ⟨rfl,by rw [HP.out,← List.append_assoc];exact HB2.out,HL2.out⟩
theorem writeFolded_any (b n:Nat) (L:List UInt8) (w:World) (h:Bld b L w) (hn:n < 9223372036854775808) (hL:L.length ≤ 1000000000000) :
  Calls Tryz.prog 267 #[.pointer (some ⟨b,0,none⟩),.int .u64 (n:Int)] w fun e w'=>e = .returned (.tuple #[]) ∧ Bld b (L ++ plain n) w' ∧ Below b w w':=by
 have H:=Lib.hid h
 clear h
 go_enter Tryz.func267,Tryz.ntmps267
 go_wp2_with fail
 go_loopw [1] (fun c wr=>∃ (m:Nat) (O:List UInt8),m ≤ n ∧ Hid (plain n = O ++ plain m) ∧ c = .int .u64 (m:Int) ∧ Hid (Bld b (L ++ O) wr) ∧ Hid (Below b w wr)) (fun c _=>(intOf c).toNat)
 case atStart=>exact ⟨n,[],Nat.le_refl _,rfl,rfl,by rw [List.append_nil];exact H.out,Below.refl _ _⟩
 case round =>
  obtain ⟨m,O,hmn,hpl,rfl,hB,hbel⟩:=hrel
  have hOl:O.length ≤ 8:=by
   have h1:=plain_len 9 n (by show n < 9223372036854775808;omega) (by omega)
   have h2:=plain_pos m
   rw [hpl.out,List.length_append] at h1
   omega
  have hlen:(L ++ O).length + 1 ≤ 140737488355328:=by rw [List.length_append];omega
  by_cases hlt:128 ≤ m
  ·have pm:(128:Int) ≤ (m:Int):=by omega
   have hmod:(m:Int).tmod 128 = ((m % 128:Nat):Int):=by rw [Int.tmod_eq_emod_of_nonneg (by omega)];omega
   have hdiv:(m:Int).tdiv 128 = ((m / 128:Nat):Int):=by rw [Int.tdiv_eq_ediv_of_nonneg (by omega)];omega
   have hp2:plain n = (O ++ [UInt8.ofNat (m % 128 + 128)]) ++ plain (m / 128):=by rw [hpl.out,plain_big hlt,List.append_assoc];rfl
   have hx:m % 128 < 128:=by omega
   have hy:m / 128 + 1 ≤ m:=by omega
   have hc1:=bld_byte (m % 128 + 128) hB.out (by omega) hlen
   rw [Int.natCast_add] at hc1
   generalize hxe:m % 128 = x at hmod hc1 hx hp2
   generalize hye:m / 128 = y at hdiv hy hp2
   have hxi:(x:Int) < 128:=by omega
   have hcv:IntKind.u8.wrap (x:Int) = (x:Int):=u8_wrap (by omega) (by omega)
   have hcv2:IntKind.u8.wrap ((x:Int) + 128) = (x:Int) + 128:=u8_wrap (by omega) (by omega)
   have HC:=Lib.hid hc1
   have HP:=Lib.hid hp2
   clear hc1 hp2 hxe hye hpl hB hlen hOl
   go_wp2_with fail
   refine HC.out.mono ?_
   rintro e w2 ⟨rfl,h2,hb⟩
   have HB2:=Lib.hid h2
   have HL2:=Lib.hid (hbel.out.trans hb)
   clear h2 hb hbel HC
   go_wp2_with fail
   go_roundw
   case rel=>exact ⟨y,O ++ [UInt8.ofNat (x + 128)],by omega,HP.out,rfl,by rw [← List.append_assoc];exact HB2.out,HL2.out⟩
   case measure=>simp [intOf];omega
  ·have pm:(m:Int) < 128:=by omega
   have hcv:IntKind.u8.wrap (m:Int) = (m:Int):=u8_wrap (by omega) (by omega)
   have hp2:plain n = O ++ [UInt8.ofNat m]:=by rw [hpl.out,plain_small (by omega)]
   have HC:=Lib.hid (bld_byte m hB.out (by omega) hlen)
   have HP:=Lib.hid hp2
   clear hp2 hpl hB hlen hOl
   go_wp2_with fail
   refine HC.out.mono ?_
   rintro e w2 ⟨rfl,h2,hb⟩
   have HB2:=Lib.hid h2
   have HL2:=Lib.hid (hbel.out.trans hb)
   clear h2 hb hbel HC
   go_wp2_with fail
   go_end0
   exact ⟨rfl,by rw [HP.out,← List.append_assoc];exact HB2.out,HL2.out⟩
theorem fold_any (z:Int) (w:World) (hz:numOk z) :
  Calls Tryz.prog 268 #[.int .i64 z] w fun e w'=>e = .returned (.int .u64 ((zig z:Nat):Int)) ∧ w' = w:=by
 obtain ⟨z1,z2⟩:=hz
 by_cases h0:z < 0
 ·have E:=Lib.hid (show ((zig z:Nat):Int) = 2 * -z - 1 by unfold zig;rw [if_pos h0];omega)
  have c1:IntKind.u64.wrap (-z) = -z:=u64_wrap (by omega) (by omega)
  have c2:IntKind.u64.wrap (2 * -z) = 2 * -z:=u64_wrap (by omega) (by omega)
  have c3:IntKind.u64.wrap (2 * -z - 1) = 2 * -z - 1:=u64_wrap (by omega) (by omega)
  go_enter Tryz.func268,Tryz.ntmps268
  go_wp2_with fail
  go_ret
  exact ⟨by rw [E.out];rfl,rfl⟩
 ·have hp:0 ≤ z:=by omega
  have E:=Lib.hid (show ((zig z:Nat):Int) = 2 * z by unfold zig;rw [if_neg h0];omega)
  have c1:IntKind.u64.wrap z = z:=u64_wrap (by omega) (by omega)
  have c2:IntKind.u64.wrap (2 * z) = 2 * z:=u64_wrap (by omega) (by omega)
  clear h0
  go_enter Tryz.func268,Tryz.ntmps268
  go_wp2_with fail
  go_ret
  exact ⟨by rw [E.out];rfl,rfl⟩
theorem isNumber_any (z:Int) (w:World) (_hz:-9223372036854775808 ≤ z ∧ z ≤ 9223372036854775807) :
  Calls Tryz.prog 319 #[.int .i64 z] w fun e w'=>e = .returned (.bool (decide (numOk z))) ∧ w' = w:=by
 by_cases h:numOk z
 ·have E:=Lib.hid (show decide (numOk z) = true by simpa using h)
  obtain ⟨h1,h2⟩:=h
  go_enter Tryz.func319,Tryz.ntmps319
  go_wp2_with fail
  go_ret
  exact ⟨by rw [E.out];rfl,rfl⟩
 ·have E:=Lib.hid (show decide (numOk z) = false by simpa using h)
  by_cases h1:-4611686018427387904 ≤ z
  ·have h2:4611686018427387903 < z:=by
    by_cases h2:z ≤ 4611686018427387903
    ·exact absurd ⟨h1,h2⟩ h
    ·omega
   have H3:=Lib.hid (show decide (z ≤ 4611686018427387903) = false by rw [decide_eq_false_iff_not];omega)
   clear h
   go_enter Tryz.func319,Tryz.ntmps319
   go_wp2_with fail
   go_ret
   exact ⟨by rw [E.out,← H3.out];rfl,rfl⟩
  ·have h2:z < -4611686018427387904:=by omega
   clear h h1
   go_enter Tryz.func319,Tryz.ntmps319
   go_wp2_with fail
   go_ret
   exact ⟨by rw [E.out];rfl,rfl⟩
end Pk
end Go.Proofs.YtbkanoblcojdfaaGreat
