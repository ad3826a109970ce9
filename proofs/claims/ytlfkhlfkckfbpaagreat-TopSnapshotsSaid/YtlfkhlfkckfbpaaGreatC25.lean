/- Parts of the proof, joined: TpSnap; their conditions stand with each. -/
import Derived.Test.YtlfkhlfkckfbpaaGreatC24

set_option maxRecDepth 20000
set_option maxHeartbeats 8000000
namespace Go.Proofs.YtlfkhlfkckfbpaaGreat
namespace Tp
open Go.RowKit Bk Ls Ll Ch Sc Rd Ck
attribute [local go_sem ↓] Go.wp_at_zero Go.wp_at_succ
attribute [local go_sem] floatUpon pick
def TI (w wr:World) (gd bt:Nat) (now:Nat) (b:Nat) (lv sv:Value):Prop:=∃ (F:Nat → Prop) (p:Nat) (D:Dev) (k:Cl) (v:Value) (T:Tb) (L:List Vr) (S:List Sn) (N:Nat),
 TW w wr F b gd p bt D k v T lv L sv S ∧ Wi 12 D k N ∧ N ≤ now + 1 ∧ k.last ≤ 5 * (now:Int) ∧ k.bound ≤ k.last + 4 ∧ Kept T L S k.last (now:Int) ∧ T.L.length ≤ now ∧ T.many ≤ (now:Int) ∧ L.length ≤ now ∧ S.length ≤ now
def TE (w wr:World) (gd bt:Nat) (now:Nat) (b:Nat) (lv sv:Value):Prop:=∃ (F:Nat → Prop) (p:Nat) (D:Dev) (k:Cl) (v:Value) (T:Tb) (L:List Vr) (S:List Sn) (N:Nat),
 TW w wr F b gd p bt D k v T lv L sv S ∧ Wi 12 D k N ∧ N ≤ now + 1 + 1 ∧ k.last ≤ 5 * (now:Int) + 5 ∧ k.bound ≤ k.last + 4 ∧ Kept T L S k.last (now:Int) ∧ T.L.length ≤ now + 1 ∧ T.many ≤ (now:Int) + 1 ∧ L.length ≤ now + 1 ∧ S.length ≤ now + 1
theorem snap_cells {wr:World} {H:Nat} {c:Nat} {A:Option Addr} {S:List Sn} (h:wr.ownsRow H 49 6 (.slice A S.length c) S.length (S.flatMap snC)) {i:Nat} (hi:i < S.length):∃ g,A = some ⟨g,0,none⟩ ∧ wr.cell? ⟨g,i * 6,none⟩ = some (.int .i64 S[i].n) ∧ wr.cell? ⟨g,i * 6 + 1,none⟩ = some (.int .i64 S[i].t) ∧ wr.cell? ⟨g,i * 6 + 2,none⟩ = some (.int .i64 S[i].v.ts) ∧ wr.cell? ⟨g,i * 6 + 3,none⟩ = some (.string S[i].v.shard) ∧ wr.cell? ⟨g,i * 6 + 4,none⟩ = some (.bool S[i].v.dead) ∧ wr.cell? ⟨g,i * 6 + 5,none⟩ = some (.bool S[i].o):=by
 obtain ⟨g,cap,hv,_,_⟩:=World.ownsRow.form h (by omega)
 simp only [Value.slice.injEq,true_and] at hv
 obtain ⟨rfl,rfl⟩:=hv
 have hf:=World.ownsRow.cellAt h
 have hg:S[i]? = some S[i]:=List.getElem?_eq_getElem hi
 have go:∀ j,j < 6 → wr.cell? ⟨g,i * 6 + j,none⟩ = (snC S[i])[j]?:=fun j hj=>by rw [hf _ (by omega)];exact sn_at hg hj
 exact ⟨g,rfl,go 0 (by omega),go 1 (by omega),go 2 (by omega),go 3 (by omega),go 4 (by omega),go 5 (by omega)⟩
theorem vr_rng {L:List Vr} (h:ChOk L):∀ x ∈ L,VrRng x:=fun x hx=>by
 have:=h.each x hx
 exact ⟨⟨by have:=this.1;omega,by have:=this.2.1;omega⟩,by have:=this.2.2.1;unfold reachBytes;omega⟩
set_option maxHeartbeats 64000000 in
theorem snaps_walk (HBg:∀ w:World,Calls Tryz.prog 4 #[] w fun e w'=>e = .returned (.bool true) ∧ Below w.heap.size w w') (v0:Value) (l:List Int) (x:Int) (w:World) (hv:IntsOf w v0 l):Calls Tryz.prog 3 #[v0,.int .i64 x] w fun e w'=>e = .returned (.bool true) ∧ Below w.heap.size w w':=by
 obtain ⟨A0,c0,rfl,hA0,hl8,-⟩:=hv
 have pl0:(l.length:Int) ≤ 9223372036854775806:=by unfold reachBytes at hl8;omega
 have HA0:=Lib.hid hA0
 have HB:=Lib.hid (HBg w)
 obtain ⟨a,ha⟩:∃ a,a = amongV x 9:=⟨_,rfl⟩
 have ha9:a < 9:=ha ▸ amongV_lt x 9 (by omega)
 have HAm:=Lib.hid (fun W=>among_any x 9 W (by omega) (by omega))
 rw [← ha] at HAm
 obtain ⟨D1,ho1,v1⟩:=fresh_wi (n:=12) (blk:=4) (by omega) (by omega) (by omega) (by omega)
 have H1:=Lib.hid (And.intro ho1 v1)
 clear hA0 hl8 ha HBg ho1 v1
 go_enter Tryz.func3,Tryz.ntmps3
 go_wp2_with fail
 refine HB.out.mono ?_
 rintro e w1 ⟨rfl,hb1⟩
 have HB1:=Lib.hid hb1
 clear hb1 HB
 go_wp2_with fail
 refine (devBase.new 12 w1 ⟨by omega,by omega⟩).mono ?_
 rintro e w2 (⟨_,_,F2,gd,rfl,hr2,hF2,hb2⟩ | ⟨hno,_,_⟩)
 case inr=>exact absurd ⟨by omega,by omega⟩ hno
 have O2:Hid (Ow w w2 F2):=Lib.hid ⟨fun k hk=>Nat.le_trans HB1.out.size (hF2 k hk),HB1.out.trans (hb2.mono HB1.out.size)⟩
 have R2:=Lib.hid (Ck.lopen_any (w:=w2) (F:=F2) (g:=gd) (D:=new0 12) none hr2 4)
 clear hr2 hF2 hb2 HB1
 go_wp2_with fail
 refine R2.out.mono ?_
 rintro e w3 hp
 obtain ⟨F3,b,p,rfl,hc3,hf3⟩:=opn_some hp H1.out.1
 have O3:=Lib.hid (O2.out.act hf3)
 have HC3:=Lib.hid hc3
 clear hp hc3 hf3 O2 R2
 go_wp2_with fail
 refine (HAm.out _).mono ?_
 rintro e w4 ⟨rfl,e2⟩
 subst e2
 have HNw:=Lib.hid (Ll.lnew_any (a:Int) w4)
 unfold LNewP at HNw
 simp only [if_pos (show 0 ≤ (a:Int) ∧ (a:Int) ≤ 1048576 by omega)] at HNw
 go_wp2_with fail
 refine HNw.out.mono ?_
 rintro e w5 ⟨bt,rfl,hq5,hb5⟩
 have HTI:Hid (TI w w5 gd bt 0 b (.slice none 0 0) (.slice none 0 0)):=Lib.hid (by
  have hlt:=HC3.out.lt (devF_of devBase) logF
  have hs4:=O3.out.bel.size
  refine ⟨F3,p,D1,_,.slice none 0 0,⟨(a:Int),0,[]⟩,[],[],1,⟨HC3.out.below (devF_of devBase) logF hb5,⟨hq5.cel,hq5.row.mono hs4,hq5.far,Nat.le_trans hs4 hq5.rb,Nat.le_trans hs4 hq5.bs⟩,⟨rfl,.inl ⟨rfl,rfl⟩⟩,⟨rfl,.inl ⟨rfl,rfl⟩⟩,fun j hj=>⟨fun e=>?_,by simp [Value.ownBlock],by simp [Value.ownBlock],by simp [Value.ownBlock]⟩,O3.out.bF,O3.out.bel.trans (hb5.mono hs4)⟩,H1.out.2,by omega,by show (0:Int) ≤ _;omega,by show (0:Int) ≤ 0 + 4;omega,Kept.start (by omega),by simp,by simp,by simp,by simp⟩
  have h1:=hlt j hj
  have h2:=hq5.rb
  omega)
 clear hq5 hb5 O3 HC3 HNw HAm H1
 go_wp2_with fail
 go_loopw [7,10,11,12] (fun cv lvs svs nv wr=>∃ (now b:Nat) (lv sv:Value),now ≤ l.length ∧ now ≤ 40 ∧ cv = .pointer (some ⟨b,0,none⟩) ∧ nv = .int .i64 (now:Int) ∧ lv = lvs ∧ sv = svs ∧ Hid (TI w wr gd bt now b lv sv)) (fun _ _ _ nv _=>40 - (RowKit.intOf nv).toNat)
 case atStart=>exact ⟨0,b,_,_,by omega,by omega,rfl,rfl,rfl,rfl,HTI⟩
 case round =>
  obtain ⟨now,b,lv,sv,hnl,hn40,rfl,rfl,elv,esv,hti⟩:=hrel
  subst elv esv
  clear HTI
  by_cases hlt:now < l.length
  ·by_cases h40:now < 40
   ·have r1:(now:Int) < (l.length:Int):=by omega
    have r2:(now:Int) < 40:=by omega
    obtain ⟨F,p,D,k,v,T,L,S,N,ht,hw,hN,hka,hkb,hkp,hT1,hT2,hL1,hS1⟩:=hti.out
    obtain ⟨ad,rfl,-,hcb⟩:=HA0.out.below ht.bel (by omega)
    have x0:=hcb now hlt
    have HAm:=Lib.hid (fun V=>among_any l[now] 4 V (by omega) (by omega))
    have hk4:=amongV_lt l[now] 4 (by omega)
    generalize amongV l[now] 4 = kk at HAm hk4
    generalize l[now] = xa at x0 HAm
    clear hcb hti
    go_wp2_with fail
    refine (HAm.out _).mono ?_
    rintro e w4 ⟨rfl,e2⟩
    subst e2
    clear HAm x0
    obtain ⟨wr,rfl⟩:∃ wr,wr = w4:=⟨_,rfl⟩
    have h5:kk = 0 ∨ kk = 1 ∨ kk = 2 ∨ kk = 3:=by omega
    clear hk4
    rcases h5 with rfl | rfl | rfl | rfl
    ·
     have hl:k.last < mxS:=by rw [mx_eq];omega
     have HNx:=Lib.hid (Ck.next_run ht.clk hw (by omega) (by omega) (by omega) (by omega) hl)
     have HT0:=Lib.hid ht
     have HI0:=Lib.hid (And.intro hw (And.intro hN (And.intro hka (And.intro hkb (And.intro hkp (And.intro hT1 (And.intro hT2 (And.intro hL1 hS1))))))))
     have hu8:IntKind.u8.wrap (now:Int) = (now:Int):=by simp only [IntKind.wrap,IntKind.bits,IntKind.signed];simp;omega
     clear ht hw hN hka hkb hkp hT1 hT2 hL1 hS1 hl
     go_wp2_with fail
     refine HNx.out.mono ?_
     rintro e w5 ⟨rfl,D2,l2,b2,F2,hw2,hc2,hf2,hb2⟩
     have ht2:=HT0.out.clock hc2 hf2 (fun _ h=>h)
     have HT2:=Lib.hid ht2
     have HW2:=Lib.hid (And.intro hw2 hb2.out)
     obtain ⟨A10,c10,rfl,hv10,hc10,-,hn10⟩:=vrs_own ht2.row rfl
     have hB6:Below w5.heap.size w5 (w5.alloc (.cells #[.int .u8 (now:Int)] 5)):=(Below.refl _ w5).alloc (Nat.le_refl _) _
     have hst:=bytes_string (w:=w5.alloc (.cells #[.int .u8 (now:Int)] 5)) (g:=w5.heap.size) (L:=[UInt8.ofNat now]) (by
      rw [show (Lib.byteCells [UInt8.ofNat now]).toArray = #[Value.int .u8 (now:Int)] by simp [Lib.byteCells];omega]
      exact heap_alloc_new _ _) 0 1 1 (by simp)
     obtain ⟨sh,hsh⟩:∃ sh:ByteArray,(⟨((List.drop 0 [UInt8.ofNat now]).take 1).toArray⟩:ByteArray) = sh:=⟨_,rfl⟩
     rw [hsh] at hst
     have hs1:sh.size ≤ 2052:=by rw [← hsh];simp [ByteArray.size]
     have hadd:=HI0.out.2.2.2.2.1.add (by have:=HI0.out.2.2.2.2.2.2.2.1;omega) hs1 (by have:=HI0.out.2.2.1;omega)
     have HAd:=Lib.hid (Ch.ladd_any A10 c10 L ⟨k.last + 1,sh,false⟩ (w5.alloc (.cells #[.int .u8 (now:Int)] 5)) (hv10.below hB6) (by have:=HI0.out.2.2.2.2.2.2.2.1;omega) (vr_rng HI0.out.2.2.2.2.1.ch) ⟨⟨by have:=HI0.out.2.2.2.2.1.last0;show -9223372036854775808 ≤ k.last + 1;omega,by have:=HI0.out.2.2.1;show k.last + 1 ≤ 9223372036854775807;omega⟩,by unfold reachBytes;show sh.size ≤ _;omega⟩ hn10 hc10)
     rw [hadd.1] at HAd
     unfold vcs at HAd
     simp only at HAd
     have HKp:=Lib.hid hadd.2
     have HT6:=Lib.hid (ht2.below hB6)
     have hlr:k.last + 1 ≤ 9223372036854775807:=by have:=HI0.out.2.2.1;omega
     generalize hkl:k.last + 1 = kl at HAd HKp hlr HW2 HT6 ⊢
     have HKl:=Lib.hid hkl
     clear hw2 hc2 hf2 hb2 ht2 hv10 hc10 hn10 hsh hs1 hadd HNx HT0 hkl hB6
     go_wp2_with fail
     refine HAd.out.mono ?_
     rintro e w9 ⟨lv9,rfl,hr9,hb9⟩
     obtain ⟨b9,hb9'⟩:∃ b9,b9 = b:=⟨_,rfl⟩
     obtain ⟨sv9,hsv9⟩:∃ sv9,sv9 = sv:=⟨_,rfl⟩
     have HE:Hid (TE w w9 gd bt now b9 lv9 sv9):=Lib.hid (by
      rw [hb9',hsv9]
      have hb2:=HW2.out.2
      have hkl:=HKl.out
      obtain ⟨i1,i2,i3,i4,i5,i6,i7,i8,i9⟩:=HI0.out
      have i10:=i1.ck.lb
      refine ⟨F2,p,D2,⟨l2,kl,b2⟩,v,T,L ++ [⟨kl,sh,false⟩],S,N + 1,HT6.out.chain hb9 hr9,HW2.out.1,by omega,by show kl ≤ _;omega,?_,HKp.out,by omega,by omega,by rw [List.length_append,List.length_singleton];omega,by omega⟩
      show b2 ≤ kl + 4
      rw [hb2]
      split
      ·have:=mx_eq;omega
      ·omega)
     subst hb9' hsv9
     clear hr9 hb9 HAd HT6 HT2 HW2 HKp HI0 HKl hst hu8
     obtain ⟨F9,p9,D9,k9,v9,T9,L9,S9,N9,ht9,hw9,q1,q2,q3,hk9,q4,q5,q6,q7⟩:=HE.out
     obtain ⟨A10,c10,rfl,hv10,hc10,-,hn10⟩:=vrs_own ht9.row rfl
     obtain ⟨A11,c11,rfl⟩:∃ A c,sv9 = .slice A S9.length c:=by
      rcases ht9.sns.2 with ⟨e,e2⟩ | ⟨q,cap,cur,e,_⟩
      ·exact ⟨none,0,by rw [e,e2]⟩
      ·exact ⟨_,_,e⟩
     have HT9:=Lib.hid ht9
     have HK9:=Lib.hid hk9
     have HV10:=Lib.hid (And.intro hv10 hc10)
     have HN9:=Lib.hid (show TI w w9 gd bt (now + 1) b9 (.slice A10 L9.length c10) (.slice A11 S9.length c11) from ⟨F9,p9,D9,k9,v9,T9,L9,S9,N9,ht9,hw9,q1,by omega,q3,by have:=hk9.tick;simpa using this,q4,by omega,q6,q7⟩)
     have q8:L9.length ≤ 41:=by omega
     have q9:(S9.length:Int) ≤ 41:=by omega
     clear ht9 hk9 hv10 hc10 hw9 q1 q2 q3 q4 q5 q6 q7 hn10 HE
     go_wp2_with fail
     go_loopw [183] (fun iv wr=>∃ i:Nat,i ≤ S9.length ∧ iv = .int .i64 (i:Int) ∧ Hid (Below w9.heap.size w9 wr)) (fun iv _=>S9.length - (RowKit.intOf iv).toNat)
     case atStart=>exact ⟨0,Nat.zero_le _,rfl,Lib.hid (Below.refl _ _)⟩
     case round =>
      obtain ⟨i,hi,rfl,hb⟩:=hrel
      by_cases hlt:i < S9.length
      ·obtain ⟨g,rfl,x0,x1,x2,x3,x4,x5⟩:=snap_cells (st_keep HT9.out.sns hb.out) hlt
       have r1:(i:Int) < (S9.length:Int):=by omega
       have hmem:S9[i] ∈ S9:=List.getElem_mem hlt
       generalize S9[i] = X at x0 x1 x2 x3 x4 x5 hmem
       obtain ⟨xn,xt,⟨vt,vs,vd⟩,xo⟩:=X
       simp only at x0 x1 x2 x3 x4 x5
       have HB:=hb
       have hB0:Below wr.heap.size wr (wr.alloc (.cells #[.int .i64 xn,.int .i64 xt,.int .i64 vt,.string vs,.bool vd,.bool xo] 49)):=(Below.refl _ wr).alloc (Nat.le_refl _) _
       have hR0:Cel (wr.alloc (.cells #[.int .i64 xn,.int .i64 xt,.int .i64 vt,.string vs,.bool vd,.bool xo] 49)) wr.heap.size 49 [.int .i64 xn,.int .i64 xt,.int .i64 vt,.string vs,.bool vd,.bool xo]:=(blk1 wr _).2
       have HB1:=Lib.hid (HB.out.trans (hB0.mono HB.out.size))
       have HCk:=Lib.hid (fun V (hV:Below w9.heap.size w9 V)=>Ll.lcheck_any (HT9.out.below hV).tab HK9.out.ok (now:Int) xn)
       have HAt:=Lib.hid (fun V (hV:Below w9.heap.size w9 V)=>Ch.lat_any A10 c10 L9 xt V (HV10.out.1.below hV) (by omega) (vr_rng HK9.out.ch) HV10.out.2)
       have HLk:=Lib.hid (fun (h0:(checkB T9 (now:Int) xn).2 = 0)=>HK9.out.look hmem h0)
       have HEq:=Lib.hid (text_eq vs)
       clear hb hmem
       go_upto_region 41 with fail
       generalize hG:wr.heap.size = G at *
       generalize wr.alloc (.cells #[.int .i64 xn,.int .i64 xt,.int .i64 vt,.string vs,.bool vd,.bool xo] 49) = W1 at *
       have HR0:=Lib.hid hR0
       have y0:=hR0.cell (i:=0) rfl
       clear hR0 hB0 x0 x1 x2 x3 x4 x5 hG HB
       go_wp2_with fail
       refine (HCk.out _ HB1.out).mono ?_
       rintro e w10 ⟨rfl,hb10⟩
       have HB2:=Lib.hid (HB1.out.trans (hb10.mono HB1.out.size))
       have HR2:=Lib.hid (HR0.out.below hb10)
       by_cases h0:(checkB T9 (now:Int) xn).2 = 0
       ·have hlk:=HLk.out h0
        rw [h0]
        generalize (checkB T9 (now:Int) xn).1 = z1
        have hat:=HAt.out _ HB2.out
        rw [hlk] at hat
        have HAt2:=Lib.hid hat
        have y0:=HR2.out.cell (i:=0) rfl
        have y1:=HR2.out.cell (i:=1) rfl
        clear hb10 h0 hlk hat HCk HAt HLk HR0
        unfold vcs at HAt2
        simp only at HAt2
        go_wp2_with fail
        refine HAt2.out.mono ?_
        rintro e w11 ⟨rfl,hb11⟩
        have HB3:=Lib.hid (HB2.out.trans (hb11.mono HB2.out.size))
        have HR3:=Lib.hid (HR2.out.below hb11)
        have hB4:Below w11.heap.size w11 (w11.alloc (.cells #[.int .i64 vt,.string vs,.bool vd] 43)):=(Below.refl _ w11).alloc (Nat.le_refl _) _
        have hR4:Cel (w11.alloc (.cells #[.int .i64 vt,.string vs,.bool vd] 43)) w11.heap.size 43 [.int .i64 vt,.string vs,.bool vd]:=(blk1 w11 _).2
        have HR5:=Lib.hid (HR3.out.below hB4)
        have HB5:=Lib.hid (HB3.out.trans (hB4.mono HB3.out.size))
        have hR4':=Lib.hid hR4
        clear hb11 HAt2 HR2 y0 y1
        go_upto_region 44 with fail
        generalize w11.alloc (.cells #[.int .i64 vt,.string vs,.bool vd] 43) = W5 at *
        generalize w11.heap.size = G5 at *
        have z0:=hR4'.out.cell (i:=0) rfl
        have z1:=hR4'.out.cell (i:=1) rfl
        have z2:=hR4'.out.cell (i:=2) rfl
        have y2:=HR5.out.cell (i:=2) rfl
        have y3:=HR5.out.cell (i:=3) rfl
        have y4:=HR5.out.cell (i:=4) rfl
        have y5:=HR5.out.cell (i:=5) rfl
        have he:=HEq.out
        clear hB4 hR4
        go_wp2_with fail
        go_roundw
        case rel=>exact ⟨i + 1,by omega,by go_num,HB5⟩
        case measure=>simp [RowKit.intOf];omega
       ·have z:((checkB T9 (now:Int) xn).2 != 0) = true:=by simpa using h0
        generalize (checkB T9 (now:Int) xn).2 = ec at z ⊢
        generalize (checkB T9 (now:Int) xn).1 = z1
        clear hb10 h0 HCk HAt HLk HR0 HR2
        go_wp2_with fail
        go_roundw
        case rel=>exact ⟨i + 1,by omega,by go_num,HB2⟩
        case measure=>simp [RowKit.intOf];omega
      ·obtain rfl:i = S9.length:=by omega
       have HN10:Hid (TI w wr gd bt (now + 1) b9 (.slice A10 L9.length c10) (.slice A11 S9.length c11)):=Lib.hid (by
        obtain ⟨F9,p9,D9,k9,v9,T9,L9,S9,N9,t0,t1⟩:=HN9.out
        exact ⟨F9,p9,D9,k9,v9,T9,L9,S9,N9,t0.below hb.out,t1⟩)
       clear hb HN9 HT9 HK9 HV10
       go_wp2_with fail
       go_roundw
       case rel=>exact ⟨now + 1,b9,_,_,by omega,by omega,rfl,by go_num,rfl,rfl,HN10⟩
       case measure=>simp [RowKit.intOf];omega
    ·
     have HKp:=Lib.hid (hkp.snap (by unfold okT;omega) (by have:=hkp.last0;unfold okS;omega) (by omega))
     have HLa:=Lib.hid (fun V (hV:LC V F b gd p D 4 k)=>Ck.llast_any hV)
     have HI0:=Lib.hid (And.intro hw (And.intro hN (And.intro hka (And.intro hkb (And.intro hkp (And.intro hT1 (And.intro hT2 (And.intro hL1 hS1))))))))
     have HT0:=Lib.hid ht
     have HTk:=Lib.hid (Ll.ltake_any ht.tab hkp.ok (by omega) (now:Int) k.last)
     unfold Ll.TkP at HTk
     rw [HKp.out.1] at HTk
     obtain ⟨A10,c10,rfl,hv10,hc10,-,hn10⟩:=vrs_own ht.row rfl
     have HV10:=Lib.hid (And.intro hv10 hc10)
     clear ht hw hN hka hkb hkp hT1 hT2 hL1 hS1 hv10 hc10 hn10
     go_wp2_with fail
     refine (HLa.out _ HT0.out.clk).mono ?_
     rintro e w5 ⟨rfl,e2⟩
     subst e2
     go_wp2_with fail
     refine HTk.out.mono ?_
     rintro e w6 ⟨rfl,hp⟩
     obtain ⟨v6,ht6⟩:=HT0.out.table (T':=⟨T.long,T.many + 1,lv T.L (now:Int) ++ [⟨T.many + 1,k.last,(now:Int) + T.long⟩]⟩) hp
     have HT6:=Lib.hid ht6
     clear ht6 hp HTk
     go_wp2_with fail
     refine (HLa.out _ HT6.out.clk).mono ?_
     rintro e w7 ⟨rfl,e2⟩
     subst e2
     have hv7:=vrs_own HT6.out.row rfl
     have HAt:=Lib.hid (Ch.lat_any A10 c10 L k.last w7 (by obtain ⟨A,c,e,h,_⟩:=hv7;simp only [Value.slice.injEq,true_and] at e;obtain ⟨rfl,rfl⟩:=e;exact h) (by have:=HI0.out.2.2.2.2.2.2.2.1;omega) (vr_rng HI0.out.2.2.2.2.1.ch) HV10.out.2)
     have hatv:atP L k.last = ((atV L k.last).1,(atV L k.last).2,0):=by
      unfold atP
      rw [if_neg (by rw [(chk_ok (l:=L)).2 HI0.out.2.2.2.2.1.ch];simp)]
     rw [hatv] at HAt
     obtain ⟨fv,fo,hfv⟩:∃ fv fo,atV L k.last = (fv,fo):=⟨_,_,rfl⟩
     have HFv:=Lib.hid hfv
     rw [hfv] at HAt
     obtain ⟨ft,fs,fd⟩:=fv
     unfold vcs at HAt
     simp only at HAt
     clear hv7 hatv hfv
     go_wp2_with fail
     refine HAt.out.mono ?_
     rintro e w8 ⟨rfl,hb8⟩
     have hB9:Below w8.heap.size w8 (w8.alloc (.cells #[.int .i64 ft,.string fs,.bool fd] 43)):=(Below.refl _ w8).alloc (Nat.le_refl _) _
     have hR9:Cel (w8.alloc (.cells #[.int .i64 ft,.string fs,.bool fd] 43)) w8.heap.size 43 [.int .i64 ft,.string fs,.bool fd]:=(blk1 w8 _).2
     have HT8:=Lib.hid ((HT6.out.below hb8).below hB9)
     have HR9:=Lib.hid hR9
     clear hb8 HAt
     go_upto_region 31 with fail
     generalize hW5:w8.alloc (.cells #[.int .i64 ft,.string fs,.bool fd] 43) = W5 at *
     generalize hG5:w8.heap.size = G5 at *
     clear hB9 hR9 hW5 hG5
     obtain ⟨o,ho⟩:∃ o,o = sv.ownBlock:=⟨_,rfl⟩
     have HOo:=Lib.hid ho
     obtain ⟨pre,hpre⟩:∃ pre,pre = S.flatMap snC:=⟨_,rfl⟩
     have HPre:=Lib.hid hpre
     obtain ⟨ns,hns⟩:∃ ns,ns = S.length:=⟨_,rfl⟩
     have HNs:=Lib.hid hns
     have HRo:Hid (W5.ownsRow w.heap.size 49 6 sv ns pre):=Lib.hid (by rw [hpre,hns];exact HT8.out.sns)
     obtain ⟨i0,z0,hi,hz0,hz1,hz2,hz3⟩:=info_sn
     have hns40:ns ≤ 40:=by rw [hns];have:=HI0.out.2.2.2.2.2.2.2.2;omega
     obtain ⟨A11,c11,hsv⟩:∃ A c,sv = .slice A ns c:=by
      rcases HRo.out.2 with ⟨e,e2⟩ | ⟨q,cap,cur,e,_⟩
      ·exact ⟨none,0,by rw [e,e2]⟩
      ·exact ⟨_,_,e⟩
     have HCk:Hid (∀ V,W5.grownBy V o → LC V F b gd p D 4 k ∧ Cel V G5 43 [.int .i64 ft,.string fs,.bool fd]):=Lib.hid (fun V hV=>⟨HT8.out.clk.kept (devF_of devBase) logF (fun j hj=>hV.block j (HT8.out.clk.lt (devF_of devBase) logF j hj) (fun e=>(HT8.out.far j hj).2.2.2 (by rw [← HOo.out,e]))),(hV.block G5 HR9.out.lt (fun e=>by
      obtain ⟨c',hc'⟩:=(own_ty HRo.out (p:=G5) (by rw [← HOo.out,e])).1
      exact ty_apart HR9.out hc' (by decide) rfl)).trans HR9.out⟩)
     subst hsv
     clear ho hpre hns
     refine wp_region_saidK 9 [149,150,151,152,153,154,155,156,157]
      [Ls.TIs (.slice A11 ns c11),Ls.TIs (.int .i64 (T.many + 1)),Ls.TIs (.pointer (some ⟨b,0,none⟩)),Ls.TIs (.int .i64 k.last),Ls.TIs (.agg #[.int .i64 ft,.string fs,.bool fd]),Ls.TIs (.bool fo),Ls.TIs (.agg #[.int .i64 (T.many + 1),.int .i64 k.last,.int .i64 ft,.string fs,.bool fd,.bool fo]),(fun v V=>∃ p,v = .slice (some ⟨p,0,none⟩) 1 1 ∧ V.heap[p]? = some (.cells #[.int .i64 (T.many + 1),.int .i64 k.last,.int .i64 ft,.string fs,.bool fd,.bool fo] 49 (0,0))),(fun v V=>V.ownsRow w.heap.size 49 6 v (ns + 1) (pre ++ [.int .i64 (T.many + 1),.int .i64 k.last,.int .i64 ft,.string fs,.bool fd,.bool fo]) ∧ (v.ownBlock = o ∨ ∃ q,v.ownBlock = some q ∧ W5.heap.size ≤ q))]
      (fun V=>V.ownsRow w.heap.size 49 6 (.slice A11 ns c11) ns pre ∧ W5.grownBy V o) (GrO o 49 pre [.int .i64 (T.many + 1),.int .i64 k.last,.int .i64 ft,.string fs,.bool fd,.bool fo]) (by kernel_rfl) (by kernel_rfl) (by kernel_rfl) (by kernel_rfl) (by kernel_rfl)
      (satK_of fun S hS v V V' h hk=>by
       simp only [List.mem_cons,List.not_mem_nil,or_false] at hS
       rcases hS with rfl | rfl | rfl | rfl | rfl | rfl | rfl | rfl | rfl
       all_goals first | exact h | (obtain ⟨p,p1,p3⟩:=h;exact ⟨p,p1,GrN.one (us:=[.int .i64 (T.many + 1),.int .i64 k.last,.int .i64 ft,.string fs,.bool fd,.bool fo]) p3 hk.n⟩) | exact ⟨hk.n.row h.1 (.inr rfl),h.2⟩)
      (fun V V' h hk=>⟨hk.n.row h.1 (.inl rfl),gb_trans h.2 hk.grown⟩) (fun V=>.inl (Below.refl _ V).drew) ⟨HRo.out,gb_below (Below.refl _ _)⟩ ?steps ?last
     case steps =>
      simp only [List.take_succ_cons,List.take_zero]
      refine ⟨?_,?_,?_,?_,?_,?_,?_,?_,?_,trivial⟩
      all_goals
       intro vs V ρ hρ hc hf hg hI hd R' hR
       have q0:=(HCk.out V hI.2).2.cell (i:=0) rfl
       have q1:=(HCk.out V hI.2).2.cell (i:=1) rfl
       have q2:=(HCk.out V hI.2).2.cell (i:=2) rfl
       have HLv:=Lib.hid (HLa.out V (HCk.out V hI.2).1)
       have HR:=Lib.hid hR
       have HI:=Lib.hid hI
       simp [depsOf,Region.binds,satK,Ls.TIs] at hd
       clear hR hI
      case refine_4 =>
       go_simp
       refine HLv.out.mono ?_
       rintro e W' ⟨rfl,e2⟩
       exact ⟨_,rfl,HR.out _ _ (by simp [satK,Ls.TIs]) (.inl (by rw [e2];exact Below.refl _ _))⟩
      case refine_8 =>
       go_simp
       exact HR.out _ _ ⟨V.heap.size,rfl,heap_alloc_new V _⟩ (.inl ((Below.refl _ _).alloc (Nat.le_refl _) _))
      case refine_9 =>
       have hd1:vs 0 = .slice A11 ns c11:=by first | exact hd.1 | exact hd.2 | exact hd.2.1 | exact hd.1.1
       have hd2:∃ p,vs 7 = .slice (some ⟨p,0,none⟩) 1 1 ∧ V.heap[p]? = some (.cells #[.int .i64 (T.many + 1),.int .i64 k.last,.int .i64 ft,.string fs,.bool fd,.bool fo] 49 (0,0)):=by first | exact hd.2.1 | exact hd.2 | exact hd.1 | exact hd.2.2
       obtain ⟨p,p1,p3⟩:=hd2
       obtain ⟨v',w',hr,h2,h3,h4⟩:=run_growO (P:=Tryz.prog) (W:=V) (H:=w.heap.size) (sz:=6) (bytes:=56) (n:=ns) (m:=1) (c:=1) (us:=[.int .i64 (T.many + 1),.int .i64 k.last,.int .i64 ft,.string fs,.bool fd,.bool fo]) (A:=some ⟨p,0,none⟩) (t:=36) (ty:=36) Tryz.underlying36 hi hz0 hz2 hz3 hz1 (by decide) HI.out.1 rfl (fun e=>by cases e) (fun ad e j y hy=>by cases e;rw [addr_head];exact (show Cel V p 49 [.int .i64 (T.many + 1),.int .i64 k.last,.int .i64 ft,.string fs,.bool fd,.bool fo] from p3).cell hy) (fun y hy=>by simp at hy;rcases hy with rfl | rfl | rfl | rfl | rfl | rfl <;> rfl) (by unfold maxLen;omega) (by omega) (Nat.le_trans HT8.out.bel.size HI.out.2.size)
       have e0:ρ (.tmp 149) = .slice A11 ns c11:=by rw [hρ];simp [pick,hd1]
       have e2:ρ (.tmp 156) = .slice (some ⟨p,0,none⟩) 1 1:=by rw [hρ];simp [pick,p1]
       rw [if_pos (by simp [Region.wanted])]
       unfold execOp
       simp only [resolve,invoke,builtin,Sem.run_bind,Sem.run_pure,Result.andThen_ok,List.map_toArray,List.map_cons,List.map_nil,e0,e2,hr,floatUpon]
       rw [← HOo.out] at h3 h4
       exact HR.out _ _ ⟨h2,h4.imp id (fun ⟨q,q1,q2⟩=>⟨q,q1,Nat.le_trans HI.out.2.size q2⟩)⟩ h3
      all_goals
       go_simp
       first
        | exact HR.out _ _ (by simp [satK,Ls.TIs]) (.inl (Below.refl _ _))
        | trace_state
     case last =>
      intro vs w9 hI hg
      have g8:=hg 8 (by omega)
      simp only [satK,List.getD_cons_succ,List.getD_cons_zero] at g8
      simp only [List.take_succ_cons,List.take_zero,List.drop_succ_cons,List.drop_zero,putAll,Act.put,List.setIfInBounds_toArray,List.set_cons_succ,List.set_cons_zero,Nat.zero_add,Nat.reduceAdd]
      generalize vs 8 = sv9 at g8 ⊢
      obtain ⟨hr8,hb8⟩:=g8
      obtain ⟨b9,hb9'⟩:∃ b9,b9 = b:=⟨_,rfl⟩
      obtain ⟨lv9,hlv9⟩:∃ lv9,lv9 = Value.slice A10 L.length c10:=⟨_,rfl⟩
      have HE:Hid (TE w w9 gd bt now b9 lv9 sv9):=Lib.hid (by
       rw [hb9',hlv9]
       obtain ⟨i1,i2,i3,i4,i5,i6,i7,i8,i9⟩:=HI0.out
       have hk2:=HKp.out.2
       rw [HKp.out.1,HFv.out] at hk2
       simp only at hk2
       refine ⟨F,p,D,k,v6,⟨T.long,T.many + 1,lv T.L (now:Int) ++ [⟨T.many + 1,k.last,(now:Int) + T.long⟩]⟩,L,S ++ [⟨T.many + 1,k.last,⟨ft,fs,fd⟩,fo⟩],N,HT8.out.more (by rw [← HOo.out];exact hI.2) (by
        rw [List.length_append,List.flatMap_append,← HNs.out,← HPre.out]
        simpa [snC] using hr8) (by rw [← HOo.out];exact hb8),i1,by omega,by omega,i4,hk2.1,by have:=hk2.2;show (lv T.L (now:Int) ++ [_]).length ≤ _;omega,by show T.many + 1 ≤ _;omega,by omega,by rw [List.length_append,List.length_singleton];omega⟩)
      rw [← hlv9] at *
      subst hb9'
      clear hg hI hr8 hb8 HKp HLa HI0 HT0 HV10 HT6 HFv HT8 HR9 HOo HPre HNs HRo HCk hi hz0 hz1 hz2 hz3
      obtain ⟨F9,p9,D9,k9,v9,T9,L9,S9,N9,ht9,hw9,q1,q2,q3,hk9,q4,q5,q6,q7⟩:=HE.out
      obtain ⟨A10,c10,rfl,hv10,hc10,-,hn10⟩:=vrs_own ht9.row rfl
      obtain ⟨A11,c11,rfl⟩:∃ A c,sv9 = .slice A S9.length c:=by
       rcases ht9.sns.2 with ⟨e,e2⟩ | ⟨q,cap,cur,e,_⟩
       ·exact ⟨none,0,by rw [e,e2]⟩
       ·exact ⟨_,_,e⟩
      have HT9:=Lib.hid ht9
      have HK9:=Lib.hid hk9
      have HV10:=Lib.hid (And.intro hv10 hc10)
      have HN9:=Lib.hid (show TI w w9 gd bt (now + 1) b9 (.slice A10 L9.length c10) (.slice A11 S9.length c11) from ⟨F9,p9,D9,k9,v9,T9,L9,S9,N9,ht9,hw9,q1,by omega,q3,by have:=hk9.tick;simpa using this,q4,by omega,q6,q7⟩)
      have q8:L9.length ≤ 41:=by omega
      have q9:(S9.length:Int) ≤ 41:=by omega
      clear ht9 hk9 hv10 hc10 hw9 q1 q2 q3 q4 q5 q6 q7 hn10 HE
      go_wp2_with fail
      go_loopw [183] (fun iv wr=>∃ i:Nat,i ≤ S9.length ∧ iv = .int .i64 (i:Int) ∧ Hid (Below w9.heap.size w9 wr)) (fun iv _=>S9.length - (RowKit.intOf iv).toNat)
      case atStart=>exact ⟨0,Nat.zero_le _,rfl,Lib.hid (Below.refl _ _)⟩
      case round =>
       obtain ⟨i,hi,rfl,hb⟩:=hrel
       by_cases hlt:i < S9.length
       ·obtain ⟨g,rfl,x0,x1,x2,x3,x4,x5⟩:=snap_cells (st_keep HT9.out.sns hb.out) hlt
        have r1:(i:Int) < (S9.length:Int):=by omega
        have hmem:S9[i] ∈ S9:=List.getElem_mem hlt
        generalize S9[i] = X at x0 x1 x2 x3 x4 x5 hmem
        obtain ⟨xn,xt,⟨vt,vs,vd⟩,xo⟩:=X
        simp only at x0 x1 x2 x3 x4 x5
        have HB:=hb
        have hB0:Below wr.heap.size wr (wr.alloc (.cells #[.int .i64 xn,.int .i64 xt,.int .i64 vt,.string vs,.bool vd,.bool xo] 49)):=(Below.refl _ wr).alloc (Nat.le_refl _) _
        have hR0:Cel (wr.alloc (.cells #[.int .i64 xn,.int .i64 xt,.int .i64 vt,.string vs,.bool vd,.bool xo] 49)) wr.heap.size 49 [.int .i64 xn,.int .i64 xt,.int .i64 vt,.string vs,.bool vd,.bool xo]:=(blk1 wr _).2
        have HB1:=Lib.hid (HB.out.trans (hB0.mono HB.out.size))
        have HCk:=Lib.hid (fun V (hV:Below w9.heap.size w9 V)=>Ll.lcheck_any (HT9.out.below hV).tab HK9.out.ok (now:Int) xn)
        have HAt:=Lib.hid (fun V (hV:Below w9.heap.size w9 V)=>Ch.lat_any A10 c10 L9 xt V (HV10.out.1.below hV) (by omega) (vr_rng HK9.out.ch) HV10.out.2)
        have HLk:=Lib.hid (fun (h0:(checkB T9 (now:Int) xn).2 = 0)=>HK9.out.look hmem h0)
        have HEq:=Lib.hid (text_eq vs)
        clear hb hmem
        go_upto_region 41 with fail
        generalize hG:wr.heap.size = G at *
        generalize wr.alloc (.cells #[.int .i64 xn,.int .i64 xt,.int .i64 vt,.string vs,.bool vd,.bool xo] 49) = W1 at *
        have HR0:=Lib.hid hR0
        have y0:=hR0.cell (i:=0) rfl
        clear hR0 hB0 x0 x1 x2 x3 x4 x5 hG HB
        go_wp2_with fail
        refine (HCk.out _ HB1.out).mono ?_
        rintro e w10 ⟨rfl,hb10⟩
        have HB2:=Lib.hid (HB1.out.trans (hb10.mono HB1.out.size))
        have HR2:=Lib.hid (HR0.out.below hb10)
        by_cases h0:(checkB T9 (now:Int) xn).2 = 0
        ·have hlk:=HLk.out h0
         rw [h0]
         generalize (checkB T9 (now:Int) xn).1 = z1
         have hat:=HAt.out _ HB2.out
         rw [hlk] at hat
         have HAt2:=Lib.hid hat
         have y0:=HR2.out.cell (i:=0) rfl
         have y1:=HR2.out.cell (i:=1) rfl
         clear hb10 h0 hlk hat HCk HAt HLk HR0
         unfold vcs at HAt2
         simp only at HAt2
         go_wp2_with fail
         refine HAt2.out.mono ?_
         rintro e w11 ⟨rfl,hb11⟩
         have HB3:=Lib.hid (HB2.out.trans (hb11.mono HB2.out.size))
         have HR3:=Lib.hid (HR2.out.below hb11)
         have hB4:Below w11.heap.size w11 (w11.alloc (.cells #[.int .i64 vt,.string vs,.bool vd] 43)):=(Below.refl _ w11).alloc (Nat.le_refl _) _
         have hR4:Cel (w11.alloc (.cells #[.int .i64 vt,.string vs,.bool vd] 43)) w11.heap.size 43 [.int .i64 vt,.string vs,.bool vd]:=(blk1 w11 _).2
         have HR5:=Lib.hid (HR3.out.below hB4)
         have HB5:=Lib.hid (HB3.out.trans (hB4.mono HB3.out.size))
         have hR4':=Lib.hid hR4
         clear hb11 HAt2 HR2 y0 y1
         go_upto_region 44 with fail
         generalize w11.alloc (.cells #[.int .i64 vt,.string vs,.bool vd] 43) = W5 at *
         generalize w11.heap.size = G5 at *
         have z0:=hR4'.out.cell (i:=0) rfl
         have z1:=hR4'.out.cell (i:=1) rfl
         have z2:=hR4'.out.cell (i:=2) rfl
         have y2:=HR5.out.cell (i:=2) rfl
         have y3:=HR5.out.cell (i:=3) rfl
         have y4:=HR5.out.cell (i:=4) rfl
         have y5:=HR5.out.cell (i:=5) rfl
         have he:=HEq.out
         clear hB4 hR4
         go_wp2_with fail
         go_roundw
         case rel=>exact ⟨i + 1,by omega,by go_num,HB5⟩
         case measure=>simp [RowKit.intOf];omega
        ·have z:((checkB T9 (now:Int) xn).2 != 0) = true:=by simpa using h0
         generalize (checkB T9 (now:Int) xn).2 = ec at z ⊢
         generalize (checkB T9 (now:Int) xn).1 = z1
         clear hb10 h0 HCk HAt HLk HR0 HR2
         go_wp2_with fail
         go_roundw
         case rel=>exact ⟨i + 1,by omega,by go_num,HB2⟩
         case measure=>simp [RowKit.intOf];omega
       ·obtain rfl:i = S9.length:=by omega
        have HN10:Hid (TI w wr gd bt (now + 1) b9 (.slice A10 L9.length c10) (.slice A11 S9.length c11)):=Lib.hid (by
         obtain ⟨F9,p9,D9,k9,v9,T9,L9,S9,N9,t0,t1⟩:=HN9.out
         exact ⟨F9,p9,D9,k9,v9,T9,L9,S9,N9,t0.below hb.out,t1⟩)
        clear hb HN9 HT9 HK9 HV10
        go_wp2_with fail
        go_roundw
        case rel=>exact ⟨now + 1,b9,_,_,by omega,by omega,rfl,by go_num,rfl,rfl,HN10⟩
        case measure=>simp [RowKit.intOf];omega
    ·
     obtain ⟨low,hl1,hl2,hl3,hl4⟩:=hkp.sweep (by unfold okT;omega) (by have:=hkp.last0;unfold okS;omega)
     have HLa:=Lib.hid (Ck.llast_any ht.clk)
     have HLo:=Lib.hid (llow_any ht.tab hkp.ok (now:Int) k.last)
     rw [hl1] at HLo
     have HI0:=Lib.hid (And.intro hw (And.intro hN (And.intro hka (And.intro hkb (And.intro hkp (And.intro hT1 (And.intro hT2 (And.intro hL1 hS1))))))))
     have HT0:=Lib.hid ht
     have HSw:=Lib.hid (And.intro hl3 hl4)
     obtain ⟨A10,c10,rfl,hv10,hc10,-,hn10⟩:=vrs_own ht.row rfl
     have HSp:=Lib.hid (fun V (hV:Below wr.heap.size wr V)=>Ch.lsweep_any A10 c10 L low V (hv10.below hV) (by omega) (vr_rng hkp.ch) hn10 hc10)
     rw [hl2] at HSp
     clear ht hw hN hka hkb hkp hT1 hT2 hL1 hS1 hv10 hc10 hn10 hl1 hl2 hl3 hl4
     go_wp2_with fail
     refine HLa.out.mono ?_
     rintro e w5 ⟨rfl,e2⟩
     subst e2
     go_wp2_with fail
     refine HLo.out.mono ?_
     rintro e w6 ⟨rfl,hb6⟩
     have HB6:=Lib.hid hb6
     clear hb6 HLo HLa
     go_wp2_with fail
     refine (HSp.out _ HB6.out).mono ?_
     rintro e w9 ⟨lv9,rfl,hr9,hb9⟩
     obtain ⟨b9,hb9'⟩:∃ b9,b9 = b:=⟨_,rfl⟩
     obtain ⟨sv9,hsv9⟩:∃ sv9,sv9 = sv:=⟨_,rfl⟩
     have HE:Hid (TE w w9 gd bt now b9 lv9 sv9):=Lib.hid (by
      rw [hb9',hsv9]
      obtain ⟨i1,i2,i3,i4,i5,i6,i7,i8,i9⟩:=HI0.out
      refine ⟨F,p,D,k,v,T,sweepL L low,S,N,(HT0.out.below HB6.out).chain hb9 hr9,i1,by omega,by omega,i4,HSw.out.1,by omega,by omega,by have:=HSw.out.2;omega,by omega⟩)
     subst hb9' hsv9
     clear hr9 hb9 HSp HT0 HI0 HSw HB6
     obtain ⟨F9,p9,D9,k9,v9,T9,L9,S9,N9,ht9,hw9,q1,q2,q3,hk9,q4,q5,q6,q7⟩:=HE.out
     obtain ⟨A10,c10,rfl,hv10,hc10,-,hn10⟩:=vrs_own ht9.row rfl
     obtain ⟨A11,c11,rfl⟩:∃ A c,sv9 = .slice A S9.length c:=by
      rcases ht9.sns.2 with ⟨e,e2⟩ | ⟨q,cap,cur,e,_⟩
      ·exact ⟨none,0,by rw [e,e2]⟩
      ·exact ⟨_,_,e⟩
     have HT9:=Lib.hid ht9
     have HK9:=Lib.hid hk9
     have HV10:=Lib.hid (And.intro hv10 hc10)
     have HN9:=Lib.hid (show TI w w9 gd bt (now + 1) b9 (.slice A10 L9.length c10) (.slice A11 S9.length c11) from ⟨F9,p9,D9,k9,v9,T9,L9,S9,N9,ht9,hw9,q1,by omega,q3,by have:=hk9.tick;simpa using this,q4,by omega,q6,q7⟩)
     have q8:L9.length ≤ 41:=by omega
     have q9:(S9.length:Int) ≤ 41:=by omega
     clear ht9 hk9 hv10 hc10 hw9 q1 q2 q3 q4 q5 q6 q7 hn10 HE
     go_wp2_with fail
     go_loopw [183] (fun iv wr=>∃ i:Nat,i ≤ S9.length ∧ iv = .int .i64 (i:Int) ∧ Hid (Below w9.heap.size w9 wr)) (fun iv _=>S9.length - (RowKit.intOf iv).toNat)
     case atStart=>exact ⟨0,Nat.zero_le _,rfl,Lib.hid (Below.refl _ _)⟩
     case round =>
      obtain ⟨i,hi,rfl,hb⟩:=hrel
      by_cases hlt:i < S9.length
      ·obtain ⟨g,rfl,x0,x1,x2,x3,x4,x5⟩:=snap_cells (st_keep HT9.out.sns hb.out) hlt
       have r1:(i:Int) < (S9.length:Int):=by omega
       have hmem:S9[i] ∈ S9:=List.getElem_mem hlt
       generalize S9[i] = X at x0 x1 x2 x3 x4 x5 hmem
       obtain ⟨xn,xt,⟨vt,vs,vd⟩,xo⟩:=X
       simp only at x0 x1 x2 x3 x4 x5
       have HB:=hb
       have hB0:Below wr.heap.size wr (wr.alloc (.cells #[.int .i64 xn,.int .i64 xt,.int .i64 vt,.string vs,.bool vd,.bool xo] 49)):=(Below.refl _ wr).alloc (Nat.le_refl _) _
       have hR0:Cel (wr.alloc (.cells #[.int .i64 xn,.int .i64 xt,.int .i64 vt,.string vs,.bool vd,.bool xo] 49)) wr.heap.size 49 [.int .i64 xn,.int .i64 xt,.int .i64 vt,.string vs,.bool vd,.bool xo]:=(blk1 wr _).2
       have HB1:=Lib.hid (HB.out.trans (hB0.mono HB.out.size))
       have HCk:=Lib.hid (fun V (hV:Below w9.heap.size w9 V)=>Ll.lcheck_any (HT9.out.below hV).tab HK9.out.ok (now:Int) xn)
       have HAt:=Lib.hid (fun V (hV:Below w9.heap.size w9 V)=>Ch.lat_any A10 c10 L9 xt V (HV10.out.1.below hV) (by omega) (vr_rng HK9.out.ch) HV10.out.2)
       have HLk:=Lib.hid (fun (h0:(checkB T9 (now:Int) xn).2 = 0)=>HK9.out.look hmem h0)
       have HEq:=Lib.hid (text_eq vs)
       clear hb hmem
       go_upto_region 41 with fail
       generalize hG:wr.heap.size = G at *
       generalize wr.alloc (.cells #[.int .i64 xn,.int .i64 xt,.int .i64 vt,.string vs,.bool vd,.bool xo] 49) = W1 at *
       have HR0:=Lib.hid hR0
       have y0:=hR0.cell (i:=0) rfl
       clear hR0 hB0 x0 x1 x2 x3 x4 x5 hG HB
       go_wp2_with fail
       refine (HCk.out _ HB1.out).mono ?_
       rintro e w10 ⟨rfl,hb10⟩
       have HB2:=Lib.hid (HB1.out.trans (hb10.mono HB1.out.size))
       have HR2:=Lib.hid (HR0.out.below hb10)
       by_cases h0:(checkB T9 (now:Int) xn).2 = 0
       ·have hlk:=HLk.out h0
        rw [h0]
        generalize (checkB T9 (now:Int) xn).1 = z1
        have hat:=HAt.out _ HB2.out
        rw [hlk] at hat
        have HAt2:=Lib.hid hat
        have y0:=HR2.out.cell (i:=0) rfl
        have y1:=HR2.out.cell (i:=1) rfl
        clear hb10 h0 hlk hat HCk HAt HLk HR0
        unfold vcs at HAt2
        simp only at HAt2
        go_wp2_with fail
        refine HAt2.out.mono ?_
        rintro e w11 ⟨rfl,hb11⟩
        have HB3:=Lib.hid (HB2.out.trans (hb11.mono HB2.out.size))
        have HR3:=Lib.hid (HR2.out.below hb11)
        have hB4:Below w11.heap.size w11 (w11.alloc (.cells #[.int .i64 vt,.string vs,.bool vd] 43)):=(Below.refl _ w11).alloc (Nat.le_refl _) _
        have hR4:Cel (w11.alloc (.cells #[.int .i64 vt,.string vs,.bool vd] 43)) w11.heap.size 43 [.int .i64 vt,.string vs,.bool vd]:=(blk1 w11 _).2
        have HR5:=Lib.hid (HR3.out.below hB4)
        have HB5:=Lib.hid (HB3.out.trans (hB4.mono HB3.out.size))
        have hR4':=Lib.hid hR4
        clear hb11 HAt2 HR2 y0 y1
        go_upto_region 44 with fail
        generalize w11.alloc (.cells #[.int .i64 vt,.string vs,.bool vd] 43) = W5 at *
        generalize w11.heap.size = G5 at *
        have z0:=hR4'.out.cell (i:=0) rfl
        have z1:=hR4'.out.cell (i:=1) rfl
        have z2:=hR4'.out.cell (i:=2) rfl
        have y2:=HR5.out.cell (i:=2) rfl
        have y3:=HR5.out.cell (i:=3) rfl
        have y4:=HR5.out.cell (i:=4) rfl
        have y5:=HR5.out.cell (i:=5) rfl
        have he:=HEq.out
        clear hB4 hR4
        go_wp2_with fail
        go_roundw
        case rel=>exact ⟨i + 1,by omega,by go_num,HB5⟩
        case measure=>simp [RowKit.intOf];omega
       ·have z:((checkB T9 (now:Int) xn).2 != 0) = true:=by simpa using h0
        generalize (checkB T9 (now:Int) xn).2 = ec at z ⊢
        generalize (checkB T9 (now:Int) xn).1 = z1
        clear hb10 h0 HCk HAt HLk HR0 HR2
        go_wp2_with fail
        go_roundw
        case rel=>exact ⟨i + 1,by omega,by go_num,HB2⟩
        case measure=>simp [RowKit.intOf];omega
      ·obtain rfl:i = S9.length:=by omega
       have HN10:Hid (TI w wr gd bt (now + 1) b9 (.slice A10 L9.length c10) (.slice A11 S9.length c11)):=Lib.hid (by
        obtain ⟨F9,p9,D9,k9,v9,T9,L9,S9,N9,t0,t1⟩:=HN9.out
        exact ⟨F9,p9,D9,k9,v9,T9,L9,S9,N9,t0.below hb.out,t1⟩)
       clear hb HN9 HT9 HK9 HV10
       go_wp2_with fail
       go_roundw
       case rel=>exact ⟨now + 1,b9,_,_,by omega,by omega,rfl,by go_num,rfl,rfl,HN10⟩
       case measure=>simp [RowKit.intOf];omega
    ·
     obtain ⟨l9,ho9,hw9⟩:=crash_wi (blk:=4) hw (by omega) (by omega) (by omega) [(now:Int)]
     have hB4:Below wr.heap.size wr (wr.alloc (.cells #[.int .i64 (now:Int)] 3)):=(Below.refl _ wr).alloc (Nat.le_refl _) _
     have HT0:=Lib.hid ht
     have HT4:=Lib.hid (ht.below hB4)
     have HC:=Lib.hid (Side.crash (devF_of devBase) (ht.below hB4).clk.sd (some ⟨wr.heap.size,0,none⟩) 1 [(now:Int)] (IntsAt.blk (t:=3) (by exact heap_alloc_new wr _)) (fun _ a ha hf=>by
      obtain rfl:=Option.some.inj ha
      have:=ht.clk.lt (devF_of devBase) logF wr.heap.size (.inl hf)
      omega) (by rw [List.length_singleton];decide) (fun x hx=>by rw [List.mem_singleton.1 hx];omega))
     have HI0:=Lib.hid (And.intro hN (And.intro hka (And.intro hkb (And.intro hkp (And.intro hT1 (And.intro hT2 (And.intro hL1 (And.intro hS1 hw.ck.lb))))))))
     have HO9:=Lib.hid (And.intro ho9 hw9)
     clear ht hw hN hka hkb hkp hT1 hT2 hL1 hS1 ho9 hw9 hB4
     go_wp2_with fail
     refine HC.out.mono ?_
     rintro e w6 ⟨rfl,F6,hs6,hf6⟩
     have R7:=Lib.hid (Ck.lopen_any (w:=w6) (F:=F6) (g:=gd) (D:=crD D [(now:Int)]) none hs6 4)
     have HF6:=Lib.hid hf6
     clear hs6 hf6 HC
     go_wp2_with fail
     refine R7.out.mono ?_
     rintro e w9 hp
     obtain ⟨F7,b9,p7,rfl,hc7,hf7⟩:=opn_some hp HO9.out.1
     obtain ⟨lv9,hlv9⟩:∃ lv9,lv9 = lv:=⟨_,rfl⟩
     obtain ⟨sv9,hsv9⟩:∃ sv9,sv9 = sv:=⟨_,rfl⟩
     have HE:Hid (TE w w9 gd bt now b9 lv9 sv9):=Lib.hid (by
      rw [hlv9,hsv9]
      obtain ⟨i2,i3,i4,i5,i6,i7,i8,i9,i10⟩:=HI0.out
      exact ⟨F7,p7,_,_,v,T,L,S,N,HT4.out.clock hc7 (HF6.out.trans hf7) (fun j hj=>.inl hj),HO9.out.2,by omega,by show k.bound ≤ _;omega,by show k.bound ≤ k.bound + 4;omega,i5.later i10,by omega,by omega,by omega,by omega⟩)
     subst hlv9 hsv9
     clear hp hc7 hf7 R7 HT0 HT4 HI0 HO9 HF6
     obtain ⟨F9,p9,D9,k9,v9,T9,L9,S9,N9,ht9,hw9,q1,q2,q3,hk9,q4,q5,q6,q7⟩:=HE.out
     obtain ⟨A10,c10,rfl,hv10,hc10,-,hn10⟩:=vrs_own ht9.row rfl
     obtain ⟨A11,c11,rfl⟩:∃ A c,sv9 = .slice A S9.length c:=by
      rcases ht9.sns.2 with ⟨e,e2⟩ | ⟨q,cap,cur,e,_⟩
      ·exact ⟨none,0,by rw [e,e2]⟩
      ·exact ⟨_,_,e⟩
     have HT9:=Lib.hid ht9
     have HK9:=Lib.hid hk9
     have HV10:=Lib.hid (And.intro hv10 hc10)
     have HN9:=Lib.hid (show TI w w9 gd bt (now + 1) b9 (.slice A10 L9.length c10) (.slice A11 S9.length c11) from ⟨F9,p9,D9,k9,v9,T9,L9,S9,N9,ht9,hw9,q1,by omega,q3,by have:=hk9.tick;simpa using this,q4,by omega,q6,q7⟩)
     have q8:L9.length ≤ 41:=by omega
     have q9:(S9.length:Int) ≤ 41:=by omega
     clear ht9 hk9 hv10 hc10 hw9 q1 q2 q3 q4 q5 q6 q7 hn10 HE
     go_wp2_with fail
     go_loopw [183] (fun iv wr=>∃ i:Nat,i ≤ S9.length ∧ iv = .int .i64 (i:Int) ∧ Hid (Below w9.heap.size w9 wr)) (fun iv _=>S9.length - (RowKit.intOf iv).toNat)
     case atStart=>exact ⟨0,Nat.zero_le _,rfl,Lib.hid (Below.refl _ _)⟩
     case round =>
      obtain ⟨i,hi,rfl,hb⟩:=hrel
      by_cases hlt:i < S9.length
      ·obtain ⟨g,rfl,x0,x1,x2,x3,x4,x5⟩:=snap_cells (st_keep HT9.out.sns hb.out) hlt
       have r1:(i:Int) < (S9.length:Int):=by omega
       have hmem:S9[i] ∈ S9:=List.getElem_mem hlt
       generalize S9[i] = X at x0 x1 x2 x3 x4 x5 hmem
       obtain ⟨xn,xt,⟨vt,vs,vd⟩,xo⟩:=X
       simp only at x0 x1 x2 x3 x4 x5
       have HB:=hb
       have hB0:Below wr.heap.size wr (wr.alloc (.cells #[.int .i64 xn,.int .i64 xt,.int .i64 vt,.string vs,.bool vd,.bool xo] 49)):=(Below.refl _ wr).alloc (Nat.le_refl _) _
       have hR0:Cel (wr.alloc (.cells #[.int .i64 xn,.int .i64 xt,.int .i64 vt,.string vs,.bool vd,.bool xo] 49)) wr.heap.size 49 [.int .i64 xn,.int .i64 xt,.int .i64 vt,.string vs,.bool vd,.bool xo]:=(blk1 wr _).2
       have HB1:=Lib.hid (HB.out.trans (hB0.mono HB.out.size))
       have HCk:=Lib.hid (fun V (hV:Below w9.heap.size w9 V)=>Ll.lcheck_any (HT9.out.below hV).tab HK9.out.ok (now:Int) xn)
       have HAt:=Lib.hid (fun V (hV:Below w9.heap.size w9 V)=>Ch.lat_any A10 c10 L9 xt V (HV10.out.1.below hV) (by omega) (vr_rng HK9.out.ch) HV10.out.2)
       have HLk:=Lib.hid (fun (h0:(checkB T9 (now:Int) xn).2 = 0)=>HK9.out.look hmem h0)
       have HEq:=Lib.hid (text_eq vs)
       clear hb hmem
       go_upto_region 41 with fail
       generalize hG:wr.heap.size = G at *
       generalize wr.alloc (.cells #[.int .i64 xn,.int .i64 xt,.int .i64 vt,.string vs,.bool vd,.bool xo] 49) = W1 at *
       have HR0:=Lib.hid hR0
       have y0:=hR0.cell (i:=0) rfl
       clear hR0 hB0 x0 x1 x2 x3 x4 x5 hG HB
       go_wp2_with fail
       refine (HCk.out _ HB1.out).mono ?_
       rintro e w10 ⟨rfl,hb10⟩
       have HB2:=Lib.hid (HB1.out.trans (hb10.mono HB1.out.size))
       have HR2:=Lib.hid (HR0.out.below hb10)
       by_cases h0:(checkB T9 (now:Int) xn).2 = 0
       ·have hlk:=HLk.out h0
        rw [h0]
        generalize (checkB T9 (now:Int) xn).1 = z1
        have hat:=HAt.out _ HB2.out
        rw [hlk] at hat
        have HAt2:=Lib.hid hat
        have y0:=HR2.out.cell (i:=0) rfl
        have y1:=HR2.out.cell (i:=1) rfl
        clear hb10 h0 hlk hat HCk HAt HLk HR0
        unfold vcs at HAt2
        simp only at HAt2
        go_wp2_with fail
        refine HAt2.out.mono ?_
        rintro e w11 ⟨rfl,hb11⟩
        have HB3:=Lib.hid (HB2.out.trans (hb11.mono HB2.out.size))
        have HR3:=Lib.hid (HR2.out.below hb11)
        have hB4:Below w11.heap.size w11 (w11.alloc (.cells #[.int .i64 vt,.string vs,.bool vd] 43)):=(Below.refl _ w11).alloc (Nat.le_refl _) _
        have hR4:Cel (w11.alloc (.cells #[.int .i64 vt,.string vs,.bool vd] 43)) w11.heap.size 43 [.int .i64 vt,.string vs,.bool vd]:=(blk1 w11 _).2
        have HR5:=Lib.hid (HR3.out.below hB4)
        have HB5:=Lib.hid (HB3.out.trans (hB4.mono HB3.out.size))
        have hR4':=Lib.hid hR4
        clear hb11 HAt2 HR2 y0 y1
        go_upto_region 44 with fail
        generalize w11.alloc (.cells #[.int .i64 vt,.string vs,.bool vd] 43) = W5 at *
        generalize w11.heap.size = G5 at *
        have z0:=hR4'.out.cell (i:=0) rfl
        have z1:=hR4'.out.cell (i:=1) rfl
        have z2:=hR4'.out.cell (i:=2) rfl
        have y2:=HR5.out.cell (i:=2) rfl
        have y3:=HR5.out.cell (i:=3) rfl
        have y4:=HR5.out.cell (i:=4) rfl
        have y5:=HR5.out.cell (i:=5) rfl
        have he:=HEq.out
        clear hB4 hR4
        go_wp2_with fail
        go_roundw
        case rel=>exact ⟨i + 1,by omega,by go_num,HB5⟩
        case measure=>simp [RowKit.intOf];omega
       ·have z:((checkB T9 (now:Int) xn).2 != 0) = true:=by simpa using h0
        generalize (checkB T9 (now:Int) xn).2 = ec at z ⊢
        generalize (checkB T9 (now:Int) xn).1 = z1
        clear hb10 h0 HCk HAt HLk HR0 HR2
        go_wp2_with fail
        go_roundw
        case rel=>exact ⟨i + 1,by omega,by go_num,HB2⟩
        case measure=>simp [RowKit.intOf];omega
      ·obtain rfl:i = S9.length:=by omega
       have HN10:Hid (TI w wr gd bt (now + 1) b9 (.slice A10 L9.length c10) (.slice A11 S9.length c11)):=Lib.hid (by
        obtain ⟨F9,p9,D9,k9,v9,T9,L9,S9,N9,t0,t1⟩:=HN9.out
        exact ⟨F9,p9,D9,k9,v9,T9,L9,S9,N9,t0.below hb.out,t1⟩)
       clear hb HN9 HT9 HK9 HV10
       go_wp2_with fail
       go_roundw
       case rel=>exact ⟨now + 1,b9,_,_,by omega,by omega,rfl,by go_num,rfl,rfl,HN10⟩
       case measure=>simp [RowKit.intOf];omega
   ·obtain rfl:now = 40:=by omega
    have HB9:Hid (Below w.heap.size w wr):=Lib.hid (by obtain ⟨F,p,D,k,v,T,L,S,N,ht,-⟩:=hti.out;exact ht.bel)
    clear hti
    have r1:(40:Int) < (l.length:Int):=by omega
    go_wp2_with fail
    go_ret
    exact ⟨rfl,HB9.out⟩
  ·have r1:(l.length:Int) ≤ (now:Int):=by omega
   have HB9:Hid (Below w.heap.size w wr):=Lib.hid (by obtain ⟨F,p,D,k,v,T,L,S,N,ht,-⟩:=hti.out;exact ht.bel)
   clear hti
   go_wp2_with fail
   go_ret
   exact ⟨rfl,HB9.out⟩
end Tp
end Go.Proofs.YtlfkhlfkckfbpaaGreat
