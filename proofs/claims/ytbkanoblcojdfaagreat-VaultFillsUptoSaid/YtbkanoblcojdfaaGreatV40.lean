/- Parts of the proof, joined: ShL23; their conditions stand with each. -/
import Derived.Test.YtbkanoblcojdfaaGreatV39

set_option maxRecDepth 20000
set_option maxHeartbeats 8000000
namespace Go.Proofs.YtbkanoblcojdfaaGreat
namespace Sh
open Go.RowKit Bk Ch Lt Rc Tr
attribute [local go_sem ↓] Go.wp_at_zero Go.wp_at_succ
attribute [local go_sem] floatUpon pick
def versL (x:Kc):List Rec:=x.l.map (verR x.name)
def bareI (r:Rec):RI:=⟨r,none,none,0,0⟩
theorem bare_new (X:Nat) (r:Rec):NewR X (bareI r):=⟨fun _ ad e=>(by cases e),fun _ ad e=>(by cases e)⟩
theorem bareI_val (V:World) {r:Rec} (h:RecOk r) (hk:r.keys = []) (hw:r.ws = []):RecVal V (bareI r).A (bareI r).B (bareI r).c (bareI r).d (bareI r).l :=
 ⟨fun hp=>absurd hp (by show ¬ 0 < r.keys.length;rw [hk];simp),fun hp=>absurd hp (by show ¬ 0 < r.ws.length;rw [hw];simp),⟨h.rng,by show r.keys.length ≤ 0;rw [hk];simp,by show r.ws.length ≤ 0;rw [hw];simp,Nat.zero_le _,Nat.zero_le _⟩,fun _=>⟨hk,rfl⟩,fun _=>⟨hw,rfl⟩⟩
theorem grow_row {w1 w2:World} {v v':Value} {A:Option Addr} {cs:List Value} {o:Obj} (h:RowF w1 (fun k=>v.ownBlock = some k) A cs) (hg:(w1.alloc o).grownBy w2 v.ownBlock) (hat:v'.ownBlock = v.ownBlock ∨ v'.ownBlock = some (w1.heap.size + 1)):RowF w2 (fun k=>v'.ownBlock = some k) A cs :=
 (h.below ((Below.refl _ w1).alloc (Nat.le_refl _) o)).both ⟨hg.size,fun k hk hn=>hg.block k hk (fun e=>hn e.symm)⟩ (fun k hk=>by
  rcases hat with e | e
  ·exact .inl (by rw [← e];exact hk)
  ·rw [e] at hk
   have hsz:(w1.alloc o).heap.size = w1.heap.size + 1:=Array.size_push ..
   exact .inr (by rw [← Option.some.inj hk,hsz];exact Nat.le_refl _))
theorem grow_below {W w1 w2:World} {v:Value} {X:List RI} {o:Obj} (hb:Below W.heap.size W w1) (ho:OutL W w1 v X) (hg:(w1.alloc o).grownBy w2 v.ownBlock):Below W.heap.size W w2 :=
 (hb.trans (((Below.refl _ w1).alloc (Nat.le_refl _) o).mono hb.size)).grown hg (by have:=hb.size;have h2:(w1.alloc o).heap.size = w1.heap.size + 1:=Array.size_push ..;omega) (fun k hk=>(ho.row.lt k hk).1)
theorem prep_here {s:Shf} {r:Rec} {i:Nat} (hs:ShOk s) (hi:s.p[i]? = some r):prepOf s.p r.txn = some r:=by
 obtain ⟨hl,e⟩:=List.getElem?_eq_some_iff.1 hi
 obtain ⟨q,hq⟩:=prep_some (e ▸ List.getElem_mem hl:r ∈ s.p)
 obtain ⟨hm,ht⟩:=prep_mem hq
 obtain ⟨k,hk,hke⟩:=List.getElem_of_mem hm
 have hqr:q = r:=by
  rcases Nat.lt_trichotomy k i with h | h | h
  ·have h1:=List.pairwise_iff_getElem.1 hs.pr k i hk hl h
   rw [hke,e] at h1
   omega
  ·subst h
   rw [← hke,e]
  ·have h1:=List.pairwise_iff_getElem.1 hs.pr i k hl hk h
   rw [hke,e] at h1
   omega
 rw [hq,hqr]
theorem recs_cells (x:RI):∀ u ∈ rcs x,u.oneCell' = true:=one_cells x
section
variable {W:World} {F:Nat → Prop} {g bc bp:Nat} {v:Value} {K:List KI} {P:List RI} {s:Shf}
set_option maxHeartbeats 16000000 in
theorem lrecs_any (h:LAt W F g bc bp v K P s) (hs:ShOk s) :
  Calls Tryz.prog 52 #[.pointer (some ⟨g,0,none⟩)] W fun e w'=>∃ (u:Value) (X:List RI),e = .returned u ∧ X.map (·.l) = recordsP s ∧ OutL W w' u X ∧ Below W.heap.size W w':=by
 obtain ⟨i9,z9,hi9,hz9,hzs9,hs9,hb9⟩:=info_rec
 have HH:=Lib.hid (fun V (hb:Below W.heap.size W V)=>h.below hb)
 have HS:=Lib.hid hs
 have hkl:=hs.kl
 have hel:=hs.el
 have hpl:=hs.pl
 have s3:=h.cel.cell (i:=3) rfl
 have hkr:(s.k.map (·.name)).Pairwise (fun x y=>ltK x y = true):=List.pairwise_map.2 hs.ks
 have hkp:((K.map kp).map (·.1)).Perm (s.k.map (·.name)):=by rw [← h.ek,List.map_map,List.map_map];exact List.Perm.refl _
 have hkn:(K.map kp).length ≤ 2048:=by rw [List.length_map,h.klen];omega
 have HSt:=Lib.hid (fun V (hb:Below W.heap.size W V)=>sorted_strs (h.below hb).mc hkr hkp hkn)
 have HKc:=Lib.hid (fun V=>skeys_call (some bc) V)
 have HOp:=Lib.hid (fun V (hb:Below W.heap.size W V)=>lopen_any (h.below hb) hs)
 have HCp:=Lib.hid (fun (x:RI) V (hv:RecVal V x.A x.B x.c x.d x.l) (hk:x.l.keys.length ≤ 1024) (hw:x.l.ws.length ≤ 1024)=>copied_any x V hv hk hw)
 have HO0:=Lib.hid (OutL.none W)
 have hov0:=hs.ov.1
 obtain ⟨A9,c9n,rfl,hr9,-,-,-⟩:=h.ends
 have HEn:=Lib.hid (fun V (hb:Below W.heap.size W V)=>hr9.below hb)
 have HEo:=Lib.hid (fun (x:Int × Int) (hx:x ∈ s.e)=>hs.eo x hx)
 have HPk:=Lib.hid (fun r (hr:r ∈ s.p)=>hs.po r hr)
 clear h hs hkr hkp hkn hr9
 go_enter Tryz.func52,Tryz.ntmps52
 by_cases hov:s.over = 0
 ·have HE0:=Lib.hid (show recordsP s = ([]:List RI).map (·.l) ++ s.k.flatMap versL ++ s.e.map doR ++ s.p by unfold recordsP;rw [if_neg (by omega)];rfl)
  have HO:=Lib.hid (show OutL W W (.slice none 0 0) [] from HO0.out)
  have HB:=Lib.hid (Below.refl W.heap.size W)
  obtain ⟨X0,hX0⟩:∃ X0:List RI,X0 = []:=⟨_,rfl⟩
  have hl0:X0.length ≤ 1:=by rw [hX0];simp
  rw [← hX0] at HO HE0
  obtain ⟨ov,hov2⟩:∃ ov,ov = Value.slice none 0 0:=⟨_,rfl⟩
  rw [← hov2] at HO
  clear hX0
  clear HO0 s3
  have s3:=(HH.out _ HB.out).cel.cell (i:=3) rfl
  rw [hov] at s3
  have s0:=(HH.out _ HB.out).cel.cell (i:=0) rfl
  go_wp2_with fail
  refine (HKc.out _).mono ?_
  rintro e1 w1 ⟨rfl,rfl⟩
  go_wp2_with fail
  refine (HSt.out _ HB.out).mono ?_
  rintro e2 w2 ⟨u2,rfl,hrow,hb⟩
  have HB2:=Lib.hid (HB.out.trans (hb.mono HB.out.size))
  have HO2:=Lib.hid (HO.out.below hb)
  have hl2:(s.k.map (·.name)).length = s.k.length:=List.length_map ..
  rw [hl2] at hrow
  obtain ⟨A2,c2,rfl,hst,-,-,-⟩:=own_rowF (F:=fun k=>ov.ownBlock = some k) hrow (by rw [strV_len,hl2];omega) (fun k hk=>(HO.out.row.lt k hk).2)
  have HT2:=Lib.hid hst
  subst hov2
  clear hb hrow hst HO HB s0 hl2
  go_wp2_with fail
  go_loopw [3,32] (fun ov iv wr=>∃ (i:Nat) (X:List RI),i ≤ s.k.length ∧ iv = .int .i64 (i:Int) ∧ Hid (X.map (·.l) = X0.map (·.l) ++ (s.k.take i).flatMap versL) ∧ Hid (X.length ≤ 1 + i * 1024) ∧ Hid (OutL W wr ov X) ∧ Hid (Below W.heap.size W wr) ∧ Hid (RowF wr (fun k=>ov.ownBlock = some k) A2 (strV (s.k.map (·.name))))) (fun _ iv _=>s.k.length - (RowKit.intOf iv).toNat)
  case atStart=>exact ⟨0,X0,by omega,rfl,Lib.hid (by simp),Lib.hid (by omega),HO2,HB2,HT2⟩
  case round =>
   obtain ⟨i,X,hi,rfl,hX,hXl,hO,hb,hT⟩:=hrel
   clear HO2 HB2 HT2
   by_cases hlt:i < s.k.length
   ·have pi:(i:Int) < (s.k.length:Int):=by omega
    have hkm:=List.getElem_mem hlt
    have hTk:(s.k.take (i + 1)).flatMap versL = (s.k.take i).flatMap versL ++ s.k[i].l.map (verR s.k[i].name):=by rw [List.take_succ_eq_append_getElem hlt,List.flatMap_append];simp [versL]
    have hnm:(strV (s.k.map (·.name)))[i]? = some (.string s.k[i].name):=by unfold strV;rw [List.getElem?_map,List.getElem?_map,List.getElem?_eq_getElem hlt];rfl
    obtain ⟨ad,rfl,-,-,hc⟩:=hT.out (by rw [strV_len,List.length_map];omega)
    have q0:=hc i _ hnm
    have hkv:=HS.out.kn _ hkm
    have hch:=HS.out.kc _ hkm
    have hfd:chainK s.k s.k[i].name = s.k[i].l:=by unfold chainK;rw [find_of_mem HS.out.ks hkm]
    have hsz:s.k[i].name.size ≤ maxLen:=by unfold keyOk at hkv;unfold maxLen;omega
    obtain ⟨x,hxl,hxv,-,hlk⟩:=(HH.out W (Below.refl _ _)).chain hsz
    rw [hfd] at hxl
    have hxl2:x.k.l.length = s.k[i].l.length:=by rw [hxl]
    have hrf:=hxv.row
    rw [hxl] at hrf
    generalize s.k[i] = kc at hTk q0 hkv hch hlk hxl2 hrf
    obtain ⟨nm,l⟩:=kc
    simp only at hTk q0 hkv hch hlk hxl2 hrf
    have hle:l.length ≤ 1024:=hch.len
    have pl:(l.length:Int) ≤ 1024:=by omega
    rw [hxl2] at hlk
    have HLk:=Lib.hid (fun V (hb:Below W.heap.size W V)=>hlk V (HH.out V hb))
    have HVr:=Lib.hid (fun V (hb:Below W.heap.size W V)=>(hrf.below hb).vrs)
    have HRk:=Lib.hid (fun (y:Vr) (hy:y ∈ l)=>verR_ok hkv (hch.each y hy))
    have HTk:=Lib.hid hTk
    have s0:=(HH.out _ hb.out).cel.cell (i:=0) rfl
    have l0:=HLk.out _ hb.out
    generalize x.A = A3 at l0 HLk HVr
    generalize x.c = c3 at l0 HLk
    have HTr:=hT
    have HOr:=hO
    clear hkm hTk hnm hc hkv hch hfd hsz hxl hxv hlk hxl2 hrf
    go_wp2_with fail
    go_loopw [3,43] (fun ov iv wr=>∃ (k:Nat) (Y:List RI),k ≤ l.length ∧ iv = .int .i64 (k:Int) ∧ Hid (Y.map (·.l) = X.map (·.l) ++ (l.take k).map (verR nm)) ∧ Hid (Y.length ≤ 1 + i * 1024 + k) ∧ Hid (OutL W wr ov Y) ∧ Hid (Below W.heap.size W wr) ∧ Hid (RowF wr (fun k=>ov.ownBlock = some k) (some ad) (strV (s.k.map (·.name))))) (fun _ iv _=>l.length - (RowKit.intOf iv).toNat)
    case atStart=>exact ⟨0,X,by omega,rfl,Lib.hid (by simp),Lib.hid (by have:=hXl.out;omega),HOr,hb,HTr⟩
    case round =>
     clear hO hT HOr HTr hb s0 q0 l0
     obtain ⟨k,Y,hk,rfl,hY,hYl,hO,hb,hT⟩:=hrel
     by_cases hkl:k < l.length
     ·have pk:(k:Int) < (l.length:Int):=by omega
      obtain ⟨av,eV,-,hcl⟩:=HVr.out _ hb.out (by omega)
      subst eV
      obtain ⟨y0,y1,y2⟩:=hcl k hkl
      rw [← Ch.add_field _ _ _ (by omega)] at y1 y2
      have HTl:=Lib.hid (show (l.take (k + 1)).map (verR nm) = (l.take k).map (verR nm) ++ [verR nm l[k]] by rw [List.take_succ_eq_append_getElem hkl,List.map_append];rfl)
      have HRy:=Lib.hid (HRk.out _ (List.getElem_mem hkl))
      clear hcl
      generalize l[k] = y at y0 y1 y2 HTl HRy
      obtain ⟨yt,ys,yd⟩:=y
      simp only at y0 y1 y2
      have hb1:Below wr.heap.size wr (wr.alloc (.cells #[.int .i64 yt,.string ys,.bool yd] 77)):=(Below.refl _ wr).alloc (Nat.le_refl _) _
      have HB1:=Lib.hid (hb.out.trans (hb1.mono hb.out.size))
      have HO1:=Lib.hid (hO.out.below hb1)
      have HT1:=Lib.hid (hT.out.below hb1)
      have hc1:=HCp.out (bareI (verR nm ⟨yt,ys,yd⟩)) (wr.alloc (.cells #[.int .i64 yt,.string ys,.bool yd] 77)) (bareI_val _ HRy.out rfl rfl) (by simp [bareI,verR]) (by simp [bareI,verR])
      unfold rcs bareI verR at hc1
      have HC1:=Lib.hid hc1
      clear hb1 hc1 hO hT hb
      go_wp2_with fail
      refine HC1.out.mono ?_
      rintro e5 w5 ⟨y,rfl,hyl,hyv,-,hya,hyb,hb5⟩
      obtain ⟨yr,yA,yB,yc,ydd⟩:=y
      simp only at hyl hyv hya hyb
      subst hyl
      have HO5:=Lib.hid (HO1.out.below hb5)
      have HB5:=Lib.hid (HB1.out.trans (hb5.mono HB1.out.size))
      have HT5:=Lib.hid (HT1.out.below hb5)
      obtain ⟨yi,hyi⟩:∃ yi:RI,yi = ⟨verR nm ⟨yt,ys,yd⟩,yA,yB,yc,ydd⟩:=⟨_,rfl⟩
      have HYl:=Lib.hid (show yi.l = verR nm ⟨yt,ys,yd⟩ by rw [hyi])
      have HYc:=Lib.hid (show rcs yi = [.int .i64 3,.int .i64 0,.int .i64 yt,.int .i64 0,.string nm,.string ys,.bool yd,.slice yA 0 yc,.slice yB 0 ydd] by rw [hyi];rfl)
      have hgw:=fun w2 v' ho hg hat=>OutL.grow (y:=yi) (w2:=w2) (v':=v') HO1.out HB1.out.size hb5 (by rw [hyi];exact hyv) (by rw [hyi];exact ⟨fun hp=>absurd hp (by simp [verR]),fun hp=>absurd hp (by simp [verR])⟩) (by rw [hyi];exact fun hp=>absurd hp (by simp [verR])) ho hg hat
      have HGw:=Lib.hid hgw
      have hyl2:=hYl.out
      have h65:Y.length + 1 ≤ 1200000:=by omega
      clear hyv hya hyb hgw HC1 HO1 HB1 HT1 hyi hyl2
      go_wp2_with (at_builtin;refine wpList_append_own_at _ rfl _ _ 22 rfl W.heap.size 37 i9 z9 9 120 Tryz.underlying22 hi9 hz9 hs9 hb9 hzs9 (by decide) _ Y.length (Y.flatMap rcs) rfl (st_keep HO5.out.row ((Below.refl _ w5).alloc (Nat.le_refl _) _)) ⟨w5.heap.size,0,none⟩ 1 1 (rcs yi) rfl rfl ?d1a ?d2a ?d3a ?d4a ?d5a ?_)
      case d1a=>exact fun j u hu=>by rw [addr_head];exact blk_cell (blk1 w5 _).2 (by rw [List.getElem?_toArray,← HYc.out];exact hu)
      case d2a=>exact recs_cells yi
      case d3a=>unfold maxLen;omega
      case d4a=>omega
      case d5a=>have:=HB5.out.size;simp;omega
      intro v6 w6 ho6 hg6 _ hat6
      have HO6:=Lib.hid (HGw.out w6 v6 ho6 (by rw [HYc.out];exact hg6) hat6)
      have HB6:=Lib.hid (grow_below HB5.out HO5.out hg6)
      have HT6:=Lib.hid (grow_row HT5.out hg6 hat6)
      have HY6:=Lib.hid (show (Y ++ [yi]).map (·.l) = X.map (·.l) ++ (l.take (k + 1)).map (verR nm) by rw [List.map_append,hY.out,HTl.out,List.append_assoc];simp only [List.map_cons,List.map_nil,HYl.out])
      have HL6:=Lib.hid (show (Y ++ [yi]).length ≤ 1 + i * 1024 + (k + 1) by have:=hYl.out;rw [List.length_append];simp;omega)
      clear ho6 hg6 hat6 HGw HO5 HB5 HT5 HYc y0 y1 y2
      go_wp2_with fail
      go_roundw
      case rel=>exact ⟨k + 1,_,by omega,by go_num,HY6,HL6,HO6,HB6,HT6⟩
      case measure=>simp [RowKit.intOf];omega
     ·obtain rfl:k = l.length:=by omega
      have HY7:=Lib.hid (show Y.map (·.l) = X0.map (·.l) ++ (s.k.take (i + 1)).flatMap versL by rw [hY.out,List.take_length,hX.out,HTk.out,List.append_assoc])
      have HL7:=Lib.hid (show Y.length ≤ 1 + (i + 1) * 1024 by have:=hYl.out;omega)
      clear hY hYl
      go_wp2_with fail
      go_roundw
      case rel=>exact ⟨i + 1,Y,by omega,by go_num,HY7,HL7,hO,hb,hT⟩
      case measure=>simp [RowKit.intOf];omega
   ·obtain rfl:i = s.k.length:=by omega
    have HX7:=Lib.hid (show X.map (·.l) = X0.map (·.l) ++ s.k.flatMap versL by rw [hX.out,List.take_length])
    have HL7:=Lib.hid (show X.length ≤ 1 + 1024 * 1024 by have:=hXl.out;have:s.k.length * 1024 ≤ 1024 * 1024:=Nat.mul_le_mul_right _ (by omega);omega)
    have s2:=(HH.out _ hb.out).cel.cell (i:=2) rfl
    clear hX hXl hT
    have HOc:=hO
    have HBc:=hb
    go_wp2_with fail
    go_loopw [3,66] (fun ov iv wr=>∃ (j:Nat) (Z:List RI),j ≤ s.e.length ∧ iv = .int .i64 (j:Int) ∧ Hid (Z.map (·.l) = X0.map (·.l) ++ s.k.flatMap versL ++ (s.e.take j).map doR) ∧ Hid (Z.length ≤ 1 + 1024 * 1024 + j) ∧ Hid (OutL W wr ov Z) ∧ Hid (Below W.heap.size W wr)) (fun _ iv _=>s.e.length - (RowKit.intOf iv).toNat)
    case atStart=>exact ⟨0,X,by omega,rfl,Lib.hid (by rw [HX7.out];simp),Lib.hid (by have:=HL7.out;omega),HOc,HBc⟩
    case round =>
     clear hO hb HOc HBc HX7 HL7 s2
     obtain ⟨j,Z,hj,rfl,hZ,hZl,hO,hb⟩:=hrel
     by_cases hjl:j < s.e.length
     ·have pj:(j:Int) < (s.e.length:Int):=by omega
      obtain ⟨ae,rfl,-,-,hce⟩:=HEn.out _ hb.out (by rw [flatN_len ecs_len];omega)
      have x0:=hce (j * 2) (.int .i64 (s.e[j]).1) (by have:=flatN_at ecs_len (L:=s.e) (i:=j) hjl (j:=0) (by omega);simpa [ecs] using this)
      have x1:=hce (j * 2 + 1) (.int .i64 (s.e[j]).2) (by have:=flatN_at ecs_len (L:=s.e) (i:=j) hjl (j:=1) (by omega);simpa [ecs] using this)
      rw [← Ch.add_field _ _ _ (by omega)] at x1
      have HTl:=Lib.hid (show (s.e.take (j + 1)).map doR = (s.e.take j).map doR ++ [doR s.e[j]] by rw [List.take_succ_eq_append_getElem hjl,List.map_append];rfl)
      have hro:=HEo.out _ (List.getElem_mem hjl)
      have HRo:=Lib.hid (doR_ok hro.1 hro.2)
      clear hce hro
      generalize s.e[j] = y at x0 x1 HTl HRo
      obtain ⟨ya,yb⟩:=y
      simp only at x0 x1
      have hb1:Below wr.heap.size wr (wr.alloc (.cells #[.int .i64 ya,.int .i64 yb] 97)):=(Below.refl _ wr).alloc (Nat.le_refl _) _
      obtain ⟨w5,hw5⟩:∃ w5,w5 = wr.alloc (.cells #[.int .i64 ya,.int .i64 yb] 97):=⟨_,rfl⟩
      rw [← hw5] at hb1
      have HB5:=Lib.hid (hb.out.trans (hb1.mono hb.out.size))
      have HO5:=Lib.hid (hO.out.below hb1)
      have HGw:=Lib.hid (fun w2 v' ho hg hat=>OutL.grow (y:=bareI (doR (ya,yb))) (w2:=w2) (v':=v') HO5.out HB5.out.size (Below.refl _ _) (bareI_val _ HRo.out rfl rfl) (bare_new _ _) (fun hp=>absurd hp (by simp [bareI,doR])) ho hg hat)
      have h65:Z.length + 1 ≤ 1200000:=by have:=hZl.out;omega
      have hce5:Cel w5 wr.heap.size 97 [.int .i64 ya,.int .i64 yb]:=by rw [hw5];exact (blk1 wr _).2
      have q0:=hce5.cell (i:=0) rfl
      have q1:=hce5.cell (i:=1) rfl
      clear hb1 hO hb hce5
      go_upto_region 16 with fail
      rw [← hw5]
      clear hw5 x0 x1
      go_wp2_with (at_builtin;refine wpList_append_own_at _ rfl _ _ 22 rfl W.heap.size 37 i9 z9 9 120 Tryz.underlying22 hi9 hz9 hs9 hb9 hzs9 (by decide) _ Z.length (Z.flatMap rcs) rfl (st_keep HO5.out.row ((Below.refl _ w5).alloc (Nat.le_refl _) _)) ⟨w5.heap.size,0,none⟩ 1 1 (rcs (bareI (doR (ya,yb)))) rfl rfl ?e1a ?e2a ?e3a ?e4a ?e5a ?_)
      case e1a=>exact fun j u hu=>hu
      case e2a=>exact recs_cells _
      case e3a=>unfold maxLen;omega
      case e4a=>omega
      case e5a=>have:=HB5.out.size;simp;omega
      intro v6 w6 ho6 hg6 _ hat6
      have HO6:=Lib.hid (HGw.out w6 v6 ho6 hg6 hat6)
      have HB6:=Lib.hid (grow_below HB5.out HO5.out hg6)
      have HY6:=Lib.hid (show (Z ++ [bareI (doR (ya,yb))]).map (·.l) = X0.map (·.l) ++ s.k.flatMap versL ++ (s.e.take (j + 1)).map doR by rw [List.map_append,hZ.out,HTl.out,List.append_assoc];rfl)
      have HL6:=Lib.hid (show (Z ++ [bareI (doR (ya,yb))]).length ≤ 1 + 1024 * 1024 + (j + 1) by have:=hZl.out;rw [List.length_append];simp;omega)
      clear ho6 hg6 hat6 HGw HO5 HB5 q0 q1
      go_wp2_with fail
      go_roundw
      case rel=>exact ⟨j + 1,_,by omega,by go_num,HY6,HL6,HO6,HB6⟩
      case measure=>simp [RowKit.intOf];omega
     ·obtain rfl:j = s.e.length:=by omega
      have HX8:=Lib.hid (show Z.map (·.l) = X0.map (·.l) ++ s.k.flatMap versL ++ s.e.map doR by rw [hZ.out,List.take_length])
      have HL8:=Lib.hid (show Z.length ≤ 1 + 1024 * 1024 + 1024 by have:=hZl.out;omega)
      clear hZ hZl
      go_wp2_with fail
      refine (HOp.out _ hb.out).mono ?_
      rintro e7 w7 ⟨u7,rfl,hrow,hb7⟩
      have HB7:=Lib.hid (hb.out.trans (hb7.mono hb.out.size))
      have HO7:=Lib.hid (hO.out.below hb7)
      obtain ⟨A7,c7,rfl,hst,-,-,-⟩:=own_rowF (F:=fun k=>Value.ownBlock _ = some k) hrow (by rw [intV_len,List.length_map];omega) (fun k hk=>(hO.out.row.lt k hk).2)
      have HT7:=Lib.hid hst
      clear hb7 hrow hst hO hb
      go_wp2_with fail
      go_loopw [3,82] (fun ov iv wr=>∃ (q:Nat) (Z:List RI),q ≤ s.p.length ∧ iv = .int .i64 (q:Int) ∧ Hid (Z.map (·.l) = X0.map (·.l) ++ s.k.flatMap versL ++ s.e.map doR ++ s.p.take q) ∧ Hid (Z.length ≤ 1 + 1024 * 1024 + 1024 + q) ∧ Hid (OutL W wr ov Z) ∧ Hid (Below W.heap.size W wr) ∧ Hid (RowF wr (fun k=>ov.ownBlock = some k) A7 (intV (s.p.map (·.txn))))) (fun _ iv _=>s.p.length - (RowKit.intOf iv).toNat)
      case atStart=>exact ⟨0,Z,by omega,rfl,Lib.hid (by rw [HX8.out];simp),Lib.hid (by have:=HL8.out;omega),HO7,HB7,HT7⟩
      case round =>
       clear HO7 HB7 HT7 HX8 HL8
       obtain ⟨q,Z,hq,rfl,hZ,hZl,hO,hb,hT⟩:=hrel
       by_cases hql:q < s.p.length
       ·have pq:(q:Int) < (s.p.length:Int):=by omega
        obtain ⟨r,hr⟩:∃ r,s.p[q]? = some r:=⟨_,List.getElem?_eq_getElem hql⟩
        have hre:=(List.getElem?_eq_some_iff.1 hr).2
        obtain ⟨at7,rfl,-,-,hc⟩:=hT.out (by rw [intV_len,List.length_map];omega)
        have q0:=hc q (.int .i64 r.txn) (by unfold intV;rw [List.getElem?_map,List.getElem?_map,hr];rfl)
        have hTl:s.p.take (q + 1) = s.p.take q ++ [r]:=by rw [List.take_succ_eq_append_getElem hql,hre]
        have hrm:r ∈ s.p:=by rw [← hre];exact List.getElem_mem hql
        have hro:=HPk.out r hrm
        have hkd:=(kind_1 hro.2).1 hro.1.2
        have hwl:r.ws.length ≤ 1024:=by have:r.ws.length ≤ 16:=hkd.2.2.2.2.1;omega
        have hkl:r.keys.length ≤ 1024:=by have:=hkd.2.2.1;omega
        obtain ⟨x,hx,hxl,hmem⟩:=(HH.out _ hb.out).prep_in (prep_here HS.out hr)
        have l0:=(HH.out _ hb.out).mp.look Tryz.underlying86 (Tryz.zeroRec wr) (x:=r.txn) hmem
        have hc1:=HCp.out x wr ((HH.out _ hb.out).pv x hx).val (by rw [hxl];exact hkl) (by rw [hxl];exact hwl)
        obtain ⟨xr,xA,xB,xc,xd⟩:=x
        simp only at hxl hc1 l0
        subst hxl
        have s1:=(HH.out _ hb.out).cel.cell (i:=1) rfl
        have l1:(Instr.lookup 86 (.map (some bp)) (.int .i64 xr.txn) false).run Tryz.prog wr = .ok (.agg #[.int .i64 xr.kind,.int .i64 xr.txn,.int .i64 xr.ts,.int .i64 xr.coord,.string xr.key,.string xr.text,.bool xr.dead,.slice xA xr.keys.length xc,.slice xB xr.ws.length xd]) wr:=l0
        unfold rcs at hc1
        have HC1:=Lib.hid hc1
        have HTl:=Lib.hid hTl
        clear hc hre hTl hrm hro hkd hwl hkl hx hmem l0 hc1 hr
        go_wp2_with fail
        refine HC1.out.mono ?_
        rintro e5 w5 ⟨y,rfl,hyl,hyv,hyf,hya,hyb,hb5⟩
        have HO5:=Lib.hid (hO.out.below hb5)
        have HB5:=Lib.hid (hb.out.trans (hb5.mono hb.out.size))
        have HT5:=Lib.hid (hT.out.below hb5)
        have HYl:=Lib.hid hyl
        have HGw:=Lib.hid (fun w2 v' ho hg hat=>OutL.grow (y:=y) (w2:=w2) (v':=v') hO.out hb.out.size hb5 hyv ⟨fun hp ad e=>hya (by rw [hyl] at hp;exact hp) ad e,fun hp ad e=>hyb (by rw [hyl] at hp;exact hp) ad e⟩ hyf ho hg hat)
        have HYc:=Lib.hid (show rcs y = [.int .i64 y.l.kind,.int .i64 y.l.txn,.int .i64 y.l.ts,.int .i64 y.l.coord,.string y.l.key,.string y.l.text,.bool y.l.dead,.slice y.A y.l.keys.length y.c,.slice y.B y.l.ws.length y.d] from rfl)
        have h65:Z.length + 1 ≤ 1200000:=by have:=hZl.out;omega
        clear hyl hyv hyf hya hyb hb5 HC1 hO hb hT q0 s1 l1
        go_wp2_with (at_builtin;refine wpList_append_own_at _ rfl _ _ 22 rfl W.heap.size 37 i9 z9 9 120 Tryz.underlying22 hi9 hz9 hs9 hb9 hzs9 (by decide) _ Z.length (Z.flatMap rcs) rfl (st_keep HO5.out.row ((Below.refl _ w5).alloc (Nat.le_refl _) _)) ⟨w5.heap.size,0,none⟩ 1 1 (rcs y) rfl rfl ?f1a ?f2a ?f3a ?f4a ?f5a ?_)
        case f1a=>first | exact fun j u hu=>hu | exact fun j u hu=>by rw [addr_head];exact blk_cell (blk1 w5 _).2 (by rw [List.getElem?_toArray,← HYc.out];exact hu)
        case f2a=>exact recs_cells _
        case f3a=>unfold maxLen;omega
        case f4a=>omega
        case f5a=>have:=HB5.out.size;simp;omega
        intro v6 w6 ho6 hg6 _ hat6
        have HO6:=Lib.hid (HGw.out w6 v6 ho6 hg6 hat6)
        have HB6:=Lib.hid (grow_below HB5.out HO5.out hg6)
        have HT6:=Lib.hid (grow_row HT5.out hg6 hat6)
        have HY6:=Lib.hid (show (Z ++ [y]).map (·.l) = X0.map (·.l) ++ s.k.flatMap versL ++ s.e.map doR ++ s.p.take (q + 1) by rw [List.map_append,hZ.out,HTl.out];simp only [List.map_cons,List.map_nil,HYl.out,List.append_assoc])
        have HL6:=Lib.hid (show (Z ++ [y]).length ≤ 1 + 1024 * 1024 + 1024 + (q + 1) by have:=hZl.out;rw [List.length_append];simp;omega)
        clear ho6 hg6 hat6 HGw HO5 HB5 HT5 HYc
        go_wp2_with fail
        go_roundw
        case rel=>exact ⟨q + 1,_,by omega,by go_num,HY6,HL6,HO6,HB6,HT6⟩
        case measure=>simp [RowKit.intOf];omega
       ·obtain rfl:q = s.p.length:=by omega
        have HX9:=Lib.hid (show Z.map (·.l) = recordsP s by rw [hZ.out,List.take_length,HE0.out])
        clear hZ hZl hT
        go_wp2_with fail
        go_ret
        exact ⟨_,Z,rfl,HX9.out,hO.out,hb.out⟩
 ·have bo:(s.over == 0) = false:=by simpa using hov
  have HE1:=Lib.hid (show recordsP s = [bareI (sweepR s.over)].map (·.l) ++ s.k.flatMap versL ++ s.e.map doR ++ s.p by unfold recordsP;rw [if_pos (by omega)];rfl)
  have HR1:=Lib.hid (sweepR_ok (t:=s.over) HS.out.ov)
  have HGw:=Lib.hid (fun w2 v' ho hg hat=>OutL.grow (W:=W) (w:=W) (w1:=W) (X:=[]) (v:=.slice none 0 0) (y:=bareI (sweepR s.over)) (w2:=w2) (v':=v') HO0.out (Nat.le_refl _) (Below.refl _ _) (bareI_val _ HR1.out rfl rfl) (bare_new _ _) (fun hp=>absurd hp (by simp [bareI,sweepR])) ho hg hat)
  go_wp2_with (at_builtin;refine wpList_append_own_at _ rfl _ _ 22 rfl W.heap.size 37 i9 z9 9 120 Tryz.underlying22 hi9 hz9 hs9 hb9 hzs9 (by decide) _ 0 [] rfl (World.ownsRow_nil _ _ _ _) ⟨W.heap.size,0,none⟩ 1 1 (rcs (bareI (sweepR s.over))) rfl rfl ?g1 ?g2 ?g3 ?g4 ?g5 ?_)
  case g1=>first | exact fun j u hu=>hu | exact fun j u hu=>by rw [addr_head];exact blk_cell (blk1 W _).2 (by rw [List.getElem?_toArray];exact hu)
  case g2=>exact recs_cells _
  case g3=>unfold maxLen;omega
  case g4=>omega
  case g5=>simp
  intro ov w0 ho6 hg6 _ hat6
  have HO1:=Lib.hid (HGw.out w0 ov (by simpa using ho6) hg6 hat6)
  have HB:=Lib.hid (grow_below (Below.refl W.heap.size W) HO0.out hg6)
  obtain ⟨X0,hX0⟩:∃ X0:List RI,X0 = [bareI (sweepR s.over)]:=⟨_,rfl⟩
  have hl0:X0.length ≤ 1:=by rw [hX0];simp
  have HO:=Lib.hid (show OutL W w0 ov X0 by rw [hX0];exact HO1.out)
  have HE0:=Lib.hid (show recordsP s = X0.map (·.l) ++ s.k.flatMap versL ++ s.e.map doR ++ s.p by rw [hX0];exact HE1.out)
  clear HO0 HO1 s3 ho6 hg6 hat6 HGw hX0 HE1 HR1
  have s3:=(HH.out _ HB.out).cel.cell (i:=3) rfl
  have s0:=(HH.out _ HB.out).cel.cell (i:=0) rfl
  go_wp2_with fail
  refine (HKc.out _).mono ?_
  rintro e1 w1 ⟨rfl,rfl⟩
  go_wp2_with fail
  refine (HSt.out _ HB.out).mono ?_
  rintro e2 w2 ⟨u2,rfl,hrow,hb⟩
  have HB2:=Lib.hid (HB.out.trans (hb.mono HB.out.size))
  have HO2:=Lib.hid (HO.out.below hb)
  have hl2:(s.k.map (·.name)).length = s.k.length:=List.length_map ..
  rw [hl2] at hrow
  obtain ⟨A2,c2,rfl,hst,-,-,-⟩:=own_rowF (F:=fun k=>ov.ownBlock = some k) hrow (by rw [strV_len,hl2];omega) (fun k hk=>(HO.out.row.lt k hk).2)
  have HT2:=Lib.hid hst
  clear hb hrow hst HO HB s0 hl2
  go_wp2_with fail
  go_loopw [3,32] (fun ov iv wr=>∃ (i:Nat) (X:List RI),i ≤ s.k.length ∧ iv = .int .i64 (i:Int) ∧ Hid (X.map (·.l) = X0.map (·.l) ++ (s.k.take i).flatMap versL) ∧ Hid (X.length ≤ 1 + i * 1024) ∧ Hid (OutL W wr ov X) ∧ Hid (Below W.heap.size W wr) ∧ Hid (RowF wr (fun k=>ov.ownBlock = some k) A2 (strV (s.k.map (·.name))))) (fun _ iv _=>s.k.length - (RowKit.intOf iv).toNat)
  case atStart=>exact ⟨0,X0,by omega,rfl,Lib.hid (by simp),Lib.hid (by omega),HO2,HB2,HT2⟩
  case round =>
   obtain ⟨i,X,hi,rfl,hX,hXl,hO,hb,hT⟩:=hrel
   clear HO2 HB2 HT2
   by_cases hlt:i < s.k.length
   ·have pi:(i:Int) < (s.k.length:Int):=by omega
    have hkm:=List.getElem_mem hlt
    have hTk:(s.k.take (i + 1)).flatMap versL = (s.k.take i).flatMap versL ++ s.k[i].l.map (verR s.k[i].name):=by rw [List.take_succ_eq_append_getElem hlt,List.flatMap_append];simp [versL]
    have hnm:(strV (s.k.map (·.name)))[i]? = some (.string s.k[i].name):=by unfold strV;rw [List.getElem?_map,List.getElem?_map,List.getElem?_eq_getElem hlt];rfl
    obtain ⟨ad,rfl,-,-,hc⟩:=hT.out (by rw [strV_len,List.length_map];omega)
    have q0:=hc i _ hnm
    have hkv:=HS.out.kn _ hkm
    have hch:=HS.out.kc _ hkm
    have hfd:chainK s.k s.k[i].name = s.k[i].l:=by unfold chainK;rw [find_of_mem HS.out.ks hkm]
    have hsz:s.k[i].name.size ≤ maxLen:=by unfold keyOk at hkv;unfold maxLen;omega
    obtain ⟨x,hxl,hxv,-,hlk⟩:=(HH.out W (Below.refl _ _)).chain hsz
    rw [hfd] at hxl
    have hxl2:x.k.l.length = s.k[i].l.length:=by rw [hxl]
    have hrf:=hxv.row
    rw [hxl] at hrf
    generalize s.k[i] = kc at hTk q0 hkv hch hlk hxl2 hrf
    obtain ⟨nm,l⟩:=kc
    simp only at hTk q0 hkv hch hlk hxl2 hrf
    have hle:l.length ≤ 1024:=hch.len
    have pl:(l.length:Int) ≤ 1024:=by omega
    rw [hxl2] at hlk
    have HLk:=Lib.hid (fun V (hb:Below W.heap.size W V)=>hlk V (HH.out V hb))
    have HVr:=Lib.hid (fun V (hb:Below W.heap.size W V)=>(hrf.below hb).vrs)
    have HRk:=Lib.hid (fun (y:Vr) (hy:y ∈ l)=>verR_ok hkv (hch.each y hy))
    have HTk:=Lib.hid hTk
    have s0:=(HH.out _ hb.out).cel.cell (i:=0) rfl
    have l0:=HLk.out _ hb.out
    generalize x.A = A3 at l0 HLk HVr
    generalize x.c = c3 at l0 HLk
    have HTr:=hT
    have HOr:=hO
    clear hkm hTk hnm hc hkv hch hfd hsz hxl hxv hlk hxl2 hrf
    go_wp2_with fail
    go_loopw [3,43] (fun ov iv wr=>∃ (k:Nat) (Y:List RI),k ≤ l.length ∧ iv = .int .i64 (k:Int) ∧ Hid (Y.map (·.l) = X.map (·.l) ++ (l.take k).map (verR nm)) ∧ Hid (Y.length ≤ 1 + i * 1024 + k) ∧ Hid (OutL W wr ov Y) ∧ Hid (Below W.heap.size W wr) ∧ Hid (RowF wr (fun k=>ov.ownBlock = some k) (some ad) (strV (s.k.map (·.name))))) (fun _ iv _=>l.length - (RowKit.intOf iv).toNat)
    case atStart=>exact ⟨0,X,by omega,rfl,Lib.hid (by simp),Lib.hid (by have:=hXl.out;omega),HOr,hb,HTr⟩
    case round =>
     clear hO hT HOr HTr hb s0 q0 l0
     obtain ⟨k,Y,hk,rfl,hY,hYl,hO,hb,hT⟩:=hrel
     by_cases hkl:k < l.length
     ·have pk:(k:Int) < (l.length:Int):=by omega
      obtain ⟨av,eV,-,hcl⟩:=HVr.out _ hb.out (by omega)
      subst eV
      obtain ⟨y0,y1,y2⟩:=hcl k hkl
      rw [← Ch.add_field _ _ _ (by omega)] at y1 y2
      have HTl:=Lib.hid (show (l.take (k + 1)).map (verR nm) = (l.take k).map (verR nm) ++ [verR nm l[k]] by rw [List.take_succ_eq_append_getElem hkl,List.map_append];rfl)
      have HRy:=Lib.hid (HRk.out _ (List.getElem_mem hkl))
      clear hcl
      generalize l[k] = y at y0 y1 y2 HTl HRy
      obtain ⟨yt,ys,yd⟩:=y
      simp only at y0 y1 y2
      have hb1:Below wr.heap.size wr (wr.alloc (.cells #[.int .i64 yt,.string ys,.bool yd] 77)):=(Below.refl _ wr).alloc (Nat.le_refl _) _
      have HB1:=Lib.hid (hb.out.trans (hb1.mono hb.out.size))
      have HO1:=Lib.hid (hO.out.below hb1)
      have HT1:=Lib.hid (hT.out.below hb1)
      have hc1:=HCp.out (bareI (verR nm ⟨yt,ys,yd⟩)) (wr.alloc (.cells #[.int .i64 yt,.string ys,.bool yd] 77)) (bareI_val _ HRy.out rfl rfl) (by simp [bareI,verR]) (by simp [bareI,verR])
      unfold rcs bareI verR at hc1
      have HC1:=Lib.hid hc1
      clear hb1 hc1 hO hT hb
      go_wp2_with fail
      refine HC1.out.mono ?_
      rintro e5 w5 ⟨y,rfl,hyl,hyv,-,hya,hyb,hb5⟩
      obtain ⟨yr,yA,yB,yc,ydd⟩:=y
      simp only at hyl hyv hya hyb
      subst hyl
      have HO5:=Lib.hid (HO1.out.below hb5)
      have HB5:=Lib.hid (HB1.out.trans (hb5.mono HB1.out.size))
      have HT5:=Lib.hid (HT1.out.below hb5)
      obtain ⟨yi,hyi⟩:∃ yi:RI,yi = ⟨verR nm ⟨yt,ys,yd⟩,yA,yB,yc,ydd⟩:=⟨_,rfl⟩
      have HYl:=Lib.hid (show yi.l = verR nm ⟨yt,ys,yd⟩ by rw [hyi])
      have HYc:=Lib.hid (show rcs yi = [.int .i64 3,.int .i64 0,.int .i64 yt,.int .i64 0,.string nm,.string ys,.bool yd,.slice yA 0 yc,.slice yB 0 ydd] by rw [hyi];rfl)
      have hgw:=fun w2 v' ho hg hat=>OutL.grow (y:=yi) (w2:=w2) (v':=v') HO1.out HB1.out.size hb5 (by rw [hyi];exact hyv) (by rw [hyi];exact ⟨fun hp=>absurd hp (by simp [verR]),fun hp=>absurd hp (by simp [verR])⟩) (by rw [hyi];exact fun hp=>absurd hp (by simp [verR])) ho hg hat
      have HGw:=Lib.hid hgw
      have hyl2:=hYl.out
      have h65:Y.length + 1 ≤ 1200000:=by omega
      clear hyv hya hyb hgw HC1 HO1 HB1 HT1 hyi hyl2
      go_wp2_with (at_builtin;refine wpList_append_own_at _ rfl _ _ 22 rfl W.heap.size 37 i9 z9 9 120 Tryz.underlying22 hi9 hz9 hs9 hb9 hzs9 (by decide) _ Y.length (Y.flatMap rcs) rfl (st_keep HO5.out.row ((Below.refl _ w5).alloc (Nat.le_refl _) _)) ⟨w5.heap.size,0,none⟩ 1 1 (rcs yi) rfl rfl ?d1b ?d2b ?d3b ?d4b ?d5b ?_)
      case d1b=>exact fun j u hu=>by rw [addr_head];exact blk_cell (blk1 w5 _).2 (by rw [List.getElem?_toArray,← HYc.out];exact hu)
      case d2b=>exact recs_cells yi
      case d3b=>unfold maxLen;omega
      case d4b=>omega
      case d5b=>have:=HB5.out.size;simp;omega
      intro v6 w6 ho6 hg6 _ hat6
      have HO6:=Lib.hid (HGw.out w6 v6 ho6 (by rw [HYc.out];exact hg6) hat6)
      have HB6:=Lib.hid (grow_below HB5.out HO5.out hg6)
      have HT6:=Lib.hid (grow_row HT5.out hg6 hat6)
      have HY6:=Lib.hid (show (Y ++ [yi]).map (·.l) = X.map (·.l) ++ (l.take (k + 1)).map (verR nm) by rw [List.map_append,hY.out,HTl.out,List.append_assoc];simp only [List.map_cons,List.map_nil,HYl.out])
      have HL6:=Lib.hid (show (Y ++ [yi]).length ≤ 1 + i * 1024 + (k + 1) by have:=hYl.out;rw [List.length_append];simp;omega)
      clear ho6 hg6 hat6 HGw HO5 HB5 HT5 HYc y0 y1 y2
      go_wp2_with fail
      go_roundw
      case rel=>exact ⟨k + 1,_,by omega,by go_num,HY6,HL6,HO6,HB6,HT6⟩
      case measure=>simp [RowKit.intOf];omega
     ·obtain rfl:k = l.length:=by omega
      have HY7:=Lib.hid (show Y.map (·.l) = X0.map (·.l) ++ (s.k.take (i + 1)).flatMap versL by rw [hY.out,List.take_length,hX.out,HTk.out,List.append_assoc])
      have HL7:=Lib.hid (show Y.length ≤ 1 + (i + 1) * 1024 by have:=hYl.out;omega)
      clear hY hYl
      go_wp2_with fail
      go_roundw
      case rel=>exact ⟨i + 1,Y,by omega,by go_num,HY7,HL7,hO,hb,hT⟩
      case measure=>simp [RowKit.intOf];omega
   ·obtain rfl:i = s.k.length:=by omega
    have HX7:=Lib.hid (show X.map (·.l) = X0.map (·.l) ++ s.k.flatMap versL by rw [hX.out,List.take_length])
    have HL7:=Lib.hid (show X.length ≤ 1 + 1024 * 1024 by have:=hXl.out;have:s.k.length * 1024 ≤ 1024 * 1024:=Nat.mul_le_mul_right _ (by omega);omega)
    have s2:=(HH.out _ hb.out).cel.cell (i:=2) rfl
    clear hX hXl hT
    have HOc:=hO
    have HBc:=hb
    go_wp2_with fail
    go_loopw [3,66] (fun ov iv wr=>∃ (j:Nat) (Z:List RI),j ≤ s.e.length ∧ iv = .int .i64 (j:Int) ∧ Hid (Z.map (·.l) = X0.map (·.l) ++ s.k.flatMap versL ++ (s.e.take j).map doR) ∧ Hid (Z.length ≤ 1 + 1024 * 1024 + j) ∧ Hid (OutL W wr ov Z) ∧ Hid (Below W.heap.size W wr)) (fun _ iv _=>s.e.length - (RowKit.intOf iv).toNat)
    case atStart=>exact ⟨0,X,by omega,rfl,Lib.hid (by rw [HX7.out];simp),Lib.hid (by have:=HL7.out;omega),HOc,HBc⟩
    case round =>
     clear hO hb HOc HBc HX7 HL7 s2
     obtain ⟨j,Z,hj,rfl,hZ,hZl,hO,hb⟩:=hrel
     by_cases hjl:j < s.e.length
     ·have pj:(j:Int) < (s.e.length:Int):=by omega
      obtain ⟨ae,rfl,-,-,hce⟩:=HEn.out _ hb.out (by rw [flatN_len ecs_len];omega)
      have x0:=hce (j * 2) (.int .i64 (s.e[j]).1) (by have:=flatN_at ecs_len (L:=s.e) (i:=j) hjl (j:=0) (by omega);simpa [ecs] using this)
      have x1:=hce (j * 2 + 1) (.int .i64 (s.e[j]).2) (by have:=flatN_at ecs_len (L:=s.e) (i:=j) hjl (j:=1) (by omega);simpa [ecs] using this)
      rw [← Ch.add_field _ _ _ (by omega)] at x1
      have HTl:=Lib.hid (show (s.e.take (j + 1)).map doR = (s.e.take j).map doR ++ [doR s.e[j]] by rw [List.take_succ_eq_append_getElem hjl,List.map_append];rfl)
      have hro:=HEo.out _ (List.getElem_mem hjl)
      have HRo:=Lib.hid (doR_ok hro.1 hro.2)
      clear hce hro
      generalize s.e[j] = y at x0 x1 HTl HRo
      obtain ⟨ya,yb⟩:=y
      simp only at x0 x1
      have hb1:Below wr.heap.size wr (wr.alloc (.cells #[.int .i64 ya,.int .i64 yb] 97)):=(Below.refl _ wr).alloc (Nat.le_refl _) _
      obtain ⟨w5,hw5⟩:∃ w5,w5 = wr.alloc (.cells #[.int .i64 ya,.int .i64 yb] 97):=⟨_,rfl⟩
      rw [← hw5] at hb1
      have HB5:=Lib.hid (hb.out.trans (hb1.mono hb.out.size))
      have HO5:=Lib.hid (hO.out.below hb1)
      have HGw:=Lib.hid (fun w2 v' ho hg hat=>OutL.grow (y:=bareI (doR (ya,yb))) (w2:=w2) (v':=v') HO5.out HB5.out.size (Below.refl _ _) (bareI_val _ HRo.out rfl rfl) (bare_new _ _) (fun hp=>absurd hp (by simp [bareI,doR])) ho hg hat)
      have h65:Z.length + 1 ≤ 1200000:=by have:=hZl.out;omega
      have hce5:Cel w5 wr.heap.size 97 [.int .i64 ya,.int .i64 yb]:=by rw [hw5];exact (blk1 wr _).2
      have q0:=hce5.cell (i:=0) rfl
      have q1:=hce5.cell (i:=1) rfl
      clear hb1 hO hb hce5
      go_upto_region 16 with fail
      rw [← hw5]
      clear hw5 x0 x1
      go_wp2_with (at_builtin;refine wpList_append_own_at _ rfl _ _ 22 rfl W.heap.size 37 i9 z9 9 120 Tryz.underlying22 hi9 hz9 hs9 hb9 hzs9 (by decide) _ Z.length (Z.flatMap rcs) rfl (st_keep HO5.out.row ((Below.refl _ w5).alloc (Nat.le_refl _) _)) ⟨w5.heap.size,0,none⟩ 1 1 (rcs (bareI (doR (ya,yb)))) rfl rfl ?e1b ?e2b ?e3b ?e4b ?e5b ?_)
      case e1b=>exact fun j u hu=>hu
      case e2b=>exact recs_cells _
      case e3b=>unfold maxLen;omega
      case e4b=>omega
      case e5b=>have:=HB5.out.size;simp;omega
      intro v6 w6 ho6 hg6 _ hat6
      have HO6:=Lib.hid (HGw.out w6 v6 ho6 hg6 hat6)
      have HB6:=Lib.hid (grow_below HB5.out HO5.out hg6)
      have HY6:=Lib.hid (show (Z ++ [bareI (doR (ya,yb))]).map (·.l) = X0.map (·.l) ++ s.k.flatMap versL ++ (s.e.take (j + 1)).map doR by rw [List.map_append,hZ.out,HTl.out,List.append_assoc];rfl)
      have HL6:=Lib.hid (show (Z ++ [bareI (doR (ya,yb))]).length ≤ 1 + 1024 * 1024 + (j + 1) by have:=hZl.out;rw [List.length_append];simp;omega)
      clear ho6 hg6 hat6 HGw HO5 HB5 q0 q1
      go_wp2_with fail
      go_roundw
      case rel=>exact ⟨j + 1,_,by omega,by go_num,HY6,HL6,HO6,HB6⟩
      case measure=>simp [RowKit.intOf];omega
     ·obtain rfl:j = s.e.length:=by omega
      have HX8:=Lib.hid (show Z.map (·.l) = X0.map (·.l) ++ s.k.flatMap versL ++ s.e.map doR by rw [hZ.out,List.take_length])
      have HL8:=Lib.hid (show Z.length ≤ 1 + 1024 * 1024 + 1024 by have:=hZl.out;omega)
      clear hZ hZl
      go_wp2_with fail
      refine (HOp.out _ hb.out).mono ?_
      rintro e7 w7 ⟨u7,rfl,hrow,hb7⟩
      have HB7:=Lib.hid (hb.out.trans (hb7.mono hb.out.size))
      have HO7:=Lib.hid (hO.out.below hb7)
      obtain ⟨A7,c7,rfl,hst,-,-,-⟩:=own_rowF (F:=fun k=>Value.ownBlock _ = some k) hrow (by rw [intV_len,List.length_map];omega) (fun k hk=>(hO.out.row.lt k hk).2)
      have HT7:=Lib.hid hst
      clear hb7 hrow hst hO hb
      go_wp2_with fail
      go_loopw [3,82] (fun ov iv wr=>∃ (q:Nat) (Z:List RI),q ≤ s.p.length ∧ iv = .int .i64 (q:Int) ∧ Hid (Z.map (·.l) = X0.map (·.l) ++ s.k.flatMap versL ++ s.e.map doR ++ s.p.take q) ∧ Hid (Z.length ≤ 1 + 1024 * 1024 + 1024 + q) ∧ Hid (OutL W wr ov Z) ∧ Hid (Below W.heap.size W wr) ∧ Hid (RowF wr (fun k=>ov.ownBlock = some k) A7 (intV (s.p.map (·.txn))))) (fun _ iv _=>s.p.length - (RowKit.intOf iv).toNat)
      case atStart=>exact ⟨0,Z,by omega,rfl,Lib.hid (by rw [HX8.out];simp),Lib.hid (by have:=HL8.out;omega),HO7,HB7,HT7⟩
      case round =>
       clear HO7 HB7 HT7 HX8 HL8
       obtain ⟨q,Z,hq,rfl,hZ,hZl,hO,hb,hT⟩:=hrel
       by_cases hql:q < s.p.length
       ·have pq:(q:Int) < (s.p.length:Int):=by omega
        obtain ⟨r,hr⟩:∃ r,s.p[q]? = some r:=⟨_,List.getElem?_eq_getElem hql⟩
        have hre:=(List.getElem?_eq_some_iff.1 hr).2
        obtain ⟨at7,rfl,-,-,hc⟩:=hT.out (by rw [intV_len,List.length_map];omega)
        have q0:=hc q (.int .i64 r.txn) (by unfold intV;rw [List.getElem?_map,List.getElem?_map,hr];rfl)
        have hTl:s.p.take (q + 1) = s.p.take q ++ [r]:=by rw [List.take_succ_eq_append_getElem hql,hre]
        have hrm:r ∈ s.p:=by rw [← hre];exact List.getElem_mem hql
        have hro:=HPk.out r hrm
        have hkd:=(kind_1 hro.2).1 hro.1.2
        have hwl:r.ws.length ≤ 1024:=by have:r.ws.length ≤ 16:=hkd.2.2.2.2.1;omega
        have hkl:r.keys.length ≤ 1024:=by have:=hkd.2.2.1;omega
        obtain ⟨x,hx,hxl,hmem⟩:=(HH.out _ hb.out).prep_in (prep_here HS.out hr)
        have l0:=(HH.out _ hb.out).mp.look Tryz.underlying86 (Tryz.zeroRec wr) (x:=r.txn) hmem
        have hc1:=HCp.out x wr ((HH.out _ hb.out).pv x hx).val (by rw [hxl];exact hkl) (by rw [hxl];exact hwl)
        obtain ⟨xr,xA,xB,xc,xd⟩:=x
        simp only at hxl hc1 l0
        subst hxl
        have s1:=(HH.out _ hb.out).cel.cell (i:=1) rfl
        have l1:(Instr.lookup 86 (.map (some bp)) (.int .i64 xr.txn) false).run Tryz.prog wr = .ok (.agg #[.int .i64 xr.kind,.int .i64 xr.txn,.int .i64 xr.ts,.int .i64 xr.coord,.string xr.key,.string xr.text,.bool xr.dead,.slice xA xr.keys.length xc,.slice xB xr.ws.length xd]) wr:=l0
        unfold rcs at hc1
        have HC1:=Lib.hid hc1
        have HTl:=Lib.hid hTl
        clear hc hre hTl hrm hro hkd hwl hkl hx hmem l0 hc1 hr
        go_wp2_with fail
        refine HC1.out.mono ?_
        rintro e5 w5 ⟨y,rfl,hyl,hyv,hyf,hya,hyb,hb5⟩
        have HO5:=Lib.hid (hO.out.below hb5)
        have HB5:=Lib.hid (hb.out.trans (hb5.mono hb.out.size))
        have HT5:=Lib.hid (hT.out.below hb5)
        have HYl:=Lib.hid hyl
        have HGw:=Lib.hid (fun w2 v' ho hg hat=>OutL.grow (y:=y) (w2:=w2) (v':=v') hO.out hb.out.size hb5 hyv ⟨fun hp ad e=>hya (by rw [hyl] at hp;exact hp) ad e,fun hp ad e=>hyb (by rw [hyl] at hp;exact hp) ad e⟩ hyf ho hg hat)
        have HYc:=Lib.hid (show rcs y = [.int .i64 y.l.kind,.int .i64 y.l.txn,.int .i64 y.l.ts,.int .i64 y.l.coord,.string y.l.key,.string y.l.text,.bool y.l.dead,.slice y.A y.l.keys.length y.c,.slice y.B y.l.ws.length y.d] from rfl)
        have h65:Z.length + 1 ≤ 1200000:=by have:=hZl.out;omega
        clear hyl hyv hyf hya hyb hb5 HC1 hO hb hT q0 s1 l1
        go_wp2_with (at_builtin;refine wpList_append_own_at _ rfl _ _ 22 rfl W.heap.size 37 i9 z9 9 120 Tryz.underlying22 hi9 hz9 hs9 hb9 hzs9 (by decide) _ Z.length (Z.flatMap rcs) rfl (st_keep HO5.out.row ((Below.refl _ w5).alloc (Nat.le_refl _) _)) ⟨w5.heap.size,0,none⟩ 1 1 (rcs y) rfl rfl ?f1b ?f2b ?f3b ?f4b ?f5b ?_)
        case f1b=>first | exact fun j u hu=>hu | exact fun j u hu=>by rw [addr_head];exact blk_cell (blk1 w5 _).2 (by rw [List.getElem?_toArray,← HYc.out];exact hu)
        case f2b=>exact recs_cells _
        case f3b=>unfold maxLen;omega
        case f4b=>omega
        case f5b=>have:=HB5.out.size;simp;omega
        intro v6 w6 ho6 hg6 _ hat6
        have HO6:=Lib.hid (HGw.out w6 v6 ho6 hg6 hat6)
        have HB6:=Lib.hid (grow_below HB5.out HO5.out hg6)
        have HT6:=Lib.hid (grow_row HT5.out hg6 hat6)
        have HY6:=Lib.hid (show (Z ++ [y]).map (·.l) = X0.map (·.l) ++ s.k.flatMap versL ++ s.e.map doR ++ s.p.take (q + 1) by rw [List.map_append,hZ.out,HTl.out];simp only [List.map_cons,List.map_nil,HYl.out,List.append_assoc])
        have HL6:=Lib.hid (show (Z ++ [y]).length ≤ 1 + 1024 * 1024 + 1024 + (q + 1) by have:=hZl.out;rw [List.length_append];simp;omega)
        clear ho6 hg6 hat6 HGw HO5 HB5 HT5 HYc
        go_wp2_with fail
        go_roundw
        case rel=>exact ⟨q + 1,_,by omega,by go_num,HY6,HL6,HO6,HB6,HT6⟩
        case measure=>simp [RowKit.intOf];omega
       ·obtain rfl:q = s.p.length:=by omega
        have HX9:=Lib.hid (show Z.map (·.l) = recordsP s by rw [hZ.out,List.take_length,HE0.out])
        clear hZ hZl hT
        go_wp2_with fail
        go_ret
        exact ⟨_,Z,rfl,HX9.out,hO.out,hb.out⟩
end
end Sh
end Go.Proofs.YtbkanoblcojdfaaGreat
