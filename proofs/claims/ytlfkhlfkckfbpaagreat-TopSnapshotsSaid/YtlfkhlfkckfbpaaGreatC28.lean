/- Parts of the proof, joined: ShL6, ShL7, ShL8, ShL10, ShL11, ShL12, ShL13; their conditions stand with each. -/
import Derived.Test.YtlfkhlfkckfbpaaGreatC3
import Derived.Test.YtlfkhlfkckfbpaaGreatC4
import Derived.Test.YtlfkhlfkckfbpaaGreatC5
import Derived.Test.YtlfkhlfkckfbpaaGreatC27

set_option maxRecDepth 20000
set_option maxHeartbeats 8000000
namespace Go.Proofs.YtlfkhlfkckfbpaaGreat
namespace Sh
open Go.RowKit Bk Ch Lt Rc Tr
attribute [local go_sem ↓] Go.wp_at_zero Go.wp_at_succ
attribute [local go_sem] floatUpon pick
abbrev zero9:List Value:=[.int .i64 0,.int .i64 0,.int .i64 0,.int .i64 0,.string ⟨#[]⟩,.string ⟨#[]⟩,.bool false,.slice none 0 0,.slice none 0 0]
structure E9 (w W:World) (cs:List Value):Prop where
 cel:Cel W w.heap.size 60 cs
 res:Cel W (w.heap.size + 1) 60 zero9
 bel:Below w.heap.size w W
theorem E9.step {w W W':World} {cs:List Value} (h:E9 w W cs) (hb:Below W.heap.size W W'):E9 w W' cs:=⟨h.cel.below hb,h.res.below hb,h.bel.trans (hb.mono h.bel.size)⟩
theorem E9.drew {w W:World} {cs:List Value} (h:E9 w W cs):E9 w W.drew cs:=⟨h.cel,h.res,h.bel.drew⟩
theorem E9.put {w W:World} {cs:List Value} (h:E9 w W cs) (i:Nat) (v:Value):E9 w (W.setCell ⟨w.heap.size,i,none⟩ v) (cs.set i v) :=
 ⟨h.cel.set,h.res.far (by omega),h.bel.setCell (Nat.le_refl _) _⟩
theorem E9.same {w W:World} {cs:List Value} (h:E9 w W cs) (i:Nat) (v:Value) (hv:cs[i]? = some v):E9 w (W.setCell ⟨w.heap.size,i,none⟩ v) cs :=
 ⟨Ch.Cel.put_same h.cel hv,h.res.far (by omega),h.bel.setCell (Nat.le_refl _) _⟩
abbrev c9 (r:Rec) (v7 v8:Value):List Value:=[.int .i64 r.kind,.int .i64 r.txn,.int .i64 r.ts,.int .i64 r.coord,.string r.key,.string r.text,.bool r.dead,v7,v8]
structure CpEnv (w W:World) (r:Rec) (v7 v8:Value) (ks:List ByteArray) (ws:List Wr):Prop where
 e:E9 w W (c9 r v7 v8)
 r0:W.ownsRow w.heap.size 9 1 v7 ks.length (strV ks)
 r1:W.ownsRow w.heap.size 139 3 v8 ws.length (wrV ws)
theorem CpEnv.step {w W W':World} {r:Rec} {v7 v8:Value} {ks:List ByteArray} {ws:List Wr} (h:CpEnv w W r v7 v8 ks ws) (hb:Below W.heap.size W W'):CpEnv w W' r v7 v8 ks ws:=⟨h.e.step hb,st_keep h.r0 hb,st_keep h.r1 hb⟩
theorem own_cel_ne {W:World} {e t:TypeId} {H sz n g:Nat} {v:Value} {xs cs:List Value} (h:W.ownsRow H e sz v n xs) (hc:Cel W g t cs) (hne:e ≠ t):v.ownBlock ≠ some g:=by
 rcases h.2 with ⟨rfl,_⟩ | ⟨i,cap,cur,rfl,_,hg,_⟩
 ·intro e1;cases e1
 ·intro e1
  obtain rfl:i = g:=by simpa [Value.ownBlock] using e1
  rw [hc] at hg
  simp only [Option.some.injEq,Obj.cells.injEq] at hg
  exact hne hg.2.1.symm
theorem E9.grown {w W W1:World} {cs:List Value} {row:Option Nat} (h:E9 w W cs) (hg:W.grownBy W1 row) (h0:row ≠ some w.heap.size) (h1:row ≠ some (w.heap.size + 1)) (hr:∀ k,row = some k → w.heap.size ≤ k):E9 w W1 cs :=
 ⟨(hg.block _ h.cel.lt (fun e=>h0 e.symm)).trans h.cel,(hg.block _ h.res.lt (fun e=>h1 e.symm)).trans h.res,h.bel.grown hg h.bel.size hr⟩
theorem CpEnv.grow1 {w W W1:World} {r:Rec} {v7 v8 v':Value} {ks ks':List ByteArray} {ws:List Wr} {n':Nat} (h:CpEnv w W r v7 v8 ks ws) (ho:W1.ownsRow w.heap.size 9 1 v' n' (strV ks')) (hl:n' = ks'.length) (hg:W.grownBy W1 v7.ownBlock) :
  E9 w W1 (c9 r v7 v8) ∧ CpEnv w (W1.setCell ⟨w.heap.size,7,none⟩ v') r v' v8 ks' ws:=by
 subst hl
 have e1:=h.e.grown hg (own_cel_ne h.r0 h.e.cel (by decide)) (own_cel_ne h.r0 h.e.res (by decide)) (fun k hk=>(h.r0.lt k hk).1)
 have h2:=rgrow2 h.r1 h.r0 (by decide) hg
 exact ⟨e1,e1.put 7 v',ownsRow_setCell_other ho (own_cel_ne ho e1.cel (by decide)) _,ownsRow_setCell_other h2 (own_cel_ne h2 e1.cel (by decide)) _⟩
theorem CpEnv.grow2 {w W W1:World} {r:Rec} {v7 v8 v':Value} {ks:List ByteArray} {ws ws':List Wr} {n':Nat} (h:CpEnv w W r v7 v8 ks ws) (ho:W1.ownsRow w.heap.size 139 3 v' n' (wrV ws')) (hl:n' = ws'.length) (hg:W.grownBy W1 v8.ownBlock) :
  E9 w W1 (c9 r v7 v8) ∧ CpEnv w (W1.setCell ⟨w.heap.size,8,none⟩ v') r v7 v' ks ws':=by
 subst hl
 have e1:=h.e.grown hg (own_cel_ne h.r1 h.e.cel (by decide)) (own_cel_ne h.r1 h.e.res (by decide)) (fun k hk=>(h.r1.lt k hk).1)
 have h2:=rgrow2 h.r0 h.r1 (by decide) hg
 exact ⟨e1,e1.put 8 v',ownsRow_setCell_other h2 (own_cel_ne h2 e1.cel (by decide)) _,ownsRow_setCell_other ho (own_cel_ne ho e1.cel (by decide)) _⟩
def FrK (w:World) (y:RI):Prop:=0 < y.l.keys.length → ∃ gg xs,y.A = some ⟨gg,0,none⟩ ∧ Cel w gg 9 xs ∧ y.l.keys.length ≤ xs.length
theorem FrK.keep {w w':World} {y:RI} (h:FrK w y) (hk:∀ ad,y.A = some ad → ad.block < w.heap.size → w'.heap[ad.block]? = w.heap[ad.block]?):FrK w' y:=fun hp=>by
 obtain ⟨gg,xs,e,hc,hl⟩:=h hp
 exact ⟨gg,xs,e,(hk _ e hc.lt).trans hc,hl⟩
theorem FrK.row {W:World} {H:Nat} {y:RI} (h:W.ownsRow H 9 1 (.slice y.A y.l.keys.length y.c) y.l.keys.length (strV y.l.keys)):FrK W y:=fun hn=>by
 rcases h.2 with ⟨_,h0⟩ | ⟨g,cap,cur,hv,_,hg,hnc,_,hz,_⟩
 ·omega
 ·simp only [Value.slice.injEq,true_and] at hv
  obtain ⟨e1,e2⟩:=hv
  exact ⟨g,cur.toList,e1,by unfold Cel;rw [hg],by rw [Array.length_toList];omega⟩
theorem copied_any (x:RI) (w:World) (hv:RecVal w x.A x.B x.c x.d x.l) (hk:x.l.keys.length ≤ 1024) (hw:x.l.ws.length ≤ 1024) :
  Calls Tryz.prog 67 #[.agg (rcs x).toArray] w fun e w'=>∃ y:RI,e = .returned (.agg (rcs y).toArray) ∧ y.l = x.l ∧ RecVal w' y.A y.B y.c y.d y.l ∧ FrK w' y ∧ (0 < x.l.keys.length → ∀ ad,y.A = some ad → w.heap.size ≤ ad.block) ∧ (0 < x.l.ws.length → ∀ ad,y.B = some ad → w.heap.size ≤ ad.block) ∧ Below w.heap.size w w':=by
 obtain ⟨r,A,B,c,d⟩:=x
 simp only at hv hk hw
 have HCl:=Lib.hid (fun s W hs=>Bk.clone_any s W hs)
 have HK:=Lib.hid hv.rng.key
 have HT:=Lib.hid hv.rng.text
 have HKs:=Lib.hid (fun W (hb:Below w.heap.size w W)=>hv.ks.below hb)
 have HWs:=Lib.hid (fun W (hb:Below w.heap.size w W) i (hi:i < r.ws.length)=>wrs_at (hv.ws.below hb) hi)
 have HSz:=Lib.hid (show ∀ s ∈ r.keys,s.size ≤ 281474976710656 from fun s hs=>by have:=hv.rng.kr s hs;unfold reachBytes at this;omega)
 have HSw:=Lib.hid (show ∀ x ∈ r.ws,x.key.size ≤ 281474976710656 ∧ x.shard.size ≤ 281474976710656 from fun x hx=>by have:=hv.rng.wr x hx;unfold reachBytes at this;omega)
 have HRg:=Lib.hid hv.rng.toRecRng
 obtain ⟨i0,hi,hz0,hz1,hz2⟩:=info_parts Tryz.infoStr
 obtain ⟨i1,hi',hz0',hz1',hz2'⟩:=info_parts Tryz.infoWrite
 have pk:(r.keys.length:Int) ≤ 1024:=by omega
 have pw:(r.ws.length:Int) ≤ 1024:=by omega
 obtain ⟨W2,hW2⟩:∃ W2,(w.alloc (.cells #[.int .i64 r.kind,.int .i64 r.txn,.int .i64 r.ts,.int .i64 r.coord,.string r.key,.string r.text,.bool r.dead,.slice A r.keys.length c,.slice B r.ws.length d] 60)).alloc (.cells zero9.toArray 60) = W2:=⟨_,rfl⟩
 obtain ⟨sz2,b1,b2⟩:=blk2 w (.cells #[.int .i64 r.kind,.int .i64 r.txn,.int .i64 r.ts,.int .i64 r.coord,.string r.key,.string r.text,.bool r.dead,.slice A r.keys.length c,.slice B r.ws.length d] 60) (.cells zero9.toArray 60)
 have hE:E9 w W2 (c9 r (.slice A r.keys.length c) (.slice B r.ws.length d)):=by
  rw [← hW2]
  exact ⟨b1,b2,((Below.refl _ w).alloc (Nat.le_refl _) _).alloc (by simp) _⟩
 show Calls _ _ #[.agg #[.int .i64 r.kind,.int .i64 r.txn,.int .i64 r.ts,.int .i64 r.coord,.string r.key,.string r.text,.bool r.dead,.slice A r.keys.length c,.slice B r.ws.length d]] _ _
 clear sz2 b1 b2
 go_enter Tryz.func67,Tryz.ntmps67
 have rb:reachBytes = 140737488351232:=rfl
 have hks:r.key.size ≤ 281474976710656:=by have:=HK.out;omega
 have hts:r.text.size ≤ 281474976710656:=by have:=HT.out;omega
 go_upto_region 1 with fail
 clear hW2
 go_cut [11] from 9 to 16 (fun _ wx=>E9 w wx (c9 r (.slice A r.keys.length c) (.slice B r.ws.length d)))
 case first =>
  have q4:=hE.cel.cell (i:=4) rfl
  have q5:=hE.cel.cell (i:=5) rfl
  have f4:=hE.cel.free (i:=4)
  have f5:=hE.cel.free (i:=5)
  go_region_with ((go_at_call 60;refine (HCl.out _ _ (by first | exact hks | exact hts)).mono ?_;rintro e w5 ⟨rfl,hb5⟩;have M5:E9 w w5 (c9 r (.slice A r.keys.length c) (.slice B r.ws.length d)):=E9.step (by repeat (first | assumption | refine E9.drew ?_ | refine E9.same ?_ 4 _ rfl | refine E9.same ?_ 5 _ rfl)) hb5;have q4:=M5.cel.cell (i:=4) rfl;have q5:=M5.cel.cell (i:=5) rfl;have f4:=M5.cel.free (i:=4);have f5:=M5.cel.free (i:=5);clear hb5))
  all_goals
   go_wp2_with fail
   go_meet
   case rel=>exact (by repeat (first | assumption | refine E9.drew ?_ | refine E9.same ?_ 4 _ rfl | refine E9.same ?_ 5 _ rfl))
 case rest =>
  have q7:=hcut.cel.cell (i:=7) rfl
  have q8:=hcut.cel.cell (i:=8) rfl
  have HE2:=Lib.hid hcut
  clear hcut hE hks hts
  go_upto_region 2 with fail
  go_quiet (fail)
  rename_i nq
  clear q7 q8
  have hE3:E9 w (wc.drewN nq) (c9 r (.slice A r.keys.length c) (.slice B r.ws.length d)):=⟨HE2.out.cel,HE2.out.res,below_drewN HE2.out.bel nq⟩
  generalize wc.drewN nq = W3 at hE3 ⊢
  have f7:=hE3.cel.free (i:=7)
  have f8:=hE3.cel.free (i:=8)
  have q7:=hE3.cel.cell (i:=7) rfl
  have q8:=hE3.cel.cell (i:=8) rfl
  have hE4:=(hE3.put 7 (.slice none 0 0)).put 8 (.slice none 0 0)
  have HC0:Hid (CpEnv w ((W3.setCell ⟨w.heap.size,7,none⟩ (.slice none 0 0)).setCell ⟨w.heap.size,8,none⟩ (.slice none 0 0)) r (.slice none 0 0) (.slice none 0 0) [] []):=Lib.hid ⟨hE4,World.ownsRow_nil _ _ _ _,World.ownsRow_nil _ _ _ _⟩
  clear hE4 hE3 HE2
  go_upto_region 4 with fail
  generalize (W3.setCell ⟨w.heap.size,7,none⟩ (.slice none 0 0)).setCell ⟨w.heap.size,8,none⟩ (.slice none 0 0) = W4 at HC0 ⊢
  clear f7 f8 q7 q8
  go_wp2_with fail
  go_loopw [25] (fun iv wr=>∃ (j:Nat) (v7:Value),j ≤ r.keys.length ∧ iv = .int .i64 (j:Int) ∧ Hid (CpEnv w wr r v7 (.slice none 0 0) (r.keys.take j) [])) (fun iv _=>r.keys.length - (RowKit.intOf iv).toNat)
  case atStart=>exact ⟨0,_,Nat.zero_le _,rfl,HC0⟩
  case round =>
   obtain ⟨j,v7,hj,rfl,hcp⟩:=hrel
   clear HC0
   by_cases hlt:j < r.keys.length
   ·have pj:(j:Int) < (r.keys.length:Int):=by omega
    obtain ⟨ad,rfl,_,hcl⟩:=HKs.out _ hcp.out.e.bel (by omega)
    have x0:=hcl j hlt
    have hsz:=HSz.out _ (List.getElem_mem hlt)
    have HTk:=Lib.hid (List.take_succ_eq_append_getElem hlt)
    generalize r.keys[j] = k at x0 hsz HTk
    have HClk:=Lib.hid (fun W=>HCl.out k W hsz)
    clear hcl hsz
    go_upto_region 7 with fail
    clear x0
    refine wp_region_said 5 [29,30,31,32,33]
     [.is (.pointer (some ⟨w.heap.size,7,none⟩)),.is v7,.is (.string k),.is (.string k),.arr 9 #[.string k] 1 1]
     (fun W=>CpEnv w W r v7 (.slice none 0 0) (r.keys.take j) []) (by kernel_rfl) (by kernel_rfl) (by kernel_rfl) (by kernel_rfl) (by kernel_rfl) (fun W W' h hb=>h.step hb) hcp.out ?steps ?last
    case steps =>
     simp only [List.take_succ_cons,List.take_zero]
     refine ⟨?_,?_,?_,?_,?_,trivial⟩
     all_goals
      intro vs W ρ hρ hc hf hg hI hH hd R' hR
      have q7:=hI.e.cel.cell (i:=7) rfl
      have HR:=Lib.hid hR
      simp [depsOf,Region.binds,sayAt,Say.holds] at hd
      clear hR hI
      go_simp
      first
       | exact HR.out _ _ (by simp [sayAt,Say.holds]) (Below.refl _ _) (by simp [sayAt,Say.isBlk])
       | exact HR.out _ _ ⟨_,hH,by simp,rfl,heap_alloc_new _ _⟩ ((Below.refl _ _).alloc (Nat.le_refl _) _) (fun h=>by cases h)
       | (refine (HClk.out _).mono ?_;rintro e w' ⟨rfl,hb⟩;exact ⟨_,rfl,HR.out _ _ (by simp [sayAt,Say.holds]) hb (by simp [sayAt,Say.isBlk])⟩)
    case last =>
     intro vs W hI hb hg hd
     have g1:=hg 1 (by omega)
     obtain ⟨o,ho1,ho2,g4,ho⟩:=hg 4 (by omega)
     simp only [sayAt,Say.holds,List.getD_cons_succ,List.getD_cons_zero] at g1
     simp only [List.take_succ_cons,List.take_zero,List.drop_succ_cons,List.drop_zero,putAll,Act.put,List.setIfInBounds_toArray,List.set_cons_succ,List.set_cons_zero,Nat.zero_add,Nat.reduceAdd]
     rw [g1,g4]
     have HI:=Lib.hid hI
     have hlen:(r.keys.take j).length = j:=by rw [List.length_take];omega
     clear g1 g4 hg hd hI hcp
     refine wpList_append_own_at _ rfl _ _ 57 rfl w.heap.size 9 i0 (.string ⟨#[]⟩) 1 16 Tryz.underlying57 hi hz0 hz1 hz2 rfl (by decide) _ _ _ rfl HI.out.r0 ⟨o,0,none⟩ 1 1 [.string k] rfl rfl ?d1 ?d2 ?d3 ?d4 HI.out.e.bel.size ?_
     case d1=>exact str_one ho
     case d2=>intro u hu;simp at hu;subst hu;rfl
     case d3=>rw [hlen];unfold maxLen;omega
     case d4=>rw [hlen];omega
     intro v' w5 hown' hgrow _ hat
     obtain ⟨he5,hcp5⟩:=CpEnv.grow1 (ks':=r.keys.take (j + 1)) HI.out (by rw [HTk.out,Pk.strV_snoc2];exact hown') (by rw [HTk.out,List.length_append];rfl) hgrow
     have f7:=he5.cel.free (i:=7)
     have q7:=he5.cel.cell (i:=7) rfl
     obtain ⟨gn,capn,rfl,_,_⟩:=World.ownsRow.form hown' (by omega)
     rw [hlen] at hcp5
     have HC5:=Lib.hid hcp5
     clear hown' hgrow hat HI ho ho1 ho2 hb he5 hcp5 hlen
     go_wp2_with fail
     go_roundw
     case rel=>exact ⟨j + 1,_,by omega,by go_num,HC5⟩
     case measure=>simp [RowKit.intOf];omega
   ·obtain rfl:j = r.keys.length:=by omega
    have hc7:=hcp.out
    rw [List.take_length] at hc7
    have HC7:=Lib.hid hc7
    clear hcp hc7
    go_wp2_with fail
    go_loopw [39] (fun iv wr=>∃ (j:Nat) (v8:Value),j ≤ r.ws.length ∧ iv = .int .i64 (j:Int) ∧ Hid (CpEnv w wr r v7 v8 r.keys (r.ws.take j))) (fun iv _=>r.ws.length - (RowKit.intOf iv).toNat)
    case atStart=>exact ⟨0,_,Nat.zero_le _,rfl,HC7⟩
    case round =>
     obtain ⟨j,v8,hj,rfl,hcp⟩:=hrel
     clear HC7
     by_cases hlt:j < r.ws.length
     ·have pj:(j:Int) < (r.ws.length:Int):=by omega
      obtain ⟨ad,rfl,x0,x1,x2⟩:=HWs.out _ hcp.out.e.bel j hlt
      obtain ⟨hsk,hst⟩:=HSw.out _ (List.getElem_mem hlt)
      have HTk:=Lib.hid (List.take_succ_eq_append_getElem hlt)
      generalize r.ws[j] = X at x0 x1 x2 hsk hst HTk
      obtain ⟨k,t,dd⟩:=X
      simp only at x0 x1 x2 hsk hst
      have HClk:=Lib.hid (fun W=>HCl.out k W hsk)
      have HClt:=Lib.hid (fun W=>HCl.out t W hst)
      have hb5:Below wr.heap.size wr (wr.alloc (.cells #[.string k,.string t,.bool dd] 139)):=(Below.refl _ wr).alloc (Nat.le_refl _) _
      have hV5:Cel (wr.alloc (.cells #[.string k,.string t,.bool dd] 139)) wr.heap.size 139 [.string k,.string t,.bool dd]:=(blk1 wr _).2
      have HC5:=Lib.hid (hcp.out.step hb5)
      have HV5:=Lib.hid hV5
      clear hsk hst hcp hb5 hV5
      go_upto_region 12 with fail
      generalize wr.alloc (.cells #[.string k,.string t,.bool dd] 139) = W5 at HC5 HV5 ⊢
      generalize wr.heap.size = vb at HV5 ⊢
      clear x0 x1 x2
      refine wp_region_said 12 [43,44,45,46,47,48,49,50,51,52,53,54]
       [.is (.pointer (some ⟨w.heap.size,8,none⟩)),.is v8,.is (.pointer (some ⟨vb,0,none⟩)),.is (.string k),.is (.string k),.is (.pointer (some ⟨vb,1,none⟩)),.is (.string t),.is (.string t),.is (.pointer (some ⟨vb,2,none⟩)),.is (.bool dd),.is (.agg #[.string k,.string t,.bool dd]),.arr 139 #[.string k,.string t,.bool dd] 1 1]
       (fun W=>CpEnv w W r v7 v8 r.keys (r.ws.take j) ∧ Cel W vb 139 [.string k,.string t,.bool dd]) (by kernel_rfl) (by kernel_rfl) (by kernel_rfl) (by kernel_rfl) (by kernel_rfl) (fun W W' h hb=>⟨h.1.step hb,h.2.below hb⟩) ⟨HC5.out,HV5.out⟩ ?stepsw ?lastw
      case stepsw =>
       simp only [List.take_succ_cons,List.take_zero]
       refine ⟨?_,?_,?_,?_,?_,?_,?_,?_,?_,?_,?_,?_,trivial⟩
       all_goals
        intro vs W ρ hρ hc hf hg hI hH hd R' hR
        have q8:=hI.1.e.cel.cell (i:=8) rfl
        have y0:=hI.2.cell (i:=0) rfl
        have y1:=hI.2.cell (i:=1) rfl
        have y2:=hI.2.cell (i:=2) rfl
        have HR:=Lib.hid hR
        simp [depsOf,Region.binds,sayAt,Say.holds] at hd
        clear hR hI
        go_simp
        first
         | exact HR.out _ _ (by simp [sayAt,Say.holds]) (Below.refl _ _) (by simp [sayAt,Say.isBlk])
         | exact HR.out _ _ ⟨_,hH,by simp,rfl,heap_alloc_new _ _⟩ ((Below.refl _ _).alloc (Nat.le_refl _) _) (fun h=>by cases h)
         | (refine (HClk.out _).mono ?_;rintro e w' ⟨rfl,hb⟩;exact ⟨_,rfl,HR.out _ _ (by simp [sayAt,Say.holds]) hb (by simp [sayAt,Say.isBlk])⟩)
         | (refine (HClt.out _).mono ?_;rintro e w' ⟨rfl,hb⟩;exact ⟨_,rfl,HR.out _ _ (by simp [sayAt,Say.holds]) hb (by simp [sayAt,Say.isBlk])⟩)
      case lastw =>
       intro vs W hI hb hg hd
       have g1:=hg 1 (by omega)
       obtain ⟨o,ho1,ho2,g4,ho⟩:=hg 11 (by omega)
       simp only [sayAt,Say.holds,List.getD_cons_succ,List.getD_cons_zero] at g1
       simp only [List.take_succ_cons,List.take_zero,List.drop_succ_cons,List.drop_zero,putAll,Act.put,List.setIfInBounds_toArray,List.set_cons_succ,List.set_cons_zero,Nat.zero_add,Nat.reduceAdd]
       rw [g1,g4]
       have HI:=Lib.hid hI.1
       have hlen:(r.ws.take j).length = j:=by rw [List.length_take];omega
       clear g1 g4 hg hd hI HC5 HV5
       refine wpList_append_own_at _ rfl _ _ 58 rfl w.heap.size 139 i1 (.agg #[.string ⟨#[]⟩,.string ⟨#[]⟩,.bool false]) 3 40 Tryz.underlying58 hi' hz0' hz1' hz2' rfl (by decide) _ _ _ rfl HI.out.r1 ⟨o,0,none⟩ 1 1 [.string k,.string t,.bool dd] rfl rfl ?d1w ?d2w ?d3w ?d4w HI.out.e.bel.size ?_
       case d1w=>exact new_row ho
       case d2w=>intro q hq;simp at hq;rcases hq with rfl | rfl | rfl <;> rfl
       case d3w=>rw [hlen];unfold maxLen;omega
       case d4w=>rw [hlen];omega
       intro v' w5 hown' hgrow _ hat
       obtain ⟨he5,hcp5⟩:=CpEnv.grow2 (ws':=r.ws.take (j + 1)) HI.out (by rw [HTk.out,wrV_snoc];exact hown') (by rw [HTk.out,List.length_append];rfl) hgrow
       have f8:=he5.cel.free (i:=8)
       have q8:=he5.cel.cell (i:=8) rfl
       obtain ⟨gn,capn,rfl,_,_⟩:=World.ownsRow.form hown' (by omega)
       rw [hlen] at hcp5
       have HC5:=Lib.hid hcp5
       clear hown' hgrow hat HI ho ho1 ho2 hb he5 hcp5 hlen
       go_wp2_with fail
       go_roundw
       case rel=>exact ⟨j + 1,_,by omega,by go_num,HC5⟩
       case measure=>simp [RowKit.intOf];omega
     ·obtain rfl:j = r.ws.length:=by omega
      have hc8:=hcp.out
      rw [List.take_length] at hc8
      obtain ⟨A7,c7,rfl,_⟩:=own_rowF (F:=fun _=>False) hc8.r0 (by rw [strV_len,Nat.mul_one]) (fun _ hf=>hf.elim)
      obtain ⟨B7,d7,rfl,_⟩:=own_rowF (F:=fun _=>False) hc8.r1 (wrV_len _) (fun _ hf=>hf.elim)
      obtain ⟨k1,k2,k3,k4⟩:=own_strs hc8.r0
      obtain ⟨m1,m2,m3,m4⟩:=own_wrs hc8.r1
      have HA7:=Lib.hid (fun ad (e:A7 = some ad)=>(hc8.r0.lt ad.block (by rw [e];rfl)).1)
      have HB7:=Lib.hid (fun ad (e:B7 = some ad)=>(hc8.r1.lt ad.block (by rw [e];rfl)).1)
      have HN7:=Lib.hid (fun ad (e:A7 = some ad)=>show ad.block ≠ w.heap.size + 1 from fun h=>own_cel_ne hc8.r0 hc8.e.res (by decide) (by rw [e];exact congrArg some h))
      have HN8:=Lib.hid (fun ad (e:B7 = some ad)=>show ad.block ≠ w.heap.size + 1 from fun h=>own_cel_ne hc8.r1 hc8.e.res (by decide) (by rw [e];exact congrArg some h))
      have q0:=hc8.e.cel.cell (i:=0) rfl
      have q1:=hc8.e.cel.cell (i:=1) rfl
      have q2:=hc8.e.cel.cell (i:=2) rfl
      have q3:=hc8.e.cel.cell (i:=3) rfl
      have q4:=hc8.e.cel.cell (i:=4) rfl
      have q5:=hc8.e.cel.cell (i:=5) rfl
      have q6:=hc8.e.cel.cell (i:=6) rfl
      have q7:=hc8.e.cel.cell (i:=7) rfl
      have q8:=hc8.e.cel.cell (i:=8) rfl
      have zq:=fun i=>hc8.e.res.free (i:=i)
      have t0:=hc8.e.res.cell (i:=0) rfl
      have t1:=hc8.e.res.cell (i:=1) rfl
      have t2:=hc8.e.res.cell (i:=2) rfl
      have t3:=hc8.e.res.cell (i:=3) rfl
      have t4:=hc8.e.res.cell (i:=4) rfl
      have t5:=hc8.e.res.cell (i:=5) rfl
      have t6:=hc8.e.res.cell (i:=6) rfl
      have t7:=hc8.e.res.cell (i:=7) rfl
      have t8:=hc8.e.res.cell (i:=8) rfl
      have HE8:=Lib.hid hc8.e
      have HFr:=Lib.hid (show FrK wr ⟨r,A7,B7,c7,d7⟩ from FrK.row hc8.r0)
      have HV8:=Lib.hid (And.intro k1 (And.intro k2 (And.intro k3 (And.intro k4 (And.intro m1 (And.intro m2 (And.intro m3 m4)))))))
      clear hcp hc8 k1 k2 k3 k4 m1 m2 m3 m4
      go_wp2_with fail
      have HF:=Lib.hid (set9_cel (v0:=.int .i64 r.kind) (v1:=.int .i64 r.txn) (v2:=.int .i64 r.ts) (v3:=.int .i64 r.coord) (v4:=.string r.key) (v5:=.string r.text) (v6:=.bool r.dead) (v7:=.slice A7 r.keys.length c7) (v8:=.slice B7 r.ws.length d7) HE8.out.res)
      have HBF:=set9_below (R:=w.heap.size + 1) (v0:=.int .i64 r.kind) (v1:=.int .i64 r.txn) (v2:=.int .i64 r.ts) (v3:=.int .i64 r.coord) (v4:=.string r.key) (v5:=.string r.text) (v6:=.bool r.dead) (v7:=.slice A7 r.keys.length c7) (v8:=.slice B7 r.ws.length d7) HE8.out.bel (Nat.le_succ _)
      have z0:=HF.out.cell (i:=0) rfl
      have z1:=HF.out.cell (i:=1) rfl
      have z2:=HF.out.cell (i:=2) rfl
      have z3:=HF.out.cell (i:=3) rfl
      have z4:=HF.out.cell (i:=4) rfl
      have z5:=HF.out.cell (i:=5) rfl
      have z6:=HF.out.cell (i:=6) rfl
      have z7:=HF.out.cell (i:=7) rfl
      have z8:=HF.out.cell (i:=8) rfl
      unfold set9 at z0 z1 z2 z3 z4 z5 z6 z7 z8
      obtain ⟨k1,k2,k3,k4,m1,m2,m3,m4⟩:=HV8.out
      have hk9:∀ k,k ≠ w.heap.size + 1 → (set9 wr (w.heap.size + 1) (.int .i64 r.kind) (.int .i64 r.txn) (.int .i64 r.ts) (.int .i64 r.coord) (.string r.key) (.string r.text) (.bool r.dead) (.slice A7 r.keys.length c7) (.slice B7 r.ws.length d7)).heap[k]? = wr.heap[k]?:=fun k hk=>by
       have e:∀ (W:World) (i:Nat) (v:Value),(W.setCell ⟨w.heap.size + 1,i,none⟩ v).heap[k]? = W.heap[k]?:=fun W i v=>Below.heap_setCell W ⟨w.heap.size + 1,i,none⟩ v k hk
       unfold set9
       rw [e,e,e,e,e,e,e,e,e]
      have hs9:wr.heap.size ≤ (set9 wr (w.heap.size + 1) (.int .i64 r.kind) (.int .i64 r.txn) (.int .i64 r.ts) (.int .i64 r.coord) (.string r.key) (.string r.text) (.bool r.dead) (.slice A7 r.keys.length c7) (.slice B7 r.ws.length d7)).heap.size:=by rw [set9_size];exact Nat.le_refl _
      refine bodyPost_ret (v:=.agg (rcs ⟨r,A7,B7,c7,d7⟩).toArray) (by simp [results,Tryz.results67,go_sem,rcs,z0,z1,z2,z3,z4,z5,z6,z7,z8]) rfl ⟨⟨r,A7,B7,c7,d7⟩,rfl,rfl,?_,?_,fun _ ad e=>HA7.out ad e,fun _ ad e=>HB7.out ad e,HBF⟩
      rotate_left
      ·exact HFr.out.keep fun ad e _=>hk9 _ (HN7.out ad e)
      exact ⟨strs_in (F:=fun k=>k ≠ w.heap.size + 1) k1 (fun _ ad e=>HN7.out ad e) hs9 hk9,wrs_in (F:=fun k=>k ≠ w.heap.size + 1) m1 (fun _ ad e=>HN8.out ad e) hs9 hk9,⟨HRg.out,k2,m2,k3,m3⟩,k4,m4⟩
section
variable {W:World} {F:Nat → Prop} {g bc bp:Nat} {v:Value} {K:List KI} {P:List RI} {s:Shf}
end
theorem ok32 {l:List Vr} (h:ChOk l):l.length * 32 ≤ 140737488351232:=by have:=h.len;omega
theorem okRng {l:List Vr} (h:ChOk l):∀ x ∈ l,VrRng x:=fun x hx=>by
 obtain ⟨h1,h2,h3,_⟩:=h.each x hx
 exact ⟨by omega,by unfold reachBytes;omega⟩
theorem okChk {l:List Vr} (h:ChOk l):(chkP l).2 = 0:=chk_ok.2 h
section
variable {W:World} {F:Nat → Prop} {g bc bp:Nat} {v:Value} {K:List KI} {P:List RI} {s:Shf}
theorem lread_any (h:LAt W F g bc bp v K P s) (hs:ShOk s) (key:ByteArray) (t:Int) (hk:key.size ≤ maxLen) :
  Calls Tryz.prog 21 #[.pointer (some ⟨g,0,none⟩),.string key,.int .i64 t] W fun e w'=>e = .returned (.tuple #[.int .i64 (readP s key t).1,.agg (vcs (readP s key t).2).toArray]) ∧ Below W.heap.size W w':=by
 have HHe:=Lib.hid (fun V (hb:Below W.heap.size W V)=>lheld_any (h.below hb) hs key false)
 have HH:=Lib.hid (fun V (hb:Below W.heap.size W V)=>h.below hb)
 obtain ⟨x,hxl,hkv,_,hlk⟩:=h.chain hk
 have HLk:=Lib.hid (fun V (hb:Below W.heap.size W V)=>hlk V (h.below hb))
 have hok:=hs.kok.chain key
 have hat:atP (chainK s.k key) t = ((atV (chainK s.k key) t).1,(atV (chainK s.k key) t).2,0):=by unfold atP;rw [if_neg (by rw [okChk hok];simp)]
 have HE:=Lib.hid (show readP s key t = if t < s.over then (4,noVr) else if heldB s key false = true then (3,noVr) else if (atV (chainK s.k key) t).2 = false then (0,noVr) else if (atV (chainK s.k key) t).1.dead = true then (2,(atV (chainK s.k key) t).1) else (1,(atV (chainK s.k key) t).1) from rfl)
 rw [← hxl] at hok hat HE
 have hT:=fun V (hb:Below W.heap.size W V)=>lat_any x.A x.c x.k.l t V (hkv.row.vrs.below hb) (ok32 hok) (okRng hok) hkv.le
 obtain ⟨⟨xt,xs,xd⟩,bb,hx⟩:∃ x1 b,atV x.k.l t = (x1,b):=⟨_,_,rfl⟩
 rw [hat,hx] at hT
 rw [hx] at HE
 have HT:Hid (∀ V,Below W.heap.size W V → Calls Tryz.prog 13 #[.slice x.A x.k.l.length x.c,.int .i64 t] V fun e' w'=>e' = .returned (.tuple #[.agg #[.int .i64 xt,.string xs,.bool xd],.bool bb,.int .i64 0]) ∧ Below V.heap.size V w'):=Lib.hid hT
 generalize heldB s key false = hh at HHe HE
 generalize x.k.l.length = xn at HT HLk
 generalize x.A = xA at HT HLk
 generalize x.c = xc at HT HLk
 clear h hs hok hat hT hx hlk hkv hxl
 go_enter Tryz.func21,Tryz.ntmps21
 go_upto_region 1 with fail
 have hR0:Cel (W.alloc (.cells #[.int .i64 0,.string ⟨#[]⟩,.bool false] 43)) W.heap.size 43 [.int .i64 0,.string ⟨#[]⟩,.bool false]:=(blk1 W _).2
 have hB0:Below W.heap.size W (W.alloc (.cells #[.int .i64 0,.string ⟨#[]⟩,.bool false] 43)):=(Below.refl _ W).alloc (Nat.le_refl _) _
 generalize hW0:W.alloc (.cells #[.int .i64 0,.string ⟨#[]⟩,.bool false] 43) = W0 at hR0 hB0 ⊢
 clear hW0
 have HR0:=Lib.hid hR0
 have HB0:=Lib.hid hB0
 have s3:=(HH.out _ hB0).cel.cell (i:=3) rfl
 clear hR0 hB0
 by_cases ho:t < s.over
 ·have E:=Lib.hid (show readP s key t = (4,noVr) by rw [HE.out,if_pos ho])
  have zq:=fun i=>HR0.out.free (i:=i)
  have q0:=HR0.out.cell (i:=0) rfl
  have q1:=HR0.out.cell (i:=1) rfl
  have q2:=HR0.out.cell (i:=2) rfl
  clear HE
  go_wp2_with fail
  have HF:=Lib.hid (set3_cel (v0:=.int .i64 0) (v1:=.string ⟨#[]⟩) (v2:=.bool false) HR0.out)
  have z0:=HF.out.cell (i:=0) rfl
  have z1:=HF.out.cell (i:=1) rfl
  have z2:=HF.out.cell (i:=2) rfl
  unfold set3 at z0 z1 z2
  exact bodyPost_ret (v:=.tuple #[.int .i64 4,.agg #[.int .i64 0,.string ⟨#[]⟩,.bool false]]) (by simp [results,Tryz.results21,go_sem,z0,z1,z2]) rfl ⟨by rw [E.out];rfl,set3_below HB0.out (Nat.le_refl _)⟩
 have HE2:=Lib.hid (show readP s key t = if hh = true then (3,noVr) else if bb = false then (0,noVr) else if xd = true then (2,⟨xt,xs,xd⟩) else (1,⟨xt,xs,xd⟩) by rw [HE.out,if_neg ho])
 clear HE
 go_wp2_with fail
 refine (HHe.out _ HB0.out).mono ?_
 rintro e1 w1 ⟨rfl,hb⟩
 have HB1:=Lib.hid (HB0.out.trans (hb.mono HB0.out.size))
 have HR1:=Lib.hid (HR0.out.below hb)
 clear hb HHe s3 HB0 HR0
 have zq:=fun i=>HR1.out.free (i:=i)
 have q0:=HR1.out.cell (i:=0) rfl
 have q1:=HR1.out.cell (i:=1) rfl
 have q2:=HR1.out.cell (i:=2) rfl
 cases hh with
 | true =>
  have E:=Lib.hid (show readP s key t = (3,noVr) by rw [HE2.out,if_pos rfl])
  clear HE2
  go_wp2_with fail
  have HF:=Lib.hid (set3_cel (v0:=.int .i64 0) (v1:=.string ⟨#[]⟩) (v2:=.bool false) HR1.out)
  have z0:=HF.out.cell (i:=0) rfl
  have z1:=HF.out.cell (i:=1) rfl
  have z2:=HF.out.cell (i:=2) rfl
  unfold set3 at z0 z1 z2
  exact bodyPost_ret (v:=.tuple #[.int .i64 3,.agg #[.int .i64 0,.string ⟨#[]⟩,.bool false]]) (by simp [results,Tryz.results21,go_sem,z0,z1,z2]) rfl ⟨by rw [E.out];rfl,set3_below HB1.out (Nat.le_refl _)⟩
 | false =>
  have HE3:=Lib.hid (show readP s key t = if bb = false then (0,noVr) else if xd = true then (2,⟨xt,xs,xd⟩) else (1,⟨xt,xs,xd⟩) by rw [HE2.out,if_neg (by simp)])
  have s0:=(HH.out _ HB1.out).cel.cell (i:=0) rfl
  have l0:=HLk.out _ HB1.out
  clear HE2 q0 q1 q2 zq
  go_wp2_with fail
  refine (HT.out _ HB1.out).mono ?_
  rintro e3 w3 ⟨rfl,hb⟩
  have HB3:=Lib.hid (HB1.out.trans (hb.mono HB1.out.size))
  have HR3:=Lib.hid (HR1.out.below hb)
  clear hb HT s0 l0 HLk HB1 HR1
  have zq:=fun i=>HR3.out.free (i:=i)
  have q0:=HR3.out.cell (i:=0) rfl
  have q1:=HR3.out.cell (i:=1) rfl
  have q2:=HR3.out.cell (i:=2) rfl
  go_upto_region 6 with fail
  clear zq q0 q1 q2
  obtain ⟨W4,hW4⟩:∃ W4,set3 w3 W.heap.size (.int .i64 xt) (.string xs) (.bool xd) = W4:=⟨_,rfl⟩
  have hR4:=set3_cel (v0:=.int .i64 xt) (v1:=.string xs) (v2:=.bool xd) HR3.out
  have hB4:=set3_below (R:=W.heap.size) (v0:=.int .i64 xt) (v1:=.string xs) (v2:=.bool xd) HB3.out (Nat.le_refl _)
  rw [hW4] at hR4 hB4
  have hW5:=hW4
  unfold set3 at hW5
  rw [hW5]
  clear hW4 hW5 HB3 HR3
  have HB4:=Lib.hid hB4
  have HR4:=Lib.hid hR4
  clear hB4
  have zq:=fun i=>hR4.free (i:=i)
  have q0:=hR4.cell (i:=0) rfl
  have q1:=hR4.cell (i:=1) rfl
  have q2:=hR4.cell (i:=2) rfl
  clear hR4
  cases bb with
  | false =>
   have E:=Lib.hid (show readP s key t = (0,noVr) by rw [HE3.out,if_pos rfl])
   clear HE3
   go_wp2_with fail
   have HF:=Lib.hid (set3_cel (v0:=.int .i64 0) (v1:=.string ⟨#[]⟩) (v2:=.bool false) HR4.out)
   have z0:=HF.out.cell (i:=0) rfl
   have z1:=HF.out.cell (i:=1) rfl
   have z2:=HF.out.cell (i:=2) rfl
   unfold set3 at z0 z1 z2
   exact bodyPost_ret (v:=.tuple #[.int .i64 0,.agg #[.int .i64 0,.string ⟨#[]⟩,.bool false]]) (by simp [results,Tryz.results21,go_sem,z0,z1,z2]) rfl ⟨by rw [E.out];rfl,set3_below HB4.out (Nat.le_refl _)⟩
  | true =>
   have HF:=Lib.hid (set3_cel (v0:=.int .i64 xt) (v1:=.string xs) (v2:=.bool xd) HR4.out)
   have HBF:=Lib.hid (set3_below (R:=W.heap.size) (v0:=.int .i64 xt) (v1:=.string xs) (v2:=.bool xd) HB4.out (Nat.le_refl _))
   cases xd with
   | true =>
    have E:=Lib.hid (show readP s key t = (2,⟨xt,xs,true⟩) by rw [HE3.out,if_neg (by simp),if_pos rfl])
    clear HE3
    go_upto_region 9 with fail
    go_region
    all_goals
     go_wp2_with fail
     have z0:=HF.out.cell (i:=0) rfl
     have z1:=HF.out.cell (i:=1) rfl
     have z2:=HF.out.cell (i:=2) rfl
     unfold set3 at z0 z1 z2
     exact bodyPost_ret (v:=.tuple #[.int .i64 2,.agg #[.int .i64 xt,.string xs,.bool true]]) (by simp [results,Tryz.results21,go_sem,z0,z1,z2]) rfl ⟨by rw [E.out];rfl,(by first | exact HBF.out.drew | exact HBF.out)⟩
   | false =>
    have E:=Lib.hid (show readP s key t = (1,⟨xt,xs,false⟩) by rw [HE3.out,if_neg (by simp),if_neg (by simp)])
    clear HE3
    go_upto_region 10 with fail
    go_region
    all_goals
     go_wp2_with fail
     have z0:=HF.out.cell (i:=0) rfl
     have z1:=HF.out.cell (i:=1) rfl
     have z2:=HF.out.cell (i:=2) rfl
     unfold set3 at z0 z1 z2
     exact bodyPost_ret (v:=.tuple #[.int .i64 1,.agg #[.int .i64 xt,.string xs,.bool false]]) (by simp [results,Tryz.results21,go_sem,z0,z1,z2]) rfl ⟨by rw [E.out];rfl,(by first | exact HBF.out.drew | exact HBF.out)⟩
end
section
variable {W:World} {F:Nat → Prop} {g bc bp:Nat} {v:Value} {K:List KI} {P:List RI} {s:Shf}
end
end Sh
end Go.Proofs.YtlfkhlfkckfbpaaGreat
namespace Go.Proofs.YtlfkhlfkckfbpaaGreat
namespace Sh
open Go.RowKit Bk Ch Lt Rc Tr
def Gr (F:Nat → Prop) (W w':World):Nat → Prop:=fun k=>F k ∨ (W.heap.size ≤ k ∧ k < w'.heap.size)
structure St (w w':World):Prop where
 os:w'.os = w.os
 tape:w'.tape = w.tape
 output:w'.output = w.output
theorem St.trans {a b c:World} (h:St a b) (k:St b c):St a c:=⟨k.os.trans h.os,k.tape.trans h.tape,k.output.trans h.output⟩
theorem st_below {B:Nat} {w w':World} (h:Below B w w'):St w w':=⟨h.os,h.tape,h.output⟩
theorem st_grown {r:Option Nat} {w w':World} (h:w.grownBy w' r):St w w':=⟨h.os,h.tape,h.output⟩
theorem st_turned {w w':World} {b:Nat} (h:w.mapTurned w' b):St w w':=by
 obtain ⟨es,clock,es',clock',_,rfl⟩:=h
 exact ⟨rfl,rfl,rfl⟩
structure Far (F:Nat → Prop) (w w':World):Prop extends Away F w w' where
 st:St w w'
theorem Far.of {F:Nat → Prop} {w w':World} (h:Below w.heap.size w w'):Far F w w':=⟨Away.of h,st_below h⟩
theorem Far.trans {F:Nat → Prop} {a b c:World} (h:Far F a b) (k:Far F b c):Far F a c:=⟨h.toAway.trans k.toAway,h.st.trans k.st⟩
structure NewR (X:Nat) (x:RI):Prop where
 ks:0 < x.l.keys.length → ∀ ad,x.A = some ad → X ≤ ad.block
 ws:0 < x.l.ws.length → ∀ ad,x.B = some ad → X ≤ ad.block
section
variable {W V w':World} {F F':Nat → Prop} {g bc bp:Nat} {v:Value} {K:List KI} {P:List RI} {s:Shf}
theorem LAt.more (h:LAt W F g bc bp v K P s) (hF:∀ k,F k → F' k) (hl:∀ k,F' k → k < W.heap.size):LAt W F' g bc bp v K P s :=
 ⟨h.cel,h.mc,h.mp,h.re,h.en,h.kv,h.pv,h.ek,h.ep,h.bd,fun k hk=>hF k (h.fm k hk),fun x hx hp ad e=>hF _ (h.fk x hx hp ad e),fun x hx=>⟨fun hp ad e=>hF _ ((h.fp x hx).1 hp ad e),fun hp ad e=>hF _ ((h.fp x hx).2 hp ad e)⟩,hl⟩
theorem LAt.gr (h:LAt W F g bc bp v K P s) (hs:W.heap.size ≤ w'.heap.size) (h2:LAt w' F g bc bp v K P s):LAt w' (Gr F W w') g bc bp v K P s :=
 h2.more (fun _ hk=>.inl hk) (fun k hk=>hk.elim (fun hf=>Nat.lt_of_lt_of_le (h.fl k hf) hs) (fun h=>h.2))
theorem LAt.mu_lt (h:LAt W F g bc bp v K P s):∀ k,Mu g bc bp v k → k < W.heap.size:=fun k hk=>h.fl k (h.fm k hk)
theorem pval_new {x:RI} {M:Nat → Prop} {X:Nat} (hv:RecVal V x.A x.B x.c x.d x.l) (hn:NewR X x) (hM:∀ k,M k → k < X):PVal V M x :=
 ⟨hv,fun hp ad e hm=>by have:=hn.ks hp ad e;have:=hM _ hm;omega,fun hp ad e hm=>by have:=hn.ws hp ad e;have:=hM _ hm;omega⟩
theorem away_mu {b:Nat} {M:Nat → Prop} (hs:V.heap.size ≤ w'.heap.size) (hk:∀ k,k ≠ b → w'.heap[k]? = V.heap[k]?) (hM:M b):Away M V w':=⟨hs,fun k _ hn=>hk k (fun e=>hn (by rw [e];exact hM))⟩
theorem gr_lt (hF:∀ k,F k → k < W.heap.size) (hs:W.heap.size ≤ w'.heap.size):∀ k,Gr F W w' k → k < w'.heap.size:=fun k hk=>hk.elim (fun h=>Nat.lt_of_lt_of_le (hF k h) hs) (fun h=>h.2)
theorem LAt.setK (h:LAt V F g bc bp v K P s) (hk:∀ k,k ≠ bc → w'.heap[k]? = V.heap[k]?) (hs:V.heap.size ≤ w'.heap.size) {K':List KI} {k':List Kc} (hm:MapIs strQ w' bc (K'.map kp)) (hp:∀ x ∈ K',KVal V (Mu g bc bp v) x) (hl:K'.map (·.k) = k')
  (hF:∀ k,F k → F' k) (hfk:∀ x ∈ K',0 < x.k.l.length → ∀ ad,x.A = some ad → F' ad.block) (hFl:∀ k,F' k → k < w'.heap.size):LAt w' F' g bc bp v K' P ⟨k',s.p,s.e,s.over⟩ :=
 have aw:Away (Mu g bc bp v) V w':=away_mu hs hk (.inr (.inl rfl))
 have hgp:g ≠ bc:=fun e=>by
  obtain ⟨es,cl,h1⟩:=h.mc.isMap
  have h2:=h.cel
  unfold Cel at h2
  rw [e,h1] at h2;cases h2
 ⟨(hk g hgp).trans h.cel,hm,h.mp.kept (hk bp (fun e=>h.bd e.symm)),row_in h.re (fun k hv=>hk k (fun e=>by
   subst e
   rcases h.re.2 with ⟨e1,_⟩ | ⟨i,cap,cur,e1,_,hg,_⟩
   ·rw [e1] at hv;cases hv
   ·rw [e1] at hv
    obtain rfl:i = k:=by simpa [Value.ownBlock] using hv
    obtain ⟨es,cl,h1⟩:=h.mc.isMap
    rw [h1] at hg;cases hg)),h.en,fun x hx=>(hp x hx).away aw,fun x hx=>(h.pv x hx).away aw,hl,h.ep,h.bd,fun k hk=>hF k (h.fm k hk),hfk,fun x hx=>⟨fun hp ad e=>hF _ ((h.fp x hx).1 hp ad e),fun hp ad e=>hF _ ((h.fp x hx).2 hp ad e)⟩,hFl⟩
end
end Sh
end Go.Proofs.YtlfkhlfkckfbpaaGreat
namespace Go.Proofs.YtlfkhlfkckfbpaaGreat
namespace Sh
open Go.RowKit Bk Ch Lt Rc Tr
attribute [local go_sem ↓] Go.wp_at_zero Go.wp_at_succ
attribute [local go_sem] floatUpon pick
section
variable {W:World} {F:Nat → Prop} {g bc bp:Nat} {v:Value} {K:List KI} {P:List RI} {s:Shf}
theorem away_below {w':World} (hb:Below W.heap.size W w'):Far F W w':=Far.of hb
end
end Sh
end Go.Proofs.YtlfkhlfkckfbpaaGreat
namespace Go.Proofs.YtlfkhlfkckfbpaaGreat
namespace Sh
open Go.RowKit Bk Ch Lt Rc Tr
def putI:List KI → KI → List KI
 | [],x=>[x]
 | y :: r,x=>if ltK y.k.name x.k.name then y :: putI r x else if y.k.name = x.k.name then x :: r else x :: y :: r
theorem putI_map:∀ (K:List KI) (x:KI),(putI K x).map (·.k) = putK (K.map (·.k)) x.k.name x.k.l
 | [],x=>rfl
 | y :: r,x=>by
  unfold putI
  rw [List.map_cons]
  unfold putK
  by_cases h1:ltK y.k.name x.k.name = true
  ·rw [if_pos h1,if_pos h1,List.map_cons,putI_map r x]
  ·rw [if_neg h1,if_neg h1]
   by_cases h2:y.k.name = x.k.name
   ·rw [if_pos h2,if_pos h2];rfl
   ·rw [if_neg h2,if_neg h2];rfl
theorem putI_mem:∀ {K:List KI} {x y:KI},y ∈ putI K x → y = x ∨ y ∈ K
 | [],x,y,h=>.inl (List.mem_singleton.1 h)
 | z :: r,x,y,h=>by
  unfold putI at h
  by_cases h1:ltK z.k.name x.k.name = true
  ·rw [if_pos h1] at h
   rcases List.mem_cons.1 h with rfl | h
   ·exact .inr (List.mem_cons_self ..)
   ·exact (putI_mem h).imp id (List.mem_cons_of_mem _)
  ·rw [if_neg h1] at h
   by_cases h2:z.k.name = x.k.name
   ·rw [if_pos h2] at h
    rcases List.mem_cons.1 h with rfl | h
    ·exact .inl rfl
    ·exact .inr (List.mem_cons_of_mem _ h)
   ·rw [if_neg h2] at h
    rcases List.mem_cons.1 h with rfl | h
    ·exact .inl rfl
    ·exact .inr h
theorem putI_perm:∀ {K:List KI} (x:KI),Sorted (K.map (·.k)) → ((putI K x).map kp).Perm (kp x :: outM (K.map kp) x.k.name)
 | [],x,_=>List.Perm.refl _
 | y :: r,x,h=>by
  obtain ⟨h1,h2⟩:=List.pairwise_cons.1 h
  have hfar:∀ z ∈ r,ltK y.k.name z.k.name = true:=fun z hz=>h1 z.k (List.mem_map_of_mem hz)
  unfold putI
  by_cases hl:ltK y.k.name x.k.name = true
  ·rw [if_pos hl]
   have e:outM ((y :: r).map kp) x.k.name = kp y :: outM (r.map kp) x.k.name:=by
    unfold outM
    rw [List.map_cons,List.filter_cons_of_pos (by show decide (y.k.name ≠ x.k.name) = true;exact decide_eq_true (lt_ne hl))]
   rw [e,List.map_cons]
   exact ((putI_perm x h2).cons _).trans (List.Perm.swap _ _ _)
  ·rw [if_neg hl]
   by_cases h3:y.k.name = x.k.name
   ·rw [if_pos h3]
    have e:outM ((y :: r).map kp) x.k.name = r.map kp:=by
     unfold outM
     rw [List.map_cons,List.filter_cons_of_neg (by show ¬ decide (y.k.name ≠ x.k.name) = true;simp [h3]),List.filter_eq_self]
     intro p hp
     obtain ⟨z,hz,rfl⟩:=List.mem_map.1 hp
     have:=lt_ne (hfar z hz)
     simp only [decide_eq_true_eq]
     exact fun e=>this (h3.trans e.symm)
    rw [e,List.map_cons]
   ·rw [if_neg h3]
    have hk:ltK x.k.name y.k.name = true:=by
     rcases lt_total x.k.name y.k.name with h | h | h
     ·exact h
     ·exact absurd h.symm h3
     ·exact absurd h hl
    have e:outM ((y :: r).map kp) x.k.name = (y :: r).map kp:=by
     unfold outM
     rw [List.filter_eq_self]
     intro p hp
     obtain ⟨z,hz,rfl⟩:=List.mem_map.1 hp
     simp only [decide_eq_true_eq]
     rcases List.mem_cons.1 hz with rfl | hz
     ·exact fun e=>lt_ne hk e.symm
     ·exact fun e=>lt_ne (lt_trans hk (hfar z hz)) e.symm
    rw [e]
    exact List.Perm.refl _
end Sh
end Go.Proofs.YtlfkhlfkckfbpaaGreat
