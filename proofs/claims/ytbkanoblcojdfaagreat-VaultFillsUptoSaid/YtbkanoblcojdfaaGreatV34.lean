/- Parts of the proof, joined: ShL6, ShL7, ShL8, ShL10; their conditions stand with each. -/
import Derived.Test.YtbkanoblcojdfaaGreatV17
import Derived.Test.YtbkanoblcojdfaaGreatV19
import Derived.Test.YtbkanoblcojdfaaGreatV21
import Derived.Test.YtbkanoblcojdfaaGreatV33

set_option maxRecDepth 20000
set_option maxHeartbeats 8000000
namespace Go.Proofs.YtbkanoblcojdfaaGreat
namespace Sh
open Go.RowKit Bk Ch Lt Rc Tr
attribute [local go_sem ↓] Go.wp_at_zero Go.wp_at_succ
attribute [local go_sem] floatUpon pick
abbrev zero9:List Value:=[.int .i64 0,.int .i64 0,.int .i64 0,.int .i64 0,.string ⟨#[]⟩,.string ⟨#[]⟩,.bool false,.slice none 0 0,.slice none 0 0]
structure E9 (w W:World) (cs:List Value):Prop where
 cel:Cel W w.heap.size 37 cs
 res:Cel W (w.heap.size + 1) 37 zero9
 bel:Below w.heap.size w W
theorem E9.step {w W W':World} {cs:List Value} (h:E9 w W cs) (hb:Below W.heap.size W W'):E9 w W' cs:=⟨h.cel.below hb,h.res.below hb,h.bel.trans (hb.mono h.bel.size)⟩
theorem E9.drew {w W:World} {cs:List Value} (h:E9 w W cs):E9 w W.drew cs:=⟨h.cel,h.res,h.bel.drew⟩
theorem E9.put {w W:World} {cs:List Value} (h:E9 w W cs) (i:Nat) (v:Value):E9 w (W.setCell ⟨w.heap.size,i,none⟩ v) (cs.set i v) :=
 ⟨h.cel.set,h.res.far (by omega),h.bel.setCell (Nat.le_refl _) _⟩
theorem E9.same {w W:World} {cs:List Value} (h:E9 w W cs) (i:Nat) (v:Value) (hv:cs[i]? = some v):E9 w (W.setCell ⟨w.heap.size,i,none⟩ v) cs :=
 ⟨Ch.Cel.put_same h.cel hv,h.res.far (by omega),h.bel.setCell (Nat.le_refl _) _⟩
abbrev c9 (r:Rec) (v7 v8:Value):List Value:=[.int .i64 r.kind,.int .i64 r.txn,.int .i64 r.ts,.int .i64 r.coord,.string r.key,.string r.text,.bool r.dead,v7,v8]
structure CpEnv (w W:World) (r:Rec) (v7 v8:Value) (ks:List ByteArray) (ws:List Wr):Prop where
 e:E9 w W (c9 r v7 v8)
 r0:W.ownsRow w.heap.size 9 1 v7 ks.length (strV ks)
 r1:W.ownsRow w.heap.size 45 3 v8 ws.length (wrV ws)
theorem CpEnv.step {w W W':World} {r:Rec} {v7 v8:Value} {ks:List ByteArray} {ws:List Wr} (h:CpEnv w W r v7 v8 ks ws) (hb:Below W.heap.size W W'):CpEnv w W' r v7 v8 ks ws:=⟨h.e.step hb,st_keep h.r0 hb,st_keep h.r1 hb⟩
theorem own_cel_ne {W:World} {e t:TypeId} {H sz n g:Nat} {v:Value} {xs cs:List Value} (h:W.ownsRow H e sz v n xs) (hc:Cel W g t cs) (hne:e ≠ t):v.ownBlock ≠ some g:=by
 rcases h.2 with ⟨rfl,_⟩ | ⟨i,cap,cur,rfl,_,hg,_⟩
 ·intro e1;cases e1
 ·intro e1
  obtain rfl:i = g:=by simpa [Value.ownBlock] using e1
  rw [hc] at hg
  simp only [Option.some.injEq,Obj.cells.injEq] at hg
  exact hne hg.2.1.symm
theorem E9.grown {w W W1:World} {cs:List Value} {row:Option Nat} (h:E9 w W cs) (hg:W.grownBy W1 row) (h0:row ≠ some w.heap.size) (h1:row ≠ some (w.heap.size + 1)) (hr:∀ k,row = some k → w.heap.size ≤ k):E9 w W1 cs :=
 ⟨(hg.block _ h.cel.lt (fun e=>h0 e.symm)).trans h.cel,(hg.block _ h.res.lt (fun e=>h1 e.symm)).trans h.res,h.bel.grown hg h.bel.size hr⟩
theorem CpEnv.grow1 {w W W1:World} {r:Rec} {v7 v8 v':Value} {ks ks':List ByteArray} {ws:List Wr} {n':Nat} (h:CpEnv w W r v7 v8 ks ws) (ho:W1.ownsRow w.heap.size 9 1 v' n' (strV ks')) (hl:n' = ks'.length) (hg:W.grownBy W1 v7.ownBlock) :
  E9 w W1 (c9 r v7 v8) ∧ CpEnv w (W1.setCell ⟨w.heap.size,7,none⟩ v') r v' v8 ks' ws:=by
 subst hl
 have e1:=h.e.grown hg (own_cel_ne h.r0 h.e.cel (by decide)) (own_cel_ne h.r0 h.e.res (by decide)) (fun k hk=>(h.r0.lt k hk).1)
 have h2:=rgrow2 h.r1 h.r0 (by decide) hg
 exact ⟨e1,e1.put 7 v',ownsRow_setCell_other ho (own_cel_ne ho e1.cel (by decide)) _,ownsRow_setCell_other h2 (own_cel_ne h2 e1.cel (by decide)) _⟩
theorem CpEnv.grow2 {w W W1:World} {r:Rec} {v7 v8 v':Value} {ks:List ByteArray} {ws ws':List Wr} {n':Nat} (h:CpEnv w W r v7 v8 ks ws) (ho:W1.ownsRow w.heap.size 45 3 v' n' (wrV ws')) (hl:n' = ws'.length) (hg:W.grownBy W1 v8.ownBlock) :
  E9 w W1 (c9 r v7 v8) ∧ CpEnv w (W1.setCell ⟨w.heap.size,8,none⟩ v') r v7 v' ks ws':=by
 subst hl
 have e1:=h.e.grown hg (own_cel_ne h.r1 h.e.cel (by decide)) (own_cel_ne h.r1 h.e.res (by decide)) (fun k hk=>(h.r1.lt k hk).1)
 have h2:=rgrow2 h.r0 h.r1 (by decide) hg
 exact ⟨e1,e1.put 8 v',ownsRow_setCell_other h2 (own_cel_ne h2 e1.cel (by decide)) _,ownsRow_setCell_other ho (own_cel_ne ho e1.cel (by decide)) _⟩
def FrK (w:World) (y:RI):Prop:=0 < y.l.keys.length → ∃ gg xs,y.A = some ⟨gg,0,none⟩ ∧ Cel w gg 9 xs ∧ y.l.keys.length ≤ xs.length
theorem FrK.keep {w w':World} {y:RI} (h:FrK w y) (hk:∀ ad,y.A = some ad → ad.block < w.heap.size → w'.heap[ad.block]? = w.heap[ad.block]?):FrK w' y:=fun hp=>by
 obtain ⟨gg,xs,e,hc,hl⟩:=h hp
 exact ⟨gg,xs,e,(hk _ e hc.lt).trans hc,hl⟩
theorem FrK.below {w w':World} {y:RI} (h:FrK w y) (hb:Below w.heap.size w w'):FrK w' y:=h.keep fun _ _ hl=>hb.block _ hl
theorem FrK.row {W:World} {H:Nat} {y:RI} (h:W.ownsRow H 9 1 (.slice y.A y.l.keys.length y.c) y.l.keys.length (strV y.l.keys)):FrK W y:=fun hn=>by
 rcases h.2 with ⟨_,h0⟩ | ⟨g,cap,cur,hv,_,hg,hnc,_,hz,_⟩
 ·omega
 ·simp only [Value.slice.injEq,true_and] at hv
  obtain ⟨e1,e2⟩:=hv
  exact ⟨g,cur.toList,e1,by unfold Cel;rw [hg],by rw [Array.length_toList];omega⟩
theorem copied_any (x:RI) (w:World) (hv:RecVal w x.A x.B x.c x.d x.l) (hk:x.l.keys.length ≤ 1024) (hw:x.l.ws.length ≤ 1024) :
  Calls Tryz.prog 37 #[.agg (rcs x).toArray] w fun e w'=>∃ y:RI,e = .returned (.agg (rcs y).toArray) ∧ y.l = x.l ∧ RecVal w' y.A y.B y.c y.d y.l ∧ FrK w' y ∧ (0 < x.l.keys.length → ∀ ad,y.A = some ad → w.heap.size ≤ ad.block) ∧ (0 < x.l.ws.length → ∀ ad,y.B = some ad → w.heap.size ≤ ad.block) ∧ Below w.heap.size w w':=by
 obtain ⟨r,A,B,c,d⟩:=x
 simp only at hv hk hw
 have HCl:=Lib.hid (fun s W hs=>Bk.clone_any s W hs)
 have HK:=Lib.hid hv.rng.key
 have HT:=Lib.hid hv.rng.text
 have HKs:=Lib.hid (fun W (hb:Below w.heap.size w W)=>hv.ks.below hb)
 have HWs:=Lib.hid (fun W (hb:Below w.heap.size w W) i (hi:i < r.ws.length)=>wrs_at (hv.ws.below hb) hi)
 have HSz:=Lib.hid (show ∀ s ∈ r.keys,s.size ≤ 281474976710656 from fun s hs=>by have:=hv.rng.kr s hs;unfold reachBytes at this;omega)
 have HSw:=Lib.hid (show ∀ x ∈ r.ws,x.key.size ≤ 281474976710656 ∧ x.shard.size ≤ 281474976710656 from fun x hx=>by have:=hv.rng.wr x hx;unfold reachBytes at this;omega)
 have HRg:=Lib.hid hv.rng.toRecRng
 obtain ⟨i0,hi,hz0,hz1,hz2⟩:=info_parts Tryz.infoStr
 obtain ⟨i1,hi',hz0',hz1',hz2'⟩:=info_parts Tryz.infoWrite
 have pk:(r.keys.length:Int) ≤ 1024:=by omega
 have pw:(r.ws.length:Int) ≤ 1024:=by omega
 obtain ⟨W2,hW2⟩:∃ W2,(w.alloc (.cells #[.int .i64 r.kind,.int .i64 r.txn,.int .i64 r.ts,.int .i64 r.coord,.string r.key,.string r.text,.bool r.dead,.slice A r.keys.length c,.slice B r.ws.length d] 37)).alloc (.cells zero9.toArray 37) = W2:=⟨_,rfl⟩
 obtain ⟨sz2,b1,b2⟩:=blk2 w (.cells #[.int .i64 r.kind,.int .i64 r.txn,.int .i64 r.ts,.int .i64 r.coord,.string r.key,.string r.text,.bool r.dead,.slice A r.keys.length c,.slice B r.ws.length d] 37) (.cells zero9.toArray 37)
 have hE:E9 w W2 (c9 r (.slice A r.keys.length c) (.slice B r.ws.length d)):=by
  rw [← hW2]
  exact ⟨b1,b2,((Below.refl _ w).alloc (Nat.le_refl _) _).alloc (by simp) _⟩
 show Calls _ _ #[.agg #[.int .i64 r.kind,.int .i64 r.txn,.int .i64 r.ts,.int .i64 r.coord,.string r.key,.string r.text,.bool r.dead,.slice A r.keys.length c,.slice B r.ws.length d]] _ _
 clear sz2 b1 b2
 go_enter Tryz.func37,Tryz.ntmps37
 have rb:reachBytes = 140737488351232:=rfl
 have hks:r.key.size ≤ 281474976710656:=by have:=HK.out;omega
 have hts:r.text.size ≤ 281474976710656:=by have:=HT.out;omega
 go_upto_region 1 with fail
 clear hW2
 go_cut [11] from 9 to 16 (fun _ wx=>E9 w wx (c9 r (.slice A r.keys.length c) (.slice B r.ws.length d)))
 case first =>
  have q4:=hE.cel.cell (i:=4) rfl
  have q5:=hE.cel.cell (i:=5) rfl
  have f4:=hE.cel.free (i:=4)
  have f5:=hE.cel.free (i:=5)
  go_region_with ((go_at_call 36;refine (HCl.out _ _ (by first | exact hks | exact hts)).mono ?_;rintro e w5 ⟨rfl,hb5⟩;have M5:E9 w w5 (c9 r (.slice A r.keys.length c) (.slice B r.ws.length d)):=E9.step (by repeat (first | assumption | refine E9.drew ?_ | refine E9.same ?_ 4 _ rfl | refine E9.same ?_ 5 _ rfl)) hb5;have q4:=M5.cel.cell (i:=4) rfl;have q5:=M5.cel.cell (i:=5) rfl;have f4:=M5.cel.free (i:=4);have f5:=M5.cel.free (i:=5);clear hb5))
  all_goals
   go_wp2_with fail
   go_meet
   case rel=>exact (by repeat (first | assumption | refine E9.drew ?_ | refine E9.same ?_ 4 _ rfl | refine E9.same ?_ 5 _ rfl))
 case rest =>
  have q7:=hcut.cel.cell (i:=7) rfl
  have q8:=hcut.cel.cell (i:=8) rfl
  have HE2:=Lib.hid hcut
  clear hcut hE hks hts
  go_upto_region 2 with fail
  go_quiet (fail)
  rename_i nq
  clear q7 q8
  have hE3:E9 w (wc.drewN nq) (c9 r (.slice A r.keys.length c) (.slice B r.ws.length d)):=⟨HE2.out.cel,HE2.out.res,below_drewN HE2.out.bel nq⟩
  generalize wc.drewN nq = W3 at hE3 ⊢
  have f7:=hE3.cel.free (i:=7)
  have f8:=hE3.cel.free (i:=8)
  have q7:=hE3.cel.cell (i:=7) rfl
  have q8:=hE3.cel.cell (i:=8) rfl
  have hE4:=(hE3.put 7 (.slice none 0 0)).put 8 (.slice none 0 0)
  have HC0:Hid (CpEnv w ((W3.setCell ⟨w.heap.size,7,none⟩ (.slice none 0 0)).setCell ⟨w.heap.size,8,none⟩ (.slice none 0 0)) r (.slice none 0 0) (.slice none 0 0) [] []):=Lib.hid ⟨hE4,World.ownsRow_nil _ _ _ _,World.ownsRow_nil _ _ _ _⟩
  clear hE4 hE3 HE2
  go_upto_region 4 with fail
  generalize (W3.setCell ⟨w.heap.size,7,none⟩ (.slice none 0 0)).setCell ⟨w.heap.size,8,none⟩ (.slice none 0 0) = W4 at HC0 ⊢
  clear f7 f8 q7 q8
  go_wp2_with fail
  go_loopw [25] (fun iv wr=>∃ (j:Nat) (v7:Value),j ≤ r.keys.length ∧ iv = .int .i64 (j:Int) ∧ Hid (CpEnv w wr r v7 (.slice none 0 0) (r.keys.take j) [])) (fun iv _=>r.keys.length - (RowKit.intOf iv).toNat)
  case atStart=>exact ⟨0,_,Nat.zero_le _,rfl,HC0⟩
  case round =>
   obtain ⟨j,v7,hj,rfl,hcp⟩:=hrel
   clear HC0
   by_cases hlt:j < r.keys.length
   ·have pj:(j:Int) < (r.keys.length:Int):=by omega
    obtain ⟨ad,rfl,_,hcl⟩:=HKs.out _ hcp.out.e.bel (by omega)
    have x0:=hcl j hlt
    have hsz:=HSz.out _ (List.getElem_mem hlt)
    have HTk:=Lib.hid (List.take_succ_eq_append_getElem hlt)
    generalize r.keys[j] = k at x0 hsz HTk
    have HClk:=Lib.hid (fun W=>HCl.out k W hsz)
    clear hcl hsz
    go_upto_region 7 with fail
    clear x0
    refine wp_region_said 5 [29,30,31,32,33]
     [.is (.pointer (some ⟨w.heap.size,7,none⟩)),.is v7,.is (.string k),.is (.string k),.arr 9 #[.string k] 1 1]
     (fun W=>CpEnv w W r v7 (.slice none 0 0) (r.keys.take j) []) (by kernel_rfl) (by kernel_rfl) (by kernel_rfl) (by kernel_rfl) (by kernel_rfl) (fun W W' h hb=>h.step hb) hcp.out ?steps ?last
    case steps =>
     simp only [List.take_succ_cons,List.take_zero]
     refine ⟨?_,?_,?_,?_,?_,trivial⟩
     all_goals
      intro vs W ρ hρ hc hf hg hI hH hd R' hR
      have q7:=hI.e.cel.cell (i:=7) rfl
      have HR:=Lib.hid hR
      simp [depsOf,Region.binds,sayAt,Say.holds] at hd
      clear hR hI
      go_simp
      first
       | exact HR.out _ _ (by simp [sayAt,Say.holds]) (Below.refl _ _) (by simp [sayAt,Say.isBlk])
       | exact HR.out _ _ ⟨_,hH,by simp,rfl,heap_alloc_new _ _⟩ ((Below.refl _ _).alloc (Nat.le_refl _) _) (fun h=>by cases h)
       | (refine (HClk.out _).mono ?_;rintro e w' ⟨rfl,hb⟩;exact ⟨_,rfl,HR.out _ _ (by simp [sayAt,Say.holds]) hb (by simp [sayAt,Say.isBlk])⟩)
    case last =>
     intro vs W hI hb hg hd
     have g1:=hg 1 (by omega)
     obtain ⟨o,ho1,ho2,g4,ho⟩:=hg 4 (by omega)
     simp only [sayAt,Say.holds,List.getD_cons_succ,List.getD_cons_zero] at g1
     simp only [List.take_succ_cons,List.take_zero,List.drop_succ_cons,List.drop_zero,putAll,Act.put,List.setIfInBounds_toArray,List.set_cons_succ,List.set_cons_zero,Nat.zero_add,Nat.reduceAdd]
     rw [g1,g4]
     have HI:=Lib.hid hI
     have hlen:(r.keys.take j).length = j:=by rw [List.length_take];omega
     clear g1 g4 hg hd hI hcp
     refine wpList_append_own_at _ rfl _ _ 23 rfl w.heap.size 9 i0 (.string ⟨#[]⟩) 1 16 Tryz.underlying23 hi hz0 hz1 hz2 rfl (by decide) _ _ _ rfl HI.out.r0 ⟨o,0,none⟩ 1 1 [.string k] rfl rfl ?d1 ?d2 ?d3 ?d4 HI.out.e.bel.size ?_
     case d1=>exact str_one ho
     case d2=>intro u hu;simp at hu;subst hu;rfl
     case d3=>rw [hlen];unfold maxLen;omega
     case d4=>rw [hlen];omega
     intro v' w5 hown' hgrow _ hat
     obtain ⟨he5,hcp5⟩:=CpEnv.grow1 (ks':=r.keys.take (j + 1)) HI.out (by rw [HTk.out,Pk.strV_snoc2];exact hown') (by rw [HTk.out,List.length_append];rfl) hgrow
     have f7:=he5.cel.free (i:=7)
     have q7:=he5.cel.cell (i:=7) rfl
     obtain ⟨gn,capn,rfl,_,_⟩:=World.ownsRow.form hown' (by omega)
     rw [hlen] at hcp5
     have HC5:=Lib.hid hcp5
     clear hown' hgrow hat HI ho ho1 ho2 hb he5 hcp5 hlen
     go_wp2_with fail
     go_roundw
     case rel=>exact ⟨j + 1,_,by omega,by go_num,HC5⟩
     case measure=>simp [RowKit.intOf];omega
   ·obtain rfl:j = r.keys.length:=by omega
    have hc7:=hcp.out
    rw [List.take_length] at hc7
    have HC7:=Lib.hid hc7
    clear hcp hc7
    go_wp2_with fail
    go_loopw [39] (fun iv wr=>∃ (j:Nat) (v8:Value),j ≤ r.ws.length ∧ iv = .int .i64 (j:Int) ∧ Hid (CpEnv w wr r v7 v8 r.keys (r.ws.take j))) (fun iv _=>r.ws.length - (RowKit.intOf iv).toNat)
    case atStart=>exact ⟨0,_,Nat.zero_le _,rfl,HC7⟩
    case round =>
     obtain ⟨j,v8,hj,rfl,hcp⟩:=hrel
     clear HC7
     by_cases hlt:j < r.ws.length
     ·have pj:(j:Int) < (r.ws.length:Int):=by omega
      obtain ⟨ad,rfl,x0,x1,x2⟩:=HWs.out _ hcp.out.e.bel j hlt
      obtain ⟨hsk,hst⟩:=HSw.out _ (List.getElem_mem hlt)
      have HTk:=Lib.hid (List.take_succ_eq_append_getElem hlt)
      generalize r.ws[j] = X at x0 x1 x2 hsk hst HTk
      obtain ⟨k,t,dd⟩:=X
      simp only at x0 x1 x2 hsk hst
      have HClk:=Lib.hid (fun W=>HCl.out k W hsk)
      have HClt:=Lib.hid (fun W=>HCl.out t W hst)
      have hb5:Below wr.heap.size wr (wr.alloc (.cells #[.string k,.string t,.bool dd] 45)):=(Below.refl _ wr).alloc (Nat.le_refl _) _
      have hV5:Cel (wr.alloc (.cells #[.string k,.string t,.bool dd] 45)) wr.heap.size 45 [.string k,.string t,.bool dd]:=(blk1 wr _).2
      have HC5:=Lib.hid (hcp.out.step hb5)
      have HV5:=Lib.hid hV5
      clear hsk hst hcp hb5 hV5
      go_upto_region 12 with fail
      generalize wr.alloc (.cells #[.string k,.string t,.bool dd] 45) = W5 at HC5 HV5 ⊢
      generalize wr.heap.size = vb at HV5 ⊢
      clear x0 x1 x2
      refine wp_region_said 12 [43,44,45,46,47,48,49,50,51,52,53,54]
       [.is (.pointer (some ⟨w.heap.size,8,none⟩)),.is v8,.is (.pointer (some ⟨vb,0,none⟩)),.is (.string k),.is (.string k),.is (.pointer (some ⟨vb,1,none⟩)),.is (.string t),.is (.string t),.is (.pointer (some ⟨vb,2,none⟩)),.is (.bool dd),.is (.agg #[.string k,.string t,.bool dd]),.arr 45 #[.string k,.string t,.bool dd] 1 1]
       (fun W=>CpEnv w W r v7 v8 r.keys (r.ws.take j) ∧ Cel W vb 45 [.string k,.string t,.bool dd]) (by kernel_rfl) (by kernel_rfl) (by kernel_rfl) (by kernel_rfl) (by kernel_rfl) (fun W W' h hb=>⟨h.1.step hb,h.2.below hb⟩) ⟨HC5.out,HV5.out⟩ ?stepsw ?lastw
      case stepsw =>
       simp only [List.take_succ_cons,List.take_zero]
       refine ⟨?_,?_,?_,?_,?_,?_,?_,?_,?_,?_,?_,?_,trivial⟩
       all_goals
        intro vs W ρ hρ hc hf hg hI hH hd R' hR
        have q8:=hI.1.e.cel.cell (i:=8) rfl
        have y0:=hI.2.cell (i:=0) rfl
        have y1:=hI.2.cell (i:=1) rfl
        have y2:=hI.2.cell (i:=2) rfl
        have HR:=Lib.hid hR
        simp [depsOf,Region.binds,sayAt,Say.holds] at hd
        clear hR hI
        go_simp
        first
         | exact HR.out _ _ (by simp [sayAt,Say.holds]) (Below.refl _ _) (by simp [sayAt,Say.isBlk])
         | exact HR.out _ _ ⟨_,hH,by simp,rfl,heap_alloc_new _ _⟩ ((Below.refl _ _).alloc (Nat.le_refl _) _) (fun h=>by cases h)
         | (refine (HClk.out _).mono ?_;rintro e w' ⟨rfl,hb⟩;exact ⟨_,rfl,HR.out _ _ (by simp [sayAt,Say.holds]) hb (by simp [sayAt,Say.isBlk])⟩)
         | (refine (HClt.out _).mono ?_;rintro e w' ⟨rfl,hb⟩;exact ⟨_,rfl,HR.out _ _ (by simp [sayAt,Say.holds]) hb (by simp [sayAt,Say.isBlk])⟩)
      case lastw =>
       intro vs W hI hb hg hd
       have g1:=hg 1 (by omega)
       obtain ⟨o,ho1,ho2,g4,ho⟩:=hg 11 (by omega)
       simp only [sayAt,Say.holds,List.getD_cons_succ,List.getD_cons_zero] at g1
       simp only [List.take_succ_cons,List.take_zero,List.drop_succ_cons,List.drop_zero,putAll,Act.put,List.setIfInBounds_toArray,List.set_cons_succ,List.set_cons_zero,Nat.zero_add,Nat.reduceAdd]
       rw [g1,g4]
       have HI:=Lib.hid hI.1
       have hlen:(r.ws.take j).length = j:=by rw [List.length_take];omega
       clear g1 g4 hg hd hI HC5 HV5
       refine wpList_append_own_at _ rfl _ _ 35 rfl w.heap.size 45 i1 (.agg #[.string ⟨#[]⟩,.string ⟨#[]⟩,.bool false]) 3 40 Tryz.underlying35 hi' hz0' hz1' hz2' rfl (by decide) _ _ _ rfl HI.out.r1 ⟨o,0,none⟩ 1 1 [.string k,.string t,.bool dd] rfl rfl ?d1w ?d2w ?d3w ?d4w HI.out.e.bel.size ?_
       case d1w=>exact new_row ho
       case d2w=>intro q hq;simp at hq;rcases hq with rfl | rfl | rfl <;> rfl
       case d3w=>rw [hlen];unfold maxLen;omega
       case d4w=>rw [hlen];omega
       intro v' w5 hown' hgrow _ hat
       obtain ⟨he5,hcp5⟩:=CpEnv.grow2 (ws':=r.ws.take (j + 1)) HI.out (by rw [HTk.out,wrV_snoc];exact hown') (by rw [HTk.out,List.length_append];rfl) hgrow
       have f8:=he5.cel.free (i:=8)
       have q8:=he5.cel.cell (i:=8) rfl
       obtain ⟨gn,capn,rfl,_,_⟩:=World.ownsRow.form hown' (by omega)
       rw [hlen] at hcp5
       have HC5:=Lib.hid hcp5
       clear hown' hgrow hat HI ho ho1 ho2 hb he5 hcp5 hlen
       go_wp2_with fail
       go_roundw
       case rel=>exact ⟨j + 1,_,by omega,by go_num,HC5⟩
       case measure=>simp [RowKit.intOf];omega
     ·obtain rfl:j = r.ws.length:=by omega
      have hc8:=hcp.out
      rw [List.take_length] at hc8
      obtain ⟨A7,c7,rfl,_⟩:=own_rowF (F:=fun _=>False) hc8.r0 (by rw [strV_len,Nat.mul_one]) (fun _ hf=>hf.elim)
      obtain ⟨B7,d7,rfl,_⟩:=own_rowF (F:=fun _=>False) hc8.r1 (wrV_len _) (fun _ hf=>hf.elim)
      obtain ⟨k1,k2,k3,k4⟩:=own_strs hc8.r0
      obtain ⟨m1,m2,m3,m4⟩:=own_wrs hc8.r1
      have HA7:=Lib.hid (fun ad (e:A7 = some ad)=>(hc8.r0.lt ad.block (by rw [e];rfl)).1)
      have HB7:=Lib.hid (fun ad (e:B7 = some ad)=>(hc8.r1.lt ad.block (by rw [e];rfl)).1)
      have HN7:=Lib.hid (fun ad (e:A7 = some ad)=>show ad.block ≠ w.heap.size + 1 from fun h=>own_cel_ne hc8.r0 hc8.e.res (by decide) (by rw [e];exact congrArg some h))
      have HN8:=Lib.hid (fun ad (e:B7 = some ad)=>show ad.block ≠ w.heap.size + 1 from fun h=>own_cel_ne hc8.r1 hc8.e.res (by decide) (by rw [e];exact congrArg some h))
      have q0:=hc8.e.cel.cell (i:=0) rfl
      have q1:=hc8.e.cel.cell (i:=1) rfl
      have q2:=hc8.e.cel.cell (i:=2) rfl
      have q3:=hc8.e.cel.cell (i:=3) rfl
      have q4:=hc8.e.cel.cell (i:=4) rfl
      have q5:=hc8.e.cel.cell (i:=5) rfl
      have q6:=hc8.e.cel.cell (i:=6) rfl
      have q7:=hc8.e.cel.cell (i:=7) rfl
      have q8:=hc8.e.cel.cell (i:=8) rfl
      have zq:=fun i=>hc8.e.res.free (i:=i)
      have t0:=hc8.e.res.cell (i:=0) rfl
      have t1:=hc8.e.res.cell (i:=1) rfl
      have t2:=hc8.e.res.cell (i:=2) rfl
      have t3:=hc8.e.res.cell (i:=3) rfl
      have t4:=hc8.e.res.cell (i:=4) rfl
      have t5:=hc8.e.res.cell (i:=5) rfl
      have t6:=hc8.e.res.cell (i:=6) rfl
      have t7:=hc8.e.res.cell (i:=7) rfl
      have t8:=hc8.e.res.cell (i:=8) rfl
      have HE8:=Lib.hid hc8.e
      have HFr:=Lib.hid (show FrK wr ⟨r,A7,B7,c7,d7⟩ from FrK.row hc8.r0)
      have HV8:=Lib.hid (And.intro k1 (And.intro k2 (And.intro k3 (And.intro k4 (And.intro m1 (And.intro m2 (And.intro m3 m4)))))))
      clear hcp hc8 k1 k2 k3 k4 m1 m2 m3 m4
      go_wp2_with fail
      have HF:=Lib.hid (set9_cel (v0:=.int .i64 r.kind) (v1:=.int .i64 r.txn) (v2:=.int .i64 r.ts) (v3:=.int .i64 r.coord) (v4:=.string r.key) (v5:=.string r.text) (v6:=.bool r.dead) (v7:=.slice A7 r.keys.length c7) (v8:=.slice B7 r.ws.length d7) HE8.out.res)
      have HBF:=set9_below (R:=w.heap.size + 1) (v0:=.int .i64 r.kind) (v1:=.int .i64 r.txn) (v2:=.int .i64 r.ts) (v3:=.int .i64 r.coord) (v4:=.string r.key) (v5:=.string r.text) (v6:=.bool r.dead) (v7:=.slice A7 r.keys.length c7) (v8:=.slice B7 r.ws.length d7) HE8.out.bel (Nat.le_succ _)
      have z0:=HF.out.cell (i:=0) rfl
      have z1:=HF.out.cell (i:=1) rfl
      have z2:=HF.out.cell (i:=2) rfl
      have z3:=HF.out.cell (i:=3) rfl
      have z4:=HF.out.cell (i:=4) rfl
      have z5:=HF.out.cell (i:=5) rfl
      have z6:=HF.out.cell (i:=6) rfl
      have z7:=HF.out.cell (i:=7) rfl
      have z8:=HF.out.cell (i:=8) rfl
      unfold set9 at z0 z1 z2 z3 z4 z5 z6 z7 z8
      obtain ⟨k1,k2,k3,k4,m1,m2,m3,m4⟩:=HV8.out
      have hk9:∀ k,k ≠ w.heap.size + 1 → (set9 wr (w.heap.size + 1) (.int .i64 r.kind) (.int .i64 r.txn) (.int .i64 r.ts) (.int .i64 r.coord) (.string r.key) (.string r.text) (.bool r.dead) (.slice A7 r.keys.length c7) (.slice B7 r.ws.length d7)).heap[k]? = wr.heap[k]?:=fun k hk=>by
       have e:∀ (W:World) (i:Nat) (v:Value),(W.setCell ⟨w.heap.size + 1,i,none⟩ v).heap[k]? = W.heap[k]?:=fun W i v=>Below.heap_setCell W ⟨w.heap.size + 1,i,none⟩ v k hk
       unfold set9
       rw [e,e,e,e,e,e,e,e,e]
      have hs9:wr.heap.size ≤ (set9 wr (w.heap.size + 1) (.int .i64 r.kind) (.int .i64 r.txn) (.int .i64 r.ts) (.int .i64 r.coord) (.string r.key) (.string r.text) (.bool r.dead) (.slice A7 r.keys.length c7) (.slice B7 r.ws.length d7)).heap.size:=by rw [set9_size];exact Nat.le_refl _
      refine bodyPost_ret (v:=.agg (rcs ⟨r,A7,B7,c7,d7⟩).toArray) (by simp [results,Tryz.results37,go_sem,rcs,z0,z1,z2,z3,z4,z5,z6,z7,z8]) rfl ⟨⟨r,A7,B7,c7,d7⟩,rfl,rfl,?_,?_,fun _ ad e=>HA7.out ad e,fun _ ad e=>HB7.out ad e,HBF⟩
      rotate_left
      ·exact HFr.out.keep fun ad e _=>hk9 _ (HN7.out ad e)
      exact ⟨strs_in (F:=fun k=>k ≠ w.heap.size + 1) k1 (fun _ ad e=>HN7.out ad e) hs9 hk9,wrs_in (F:=fun k=>k ≠ w.heap.size + 1) m1 (fun _ ad e=>HN8.out ad e) hs9 hk9,⟨HRg.out,k2,m2,k3,m3⟩,k4,m4⟩
section
variable {W:World} {F:Nat → Prop} {g bc bp:Nat} {v:Value} {K:List KI} {P:List RI} {s:Shf}
end
theorem ok32 {l:List Vr} (h:ChOk l):l.length * 32 ≤ 140737488351232:=by have:=h.len;omega
theorem okRng {l:List Vr} (h:ChOk l):∀ x ∈ l,VrRng x:=fun x hx=>by
 obtain ⟨h1,h2,h3,_⟩:=h.each x hx
 exact ⟨by omega,by unfold reachBytes;omega⟩
theorem okChk {l:List Vr} (h:ChOk l):(chkP l).2 = 0:=chk_ok.2 h
section
variable {W:World} {F:Nat → Prop} {g bc bp:Nat} {v:Value} {K:List KI} {P:List RI} {s:Shf}
end
section
variable {W:World} {F:Nat → Prop} {g bc bp:Nat} {v:Value} {K:List KI} {P:List RI} {s:Shf}
theorem lkeys1_any (h:LAt W F g bc bp v K P s) (hs:ShOk s) (b:Nat) (_hb:b < W.heap.size) (h1:W.cell? ⟨b,0,none⟩ = some (.pointer (some ⟨g,0,none⟩))) (k0:ByteArray) :
  Calls Tryz.prog 160 #[.string k0,.pointer (some ⟨b,0,none⟩)] W fun e w'=>e = .returned (.bool (heldB s k0 false)) ∧ Below W.heap.size W w':=by
 have HHe:=Lib.hid (fun V (hv:Below W.heap.size W V)=>lheld_any (h.below hv) hs k0 false)
 have HB:=Lib.hid (Below.refl W.heap.size W)
 clear h hs _hb
 go_enter Tryz.func160,Tryz.ntmps160
 go_wp2_with fail
 refine (HHe.out _ HB.out).mono ?_
 rintro e1 w1 ⟨rfl,hb1⟩
 have HB1:=Lib.hid (HB.out.trans (hb1.mono HB.out.size))
 clear hb1
 go_wp2_with fail
 go_ret
 exact ⟨rfl,HB1.out⟩
theorem lkeys_any (h:LAt W F g bc bp v K P s) (hs:ShOk s) (b:Nat) (hb:b < W.heap.size) (h1:W.cell? ⟨b,0,none⟩ = some (.pointer (some ⟨g,0,none⟩))) (A:Option Addr) (c:Nat) (l:List ByteArray) (hA:StrsAt W A l) (hl:l.length ≤ 1024) :
  Calls Tryz.prog 159 #[.slice A l.length c,.func (.func 160) #[] #[.pointer (some ⟨b,0,none⟩)]] W fun e w'=>e = .returned (.bool (l.any fun y=>heldB s y false)) ∧ Below W.heap.size W w':=by
 have HC:=Lib.hid (fun (k0:ByteArray) V (hv:Below W.heap.size W V)=>lkeys1_any (h.below hv) hs b (Nat.lt_of_lt_of_le hb hv.size) ((cell_kept hv _ hb).trans h1) k0)
 have HA:=Lib.hid (fun V (hv:Below W.heap.size W V)=>hA.below hv)
 have hlen:(l.length:Int) ≤ 1024:=by omega
 have HI:Hid (Calls Tryz.prog 229 #[.slice A l.length c,.func (.func 160) #[] #[.pointer (some ⟨b,0,none⟩)]] W fun e w'=>(∃ n:Int,e = .returned (.int .i64 n) ∧ ((n = -1 ∧ (l.any fun y=>heldB s y false) = false) ∨ (0 ≤ n ∧ (l.any fun y=>heldB s y false) = true))) ∧ Below W.heap.size W w'):=Lib.hid (by
  clear h hs hb h1 hA hl
  go_enter Tryz.func229,Tryz.ntmps229
  go_wp2_with fail
  go_loopw [8] (fun iv wr=>∃ j:Nat,j ≤ l.length ∧ iv = .int .i64 (j:Int) ∧ Hid (∀ i (h:i < l.length),i < j → heldB s l[i] false = false) ∧ Hid (Below W.heap.size W wr)) (fun iv _=>l.length - (RowKit.intOf iv).toNat)
  case atStart=>exact ⟨0,Nat.zero_le _,rfl,Lib.hid (fun i _ h=>absurd h (by omega)),Lib.hid (Below.refl _ _)⟩
  case round =>
   obtain ⟨j,hj,rfl,hall,hb⟩:=hrel
   by_cases hlt:j < l.length
   ·have pj:(j:Int) < (l.length:Int):=by omega
    obtain ⟨ad,rfl,_,hcl⟩:=HA.out _ hb.out (by omega)
    have x0:=hcl j hlt
    have HCj:=Lib.hid (HC.out l[j])
    cases he:heldB s l[j] false with
    | true =>
     have HE:=Lib.hid (show (l.any fun y=>heldB s y false) = true from List.any_eq_true.2 ⟨_,List.getElem_mem hlt,he⟩)
     rw [he] at HCj
     generalize l[j] = k0 at x0 HCj
     have HB:=hb
     clear hall he hcl HC hb
     go_wp2_with fail
     refine (HCj.out _ HB.out).mono ?_
     rintro e2 w2 ⟨rfl,hb2⟩
     have HB2:=Lib.hid (HB.out.trans (hb2.mono HB.out.size))
     clear hb2 HB HCj
     go_wp2_with fail
     go_ret
     exact ⟨⟨(j:Int),rfl,.inr ⟨by omega,HE.out⟩⟩,HB2.out⟩
    | false =>
     have HN:=Lib.hid (show ∀ i (h:i < l.length),i < j + 1 → heldB s l[i] false = false from fun i h hi=>by
      by_cases e1:i = j
      ·subst e1;exact he
      ·exact hall.out i h (by omega))
     rw [he] at HCj
     generalize l[j] = k0 at x0 HCj
     have HB:=hb
     clear hall he hcl HC hb
     go_wp2_with fail
     refine (HCj.out _ HB.out).mono ?_
     rintro e2 w2 ⟨rfl,hb2⟩
     have HB2:=Lib.hid (HB.out.trans (hb2.mono HB.out.size))
     clear hb2 HB HCj
     go_wp2_with fail
     go_roundw
     case rel=>exact ⟨j + 1,by omega,by go_num,HN,HB2⟩
     case measure=>simp [RowKit.intOf];omega
   ·obtain rfl:j = l.length:=by omega
    have HE:=Lib.hid (show (l.any fun y=>heldB s y false) = false from List.any_eq_false.2 fun x hx=>by
     obtain ⟨i,hi,rfl⟩:=List.getElem_of_mem hx
     rw [hall.out i hi hi]
     simp)
    have HB:=hb
    clear hall hb HC
    go_wp2_with fail
    go_ret
    exact ⟨⟨-1,rfl,.inl ⟨rfl,HE.out⟩⟩,HB.out⟩)
 generalize (l.any fun y=>heldB s y false) = bb at HI ⊢
 clear h hs hb h1 hA hl HC HA
 go_enter Tryz.func159,Tryz.ntmps159
 go_wp2_with fail
 refine HI.out.mono ?_
 rintro e1 w1 ⟨⟨n,rfl,hn⟩,hb⟩
 rcases hn with ⟨rfl,rfl⟩ | ⟨hn,rfl⟩
 ·go_wp2_with fail
  go_ret
  exact ⟨rfl,hb⟩
 ·go_wp2_with fail
  go_ret
  exact ⟨rfl,hb⟩
theorem lwrs1_any (h:LAt W F g bc bp v K P s) (hs:ShOk s) (b:Nat) (hb:b < W.heap.size) (h1:W.cell? ⟨b,0,none⟩ = some (.pointer (some ⟨g,0,none⟩))) (k0 t0:ByteArray) (d0:Bool) :
  Calls Tryz.prog 162 #[.agg #[.string k0,.string t0,.bool d0],.pointer (some ⟨b,0,none⟩)] W fun e w'=>e = .returned (.bool (heldB s k0 true)) ∧ Below W.heap.size W w':=by
 have HHe:=Lib.hid (fun V (hv:Below W.heap.size W V)=>lheld_any (h.below hv) hs k0 true)
 have hb5:Below W.heap.size W (W.alloc (.cells #[.string k0,.string t0,.bool d0] 45)):=(Below.refl _ W).alloc (Nat.le_refl _) _
 have h2:=(cell_kept hb5 _ hb).trans h1
 have HB:=Lib.hid hb5
 clear hb5 h1
 clear h hs hb
 go_enter Tryz.func162,Tryz.ntmps162
 go_wp2_with fail
 refine (HHe.out _ HB.out).mono ?_
 rintro e1 w1 ⟨rfl,hb1⟩
 have HB1:=Lib.hid (HB.out.trans (hb1.mono HB.out.size))
 clear hb1
 go_wp2_with fail
 go_ret
 exact ⟨rfl,HB1.out⟩
theorem lwrs_any (h:LAt W F g bc bp v K P s) (hs:ShOk s) (b:Nat) (hb:b < W.heap.size) (h1:W.cell? ⟨b,0,none⟩ = some (.pointer (some ⟨g,0,none⟩))) (A:Option Addr) (c:Nat) (l:List Wr) (hA:WrsAt W A l) (hl:l.length ≤ 1024) :
  Calls Tryz.prog 161 #[.slice A l.length c,.func (.func 162) #[] #[.pointer (some ⟨b,0,none⟩)]] W fun e w'=>e = .returned (.bool (l.any fun y=>heldB s y.key true)) ∧ Below W.heap.size W w':=by
 have HC:=Lib.hid (fun (k0 t0:ByteArray) (d0:Bool) V (hv:Below W.heap.size W V)=>lwrs1_any (h.below hv) hs b (Nat.lt_of_lt_of_le hb hv.size) ((cell_kept hv _ hb).trans h1) k0 t0 d0)
 have HA:=Lib.hid (fun V (hv:Below W.heap.size W V)=>hA.below hv)
 have hlen:(l.length:Int) ≤ 1024:=by omega
 have HI:Hid (Calls Tryz.prog 230 #[.slice A l.length c,.func (.func 162) #[] #[.pointer (some ⟨b,0,none⟩)]] W fun e w'=>(∃ n:Int,e = .returned (.int .i64 n) ∧ ((n = -1 ∧ (l.any fun y=>heldB s y.key true) = false) ∨ (0 ≤ n ∧ (l.any fun y=>heldB s y.key true) = true))) ∧ Below W.heap.size W w'):=Lib.hid (by
  clear h hs hb h1 hA hl
  go_enter Tryz.func230,Tryz.ntmps230
  go_wp2_with fail
  go_loopw [8] (fun iv wr=>∃ j:Nat,j ≤ l.length ∧ iv = .int .i64 (j:Int) ∧ Hid (∀ i (h:i < l.length),i < j → heldB s l[i].key true = false) ∧ Hid (Below W.heap.size W wr)) (fun iv _=>l.length - (RowKit.intOf iv).toNat)
  case atStart=>exact ⟨0,Nat.zero_le _,rfl,Lib.hid (fun i _ h=>absurd h (by omega)),Lib.hid (Below.refl _ _)⟩
  case round =>
   obtain ⟨j,hj,rfl,hall,hb⟩:=hrel
   by_cases hlt:j < l.length
   ·have pj:(j:Int) < (l.length:Int):=by omega
    obtain ⟨ad,rfl,x0,x1,x2⟩:=wrs_at (HA.out _ hb.out) hlt
    have hcl:=True.intro
    have HCj:=Lib.hid (HC.out l[j].key l[j].shard l[j].dead)
    cases he:heldB s l[j].key true with
    | true =>
     have HE:=Lib.hid (show (l.any fun y=>heldB s y.key true) = true from List.any_eq_true.2 ⟨_,List.getElem_mem hlt,he⟩)
     rw [he] at HCj
     generalize l[j] = X at x0 x1 x2 HCj
     obtain ⟨k0,t0,d0⟩:=X
     simp only at x0 x1 x2 HCj
     have HB:=hb
     clear hall he hcl HC hb
     go_wp2_with fail
     refine (HCj.out _ HB.out).mono ?_
     rintro e2 w2 ⟨rfl,hb2⟩
     have HB2:=Lib.hid (HB.out.trans (hb2.mono HB.out.size))
     clear hb2 HB HCj
     go_wp2_with fail
     go_ret
     exact ⟨⟨(j:Int),rfl,.inr ⟨by omega,HE.out⟩⟩,HB2.out⟩
    | false =>
     have HN:=Lib.hid (show ∀ i (h:i < l.length),i < j + 1 → heldB s l[i].key true = false from fun i h hi=>by
      by_cases e1:i = j
      ·subst e1;exact he
      ·exact hall.out i h (by omega))
     rw [he] at HCj
     generalize l[j] = X at x0 x1 x2 HCj
     obtain ⟨k0,t0,d0⟩:=X
     simp only at x0 x1 x2 HCj
     have HB:=hb
     clear hall he hcl HC hb
     go_wp2_with fail
     refine (HCj.out _ HB.out).mono ?_
     rintro e2 w2 ⟨rfl,hb2⟩
     have HB2:=Lib.hid (HB.out.trans (hb2.mono HB.out.size))
     clear hb2 HB HCj
     go_wp2_with fail
     go_roundw
     case rel=>exact ⟨j + 1,by omega,by go_num,HN,HB2⟩
     case measure=>simp [RowKit.intOf];omega
   ·obtain rfl:j = l.length:=by omega
    have HE:=Lib.hid (show (l.any fun y=>heldB s y.key true) = false from List.any_eq_false.2 fun x hx=>by
     obtain ⟨i,hi,rfl⟩:=List.getElem_of_mem hx
     rw [hall.out i hi hi]
     simp)
    have HB:=hb
    clear hall hb HC
    go_wp2_with fail
    go_ret
    exact ⟨⟨-1,rfl,.inl ⟨rfl,HE.out⟩⟩,HB.out⟩)
 generalize (l.any fun y=>heldB s y.key true) = bb at HI ⊢
 clear h hs hb h1 hA hl HC HA
 go_enter Tryz.func161,Tryz.ntmps161
 go_wp2_with fail
 refine HI.out.mono ?_
 rintro e1 w1 ⟨⟨n,rfl,hn⟩,hb⟩
 rcases hn with ⟨rfl,rfl⟩ | ⟨hn,rfl⟩
 ·go_wp2_with fail
  go_ret
  exact ⟨rfl,hb⟩
 ·go_wp2_with fail
  go_ret
  exact ⟨rfl,hb⟩
end
end Sh
end Go.Proofs.YtbkanoblcojdfaaGreat
