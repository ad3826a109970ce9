/- Parts of the proof, joined: RcBytes, LtPack, RcPack, PkLaw, PkDone1; their conditions stand with each. -/
import Derived.Test.YtmidncclndongaaGreatC4
import Derived.Test.YtmidncclndongaaGreatC5
import Derived.Test.YtmidncclndongaaGreatC15
import Derived.Test.YtmidncclndongaaGreatC22

set_option maxRecDepth 20000
set_option maxHeartbeats 8000000
namespace Go.Proofs.YtmidncclndongaaGreat
namespace Rc
open Go.RowKit Bk Lt
attribute [local go_sem ↓] Go.wp_at_zero Go.wp_at_succ
attribute [local go_sem] floatUpon pick
def numsP (r:Rec) (j:Nat):List Int:=[r.kind,r.txn,r.ts,r.coord,flag r.dead,(r.keys.length:Int)] ++ (r.ws.take j).map fun x=>if x.dead then 1 else 0
def textsP (r:Rec) (j:Nat):List ByteArray:=r.key :: r.text :: (r.keys ++ (r.ws.take j).flatMap fun x=>[x.key,x.shard])
theorem numsP_all (r:Rec):numsP r r.ws.length = numsOf r:=by unfold numsP numsOf;rw [List.take_length]
theorem textsP_all (r:Rec):textsP r r.ws.length = textsOf r:=by unfold textsP textsOf;rw [List.take_length]
theorem numsP_succ {r:Rec} {j:Nat} (h:j < r.ws.length):numsP r (j + 1) = numsP r j ++ [if r.ws[j].dead then 1 else 0]:=by
 unfold numsP
 rw [List.take_add_one,List.getElem?_eq_getElem h,List.map_append]
 simp
theorem textsP_succ {r:Rec} {j:Nat} (h:j < r.ws.length):textsP r (j + 1) = (textsP r j ++ [r.ws[j].key]) ++ [r.ws[j].shard]:=by
 unfold textsP
 rw [List.take_add_one,List.getElem?_eq_getElem h,List.flatMap_append]
 simp
theorem numsP_len (r:Rec) (j:Nat):(numsP r j).length ≤ 6 + j:=by
 unfold numsP
 rw [List.length_append,List.length_map,List.length_take]
 show 6 + _ ≤ _
 omega
theorem textsP_len (r:Rec) (j:Nat):(textsP r j).length ≤ 2 + r.keys.length + 2 * j:=by
 unfold textsP
 rw [List.length_cons,List.length_cons,List.length_append,flat_len,List.length_take]
 omega
def S25 (H:Nat) (t1 t2:TypeId) (c1 c2:Array Value) (n1 n2:Nat) (v:Value) (W:World):Prop:=∃ p q,H ≤ p ∧ H ≤ q ∧ v = .agg #[.slice (some ⟨p,0,none⟩) n1 n1,.slice (some ⟨q,0,none⟩) n2 n2] ∧ W.heap[p]? = some (.cells c1 t1 (0,0)) ∧ W.heap[q]? = some (.cells c2 t2 (0,0))
theorem S25.keep {H:Nat} {t1 t2:TypeId} {c1 c2:Array Value} {n1 n2:Nat} {v:Value} {W W':World} (h:S25 H t1 t2 c1 c2 n1 n2 v W) (hb:Below W.heap.size W W'):S25 H t1 t2 c1 c2 n1 n2 v W':=by
 obtain ⟨p,q,h1,h2,h3,h4,h5⟩:=h
 exact ⟨p,q,h1,h2,h3,(hb.block p (Array.getElem?_eq_some_iff.1 h4).1).trans h4,(hb.block q (Array.getElem?_eq_some_iff.1 h5).1).trans h5⟩
theorem blk_ne {W:World} {p q:Nat} {a b:Array Value} {s t:TypeId} {m n:Nat × Nat} (h:W.heap[p]? = some (.cells a s m)) (h2:W.heap[q]? = some (.cells b t n)) (hst:s ≠ t):p ≠ q:=fun e=>by
 subst e
 rw [h] at h2
 simp only [Option.some.injEq,Obj.cells.injEq] at h2
 exact hst h2.2.1
theorem bytes_any (A B:Option Addr) (c d:Nat) (r:Rec) (w:World) (ha:StrsAt w A r.keys) (hb:WrsAt w B r.ws) (hA:A = none → c = 0) (hok:RecOk r) :
  Calls Tryz.prog 138 #[recV r A B c d] w fun e w'=>e = .returned (.string ⟨(recL r).toArray⟩) ∧ Below w.heap.size w w':=by
 obtain ⟨i0,hi,hz0,hz1,hz2⟩:=info_parts Tryz.infoStr
 obtain ⟨i1,hi',hz0',hz1',hz2'⟩:=info_parts Pk.Tryz.infoInt
 have henv:=RcEnv.start (c:=c) (d:=d) ha hb
 have hbd:=hok.bounds
 have nk:r.keys.length ≤ 16:=hbd.1
 have nw:r.ws.length ≤ 16:=hbd.2.1
 have pk:(r.keys.length:Int) ≤ 16:=by omega
 have pw:(r.ws.length:Int) ≤ 16:=by omega
 have HM:=Lib.hid hok.pack
 have HAn:=Lib.hid hA
 have HO1:=Lib.hid (fun W=>show Calls Tryz.prog 213 #[.bool r.dead] W fun e w'=>e = .returned (.int .i64 (flag r.dead)) ∧ w' = W from one_any r.dead W)
 clear ha hb hbd hok hA
 unfold recV
 go_enter Tryz.func138,Tryz.ntmps138
 go_upto_region 1 with fail
 generalize w.alloc (.cells #[.int .i64 r.kind,.int .i64 r.txn,.int .i64 r.ts,.int .i64 r.coord,.string r.key,.string r.text,.bool r.dead,.slice A r.keys.length c,.slice B r.ws.length d] 39) = W1 at henv ⊢
 have HE:=Lib.hid henv
 clear henv
 refine wp_region_said 22 [5,6,7,8,9,10,11,12,13,14,15,16,17,18,19,20,21,22,23,24,25,3]
  [.is (.pointer (some ⟨w.heap.size,0,none⟩)),.is (.int .i64 r.kind),.is (.pointer (some ⟨w.heap.size,1,none⟩)),.is (.int .i64 r.txn),.is (.pointer (some ⟨w.heap.size,2,none⟩)),.is (.int .i64 r.ts),.is (.pointer (some ⟨w.heap.size,3,none⟩)),.is (.int .i64 r.coord),.is (.pointer (some ⟨w.heap.size,6,none⟩)),.is (.bool r.dead),.is (.int .i64 (flag r.dead)),.is (.pointer (some ⟨w.heap.size,7,none⟩)),.is (.slice A r.keys.length c),.is (.int .i64 (r.keys.length:Int)),.arr 3 #[.int .i64 r.kind,.int .i64 r.txn,.int .i64 r.ts,.int .i64 r.coord,.int .i64 (flag r.dead),.int .i64 (r.keys.length:Int)] 6 6,.is (.pointer (some ⟨w.heap.size,4,none⟩)),.is (.string r.key),.is (.pointer (some ⟨w.heap.size,5,none⟩)),.is (.string r.text),.arr 9 #[.string r.key,.string r.text] 2 2,.own (S25 W1.heap.size 3 9 #[.int .i64 r.kind,.int .i64 r.txn,.int .i64 r.ts,.int .i64 r.coord,.int .i64 (flag r.dead),.int .i64 (r.keys.length:Int)] #[.string r.key,.string r.text] 6 2) (fun _ _ _ h hb=>h.keep hb),.blk 222 #[.slice none 0 0,.slice none 0 0]]
  (fun W=>RcEnv w W w.heap.size A B c d r ∧ Below W1.heap.size W1 W) (by kernel_rfl) (by kernel_rfl) (by kernel_rfl) (by kernel_rfl) (by kernel_rfl) (fun W W' h hb=>⟨h.1.step hb,h.2.trans (hb.mono h.2.size)⟩) ⟨HE.out,Below.refl _ _⟩ ?steps1 ?last1
 case steps1 =>
  simp only [List.take_succ_cons,List.take_zero]
  refine ⟨?_,?_,?_,?_,?_,?_,?_,?_,?_,?_,?_,?_,?_,?_,?_,?_,?_,?_,?_,?_,?_,?_,trivial⟩
  all_goals
   intro vs W ρ hρ hc hf hg hI hH hd R' hR
   have k0:=hI.1.cel.cell (i:=0) rfl
   have k1:=hI.1.cel.cell (i:=1) rfl
   have k2:=hI.1.cel.cell (i:=2) rfl
   have k3:=hI.1.cel.cell (i:=3) rfl
   have k4:=hI.1.cel.cell (i:=4) rfl
   have k5:=hI.1.cel.cell (i:=5) rfl
   have k6:=hI.1.cel.cell (i:=6) rfl
   have k7:=hI.1.cel.cell (i:=7) rfl
   have k8:=hI.1.cel.cell (i:=8) rfl
   have HR:=Lib.hid hR
   simp [depsOf,Region.binds,sayAt,Say.holds] at hd
   clear hR hI
  case refine_21 =>
   obtain ⟨⟨p,hp1,hp2,hp3,hp4⟩,q,hq1,hq2,hq3,hq4⟩:=hd
   go_simp
   exact HR.out _ _ ⟨p,q,hp1,hq1,rfl,hp4,hq4⟩ (Below.refl _ _) (fun h=>by cases h)
  case refine_22 =>
   go_simp
   exact HR.out _ _ ⟨_,hH,by simp,rfl,heap_alloc_new _ _⟩ ((Below.refl _ _).alloc (Nat.le_refl _) _) (fun _=>rfl)
  all_goals
   go_simp
   first
    | exact HR.out _ _ (by simp [sayAt,Say.holds]) (Below.refl _ _) (by simp [sayAt,Say.isBlk])
    | exact HR.out _ _ ⟨_,hH,by simp,rfl,heap_alloc_new _ _⟩ ((Below.refl _ _).alloc (Nat.le_refl _) _) (fun h=>by cases h)
    | (refine (HO1.out _).mono ?_;rintro e w' ⟨rfl,rfl⟩;exact ⟨_,rfl,HR.out _ _ (by simp [sayAt,Say.holds]) (Below.refl _ _) (by simp [sayAt,Say.isBlk])⟩)
    | trace_state
 case last1 =>
 intro vs W hI hb hg hd
 obtain ⟨p,q,hp1,hq1,g20,hp2,hq2⟩:=hg 20 (by omega)
 obtain ⟨g,ho1,ho2,g21,ho⟩:=hg 21 (by omega)
 simp only [List.take_succ_cons,List.take_zero,List.drop_succ_cons,List.drop_zero,putAll,Act.put,List.setIfInBounds_toArray,List.set_cons_succ,List.set_cons_zero,Nat.zero_add,Nat.reduceAdd]
 rw [g20,g21]
 have hpq:=blk_ne hp2 hq2 (by decide)
 have hpo:=blk_ne hp2 ho (by decide)
 have hqo:=blk_ne hq2 ho (by decide)
 clear g20 g21 hg hd hb
 refine wpList_plain rfl fun K2 hK2=>?_
 refine wp_store_row 222 (.tmp 3) (.tmp 25) rfl g _ rfl rfl _ _ ho (by kernel_rfl) rfl (by simp [Value.oneCell']) ?_
 refine hK2 _ _ ?_
 clear hK2 K2
 have hbt:BtEnv W1 (W.setRow g #[.slice (some ⟨p,0,none⟩) 6 6,.slice (some ⟨q,0,none⟩) 2 2]) W1.heap.size g (.slice (some ⟨p,0,none⟩) 6 6) (.slice (some ⟨q,0,none⟩) 2 2) (numsP r 0) [r.key,r.text]:=by
  refine ⟨setRow_heap _ _ _ _ 222 (0,0) ho,?_,?_,?_,?_,?_,ho1,below_row hI.2 ho1 _⟩
  ·have e:(numsP r 0).length = 6:=by simp [numsP]
   rw [e]
   exact ⟨by rw [intV_len,e],.inr ⟨p,6,_,rfl,hp1,(setRow_other _ _ _ _ hpo).trans hp2,Nat.le_refl _,by unfold maxLen;omega,rfl,by simp [numsP,intV]⟩⟩
  ·exact ⟨rfl,.inr ⟨q,2,_,rfl,hq1,(setRow_other _ _ _ _ hqo).trans hq2,Nat.le_refl _,by unfold maxLen;omega,rfl,rfl⟩⟩
  ·intro j h1 h2;simp [Value.ownBlock] at h1 h2;omega
  ·simp [Value.ownBlock];exact hpo
  ·simp [Value.ownBlock];exact hqo
 generalize W.setRow g #[.slice (some ⟨p,0,none⟩) 6 6,.slice (some ⟨q,0,none⟩) 2 2] = W2 at hbt ⊢
 go_upto_region 2 with fail
 have hk7:=(HE.out.step hbt.bel).cel.cell (i:=7) rfl
 have hc1:=hbt.c1
 have HBt:=Lib.hid hbt
 have HA2:=Lib.hid (show A = none → r.keys.length = 0 ∧ c = 0 from fun e=>by
   refine ⟨?_,HAn.out e⟩
   rcases Nat.eq_zero_or_pos r.keys.length with h | h
   ·exact h
   ·obtain ⟨ad,h2,_⟩:=HE.out.ks h;rw [e] at h2;cases h2)
 clear hbt hI hp1 hq1 hp2 hq2 ho ho1 ho2 hpq hpo hqo
 generalize (Value.slice (some ⟨p,0,none⟩) 6 6) = vp at *
 generalize (Value.slice (some ⟨q,0,none⟩) 2 2) = vq at *
 clear p q
 go_wp2_with (at_builtin;refine wpList_append_opt rfl _ _ 36 rfl W1.heap.size 9 i0 (.string ⟨#[]⟩) 16 Tryz.underlying36 hi hz0 hz1 hz2 rfl _ 2 _ rfl HBt.out.r1 A r.keys.length c (strV r.keys) rfl (strV_len _) HA2.out ?c1 ?c2 ?c3 ?c4 HBt.out.lt ?_)
 case c1=>exact fun ad e=>by subst e;exact (HE.out.step HBt.out.bel).ks.news
 case c2=>intro u hu;obtain ⟨s,_,rfl⟩:=List.mem_map.1 hu;rfl
 case c3=>unfold maxLen;omega
 case c4=>omega
 intro v' w3 ho hg hat
 obtain ⟨gn,capn,rfl,_,_⟩:=World.ownsRow.form ho (by omega)
 obtain ⟨hce,hbt2⟩:=BtEnv.grow2 (ts':=textsP r 0) HBt.out (by
  have e:strV [r.key,r.text] ++ strV r.keys = strV (textsP r 0):=by simp [strV,textsP]
  rw [← e];exact ho) (by simp [textsP];omega) hg hat
 have hf1:=hce.cell (i:=1) rfl
 have hf2:=hce.free (i:=1)
 have HBt2:=Lib.hid hbt2
 clear ho hg hat hce hbt2 HBt hk7 hc1
 go_upto_region 3 with fail
 obtain ⟨u2,hu2⟩:∃ u,u = Value.slice (some ⟨gn,0,none⟩) (2 + r.keys.length) capn:=⟨_,rfl⟩
 rw [← hu2] at HBt2 ⊢
 generalize w3.setCell ⟨g,1,none⟩ u2 = W4 at HBt2 ⊢
 clear hf1 hf2 hu2
 go_wp2_with fail
 go_loopw [4] (fun i wr=>∃ (j:Nat) (v1 v2:Value),j ≤ r.ws.length ∧ i = .int .i64 (j:Int) ∧ Hid (BtEnv W1 wr W1.heap.size g v1 v2 (numsP r j) (textsP r j))) (fun i _=>r.ws.length - (intOf i).toNat)
 case atStart=>exact ⟨0,_,_,by omega,rfl,HBt2.out⟩
 case round =>
  obtain ⟨j,v1,v2,hj,rfl,hbt⟩:=hrel
  clear HBt2
  have hle:=HE.out.step hbt.out.bel
  have k8:=hle.cel.cell (i:=8) rfl
  by_cases hlt:j < r.ws.length
  ·have pj:(j:Int) < (r.ws.length:Int):=by omega
   obtain ⟨bd,rfl,_,_⟩:=hle.ws (by omega)
   obtain ⟨X,hX⟩:∃ X,X = r.ws[j]:=⟨_,rfl⟩
   have hC:∀ W,Below W1.heap.size W1 W → W.cell? ⟨w.heap.size,8,none⟩ = some (.slice (some bd) r.ws.length d) ∧ W.cell? (bd.add (j * 3)) = some (.string X.key) ∧ W.cell? ⟨(bd.add (j * 3)).block,(bd.add (j * 3)).off + 1,none⟩ = some (.string X.shard) ∧ W.cell? ⟨(bd.add (j * 3)).block,(bd.add (j * 3)).off + 2,none⟩ = some (.bool X.dead):=fun W hW=>by
    have h:=HE.out.step hW
    obtain ⟨bd',e1,_,hcb⟩:=h.ws (by omega)
    obtain rfl:=Option.some.inj e1
    obtain ⟨y0,y1,y2⟩:=hcb j hlt
    rw [add_field _ _ _ (by omega),add_field _ _ _ (by omega),hX]
    exact ⟨h.cel.cell (i:=8) rfl,y0,y1,y2⟩
   have HC:=Lib.hid hC
   have HO:=Lib.hid (fun W=>one_any X.dead W)
   have hns:=numsP_succ hlt
   have hts:=textsP_succ hlt
   rw [← hX] at hns hts
   have HNs:=Lib.hid hns
   have HTs:=Lib.hid hts
   have hnl:=numsP_len r j
   have htl:=textsP_len r j
   clear hC hns hts hle hX
   obtain ⟨xk,xs,xd⟩:=X
   simp only at *
   go_upto_region 6 with fail
   refine wp_region_said 10 [39,40,41,42,43,44,45,46,47,48]
    [.is (.pointer (some ⟨g,0,none⟩)),.is v1,.is (.pointer (some ⟨w.heap.size,8,none⟩)),.is (.slice (some bd) r.ws.length d),.is (.int .i64 (j:Int)),.is (.pointer (some (bd.add (j * 3)))),.is (.pointer (some ⟨(bd.add (j * 3)).block,(bd.add (j * 3)).off + 2,none⟩)),.is (.bool xd),.is (.int .i64 (if xd then 1 else 0)),.arr 3 #[.int .i64 (if xd then 1 else 0)] 1 1]
    (fun W=>BtEnv W1 W W1.heap.size g v1 v2 (numsP r j) (textsP r j)) (by kernel_rfl) (by kernel_rfl) (by kernel_rfl) (by kernel_rfl) (by kernel_rfl) (fun W W' h hb=>h.step hb) hbt.out ?steps ?last
   case steps =>
    simp only [List.take_succ_cons,List.take_zero]
    refine ⟨?_,?_,?_,?_,?_,?_,?_,?_,?_,?_,trivial⟩
    all_goals
     intro vs W ρ hρ hc hf hg hI hH hd R' hR
     obtain ⟨z8,z0,z1,z2⟩:=HC.out W hI.bel
     have q0:=hI.c0
     have HR:=Lib.hid hR
     simp [depsOf,Region.binds,sayAt,Say.holds] at hd
     clear hR hI k8
     go_simp
     first
      | exact HR.out _ _ (by simp [sayAt,Say.holds]) (Below.refl _ _) (by simp [sayAt,Say.isBlk])
      | exact HR.out _ _ ⟨_,hH,by simp,rfl,heap_alloc_new _ _⟩ ((Below.refl _ _).alloc (Nat.le_refl _) _) (fun h=>by cases h)
      | (refine (HO.out _).mono ?_;rintro e w' ⟨rfl,rfl⟩;exact ⟨_,rfl,HR.out _ _ (by simp [sayAt,Say.holds]) (Below.refl _ _) (by simp [sayAt,Say.isBlk])⟩)
      | trace_state
   case last =>
    intro vs W hI hb hg hd
    have g1:=hg 1 (by omega)
    obtain ⟨o,ho1,ho2,g9,ho⟩:=hg 9 (by omega)
    simp only [sayAt,Say.holds,List.getD_cons_succ,List.getD_cons_zero] at g1
    simp only [List.take_succ_cons,List.take_zero,List.drop_succ_cons,List.drop_zero,putAll,Act.put,List.setIfInBounds_toArray,List.set_cons_succ,List.set_cons_zero,Nat.zero_add,Nat.reduceAdd]
    rw [g1,g9]
    have HI:=Lib.hid hI
    clear g1 g9 hg hd hI hbt k8
    refine wpList_append_own_at _ rfl _ _ 41 rfl W1.heap.size 3 i1 (.int .i64 0) 1 8 Tryz.underlying41 hi' hz0' hz1' hz2' rfl (by decide) _ _ _ rfl HI.out.r0 ⟨o,0,none⟩ 1 1 [.int .i64 (if xd then 1 else 0)] rfl rfl ?d1 ?d2 ?d3 ?d4 HI.out.lt ?_
    case d1=>exact str_one ho
    case d2=>intro u hu;simp at hu;subst hu;rfl
    case d3=>unfold maxLen;omega
    case d4=>omega
    intro v' w5 hown' hgrow _ hat
    obtain ⟨gn,capn,rfl,_,_⟩:=World.ownsRow.form hown' (by omega)
    obtain ⟨hce,hbt2⟩:=BtEnv.grow1 (ns':=numsP r (j + 1)) HI.out (by rw [HNs.out,intV_snoc];exact hown') (by rw [HNs.out,List.length_append];rfl) hgrow hat
    have hf1:=hce.cell (i:=0) rfl
    have hf2:=hce.free (i:=0)
    have HBt3:=Lib.hid hbt2
    clear hown' hgrow hat HI ho ho1 ho2 hb hce hbt2
    go_upto_region 7 with fail
    obtain ⟨va,hva⟩:∃ u,u = Value.slice (some ⟨gn,0,none⟩) ((numsP r j).length + 1) capn:=⟨_,rfl⟩
    rw [← hva] at HBt3 ⊢
    generalize w5.setCell ⟨g,0,none⟩ va = W5 at HBt3 ⊢
    clear hf1 hf2 hva
    refine wp_region_said 9 [51,52,53,54,55,56,57,58,59]
     [.is (.pointer (some ⟨g,1,none⟩)),.is v2,.is (.pointer (some ⟨w.heap.size,8,none⟩)),.is (.slice (some bd) r.ws.length d),.is (.int .i64 (j:Int)),.is (.pointer (some (bd.add (j * 3)))),.is (.pointer (some (bd.add (j * 3)))),.is (.string xk),.arr 9 #[.string xk] 1 1]
     (fun W=>BtEnv W1 W W1.heap.size g va v2 (numsP r (j + 1)) (textsP r j)) (by kernel_rfl) (by kernel_rfl) (by kernel_rfl) (by kernel_rfl) (by kernel_rfl) (fun W W' h hb=>h.step hb) HBt3.out ?steps7 ?last7
    case steps7 =>
     simp only [List.take_succ_cons,List.take_zero]
     refine ⟨?_,?_,?_,?_,?_,?_,?_,?_,?_,trivial⟩
     all_goals
      intro vs W ρ hρ hc hf hg hI hH hd R' hR
      obtain ⟨z8,z0,z1,z2⟩:=HC.out W hI.bel
      have q1:=hI.c1
      have HR:=Lib.hid hR
      simp [depsOf,Region.binds,sayAt,Say.holds] at hd
      clear hR hI
      go_simp
      first
       | exact HR.out _ _ (by simp [sayAt,Say.holds]) (Below.refl _ _) (by simp [sayAt,Say.isBlk])
       | exact HR.out _ _ ⟨_,hH,by simp,rfl,heap_alloc_new _ _⟩ ((Below.refl _ _).alloc (Nat.le_refl _) _) (fun h=>by cases h)
       | trace_state
    case last7 =>
     intro vs W hI hb hg hd
     have g1:=hg 1 (by omega)
     obtain ⟨o,ho1,ho2,g8,ho⟩:=hg 8 (by omega)
     simp only [sayAt,Say.holds,List.getD_cons_succ,List.getD_cons_zero] at g1
     simp only [List.take_succ_cons,List.take_zero,List.drop_succ_cons,List.drop_zero,putAll,Act.put,List.setIfInBounds_toArray,List.set_cons_succ,List.set_cons_zero,Nat.zero_add,Nat.reduceAdd]
     rw [g1,g8]
     have HI:=Lib.hid hI
     clear g1 g8 hg hd hI HBt3
     refine wpList_append_own_at _ rfl _ _ 36 rfl W1.heap.size 9 i0 (.string ⟨#[]⟩) 1 16 Tryz.underlying36 hi hz0 hz1 hz2 rfl (by decide) _ _ _ rfl HI.out.r1 ⟨o,0,none⟩ 1 1 [.string xk] rfl rfl ?d17 ?d27 ?d37 ?d47 HI.out.lt ?_
     case d17=>exact str_one ho
     case d27=>intro u hu;simp at hu;subst hu;rfl
     case d37=>unfold maxLen;first | omega | (simp;omega)
     case d47=>first | omega | (simp;omega)
     intro v' w5 hown' hgrow _ hat
     obtain ⟨gm,capm,rfl,_,_⟩:=World.ownsRow.form hown' (by omega)
     obtain ⟨hce,hbt2⟩:=BtEnv.grow2 (ts':=(textsP r j ++ [xk])) HI.out (by rw [Pk.strV_snoc2];exact hown') (by rw [List.length_append];rfl) hgrow hat
     have hf1:=hce.cell (i:=1) rfl
     have hf2:=hce.free (i:=1)
     have HBt4:=Lib.hid hbt2
     clear hown' hgrow hat HI ho ho1 ho2 hb hce hbt2
     go_upto_region 8 with fail
     obtain ⟨vb,hvb⟩:∃ u,u = Value.slice (some ⟨gm,0,none⟩) ((textsP r j).length + 1) capm:=⟨_,rfl⟩
     rw [← hvb] at HBt4 ⊢
     generalize w5.setCell ⟨g,1,none⟩ vb = W6 at HBt4 ⊢
     clear hf1 hf2 hvb
     refine wp_region_said 9 [62,63,64,65,66,67,68,69,70]
      [.is (.pointer (some ⟨g,1,none⟩)),.is vb,.is (.pointer (some ⟨w.heap.size,8,none⟩)),.is (.slice (some bd) r.ws.length d),.is (.int .i64 (j:Int)),.is (.pointer (some (bd.add (j * 3)))),.is (.pointer (some ⟨(bd.add (j * 3)).block,(bd.add (j * 3)).off + 1,none⟩)),.is (.string xs),.arr 9 #[.string xs] 1 1]
      (fun W=>BtEnv W1 W W1.heap.size g va vb (numsP r (j + 1)) (textsP r j ++ [xk])) (by kernel_rfl) (by kernel_rfl) (by kernel_rfl) (by kernel_rfl) (by kernel_rfl) (fun W W' h hb=>h.step hb) HBt4.out ?steps8 ?last8
     case steps8 =>
      simp only [List.take_succ_cons,List.take_zero]
      refine ⟨?_,?_,?_,?_,?_,?_,?_,?_,?_,trivial⟩
      all_goals
       intro vs W ρ hρ hc hf hg hI hH hd R' hR
       obtain ⟨z8,z0,z1,z2⟩:=HC.out W hI.bel
       have q1:=hI.c1
       have HR:=Lib.hid hR
       simp [depsOf,Region.binds,sayAt,Say.holds] at hd
       clear hR hI
       go_simp
       first
        | exact HR.out _ _ (by simp [sayAt,Say.holds]) (Below.refl _ _) (by simp [sayAt,Say.isBlk])
        | exact HR.out _ _ ⟨_,hH,by simp,rfl,heap_alloc_new _ _⟩ ((Below.refl _ _).alloc (Nat.le_refl _) _) (fun h=>by cases h)
        | trace_state
     case last8 =>
      intro vs W hI hb hg hd
      have g1:=hg 1 (by omega)
      obtain ⟨o,ho1,ho2,g8,ho⟩:=hg 8 (by omega)
      simp only [sayAt,Say.holds,List.getD_cons_succ,List.getD_cons_zero] at g1
      simp only [List.take_succ_cons,List.take_zero,List.drop_succ_cons,List.drop_zero,putAll,Act.put,List.setIfInBounds_toArray,List.set_cons_succ,List.set_cons_zero,Nat.zero_add,Nat.reduceAdd]
      rw [g1,g8]
      have HI:=Lib.hid hI
      clear g1 g8 hg hd hI HBt4
      refine wpList_append_own_at _ rfl _ _ 36 rfl W1.heap.size 9 i0 (.string ⟨#[]⟩) 1 16 Tryz.underlying36 hi hz0 hz1 hz2 rfl (by decide) _ _ _ rfl HI.out.r1 ⟨o,0,none⟩ 1 1 [.string xs] rfl rfl ?d18 ?d28 ?d38 ?d48 HI.out.lt ?_
      case d18=>exact str_one ho
      case d28=>intro u hu;simp at hu;subst hu;rfl
      case d38=>unfold maxLen;first | omega | (simp;omega)
      case d48=>first | omega | (simp;omega)
      intro v' w5 hown' hgrow _ hat
      obtain ⟨gm,capm,rfl,_,_⟩:=World.ownsRow.form hown' (by omega)
      obtain ⟨hce,hbt2⟩:=BtEnv.grow2 (ts':=(textsP r (j + 1))) HI.out (by rw [HTs.out,Pk.strV_snoc2];exact hown') (by rw [HTs.out];simp) hgrow hat
      have hf1:=hce.cell (i:=1) rfl
      have hf2:=hce.free (i:=1)
      rw [show (textsP r j ++ [xk]).length = (textsP r j).length + 1 by simp] at hbt2
      have HBt5:=Lib.hid hbt2
      clear hown' hgrow hat HI ho ho1 ho2 hb hce hbt2
      go_wp2_with fail
      go_roundw
      case rel=>exact ⟨j + 1,_,_,by omega,by go_num,HBt5.out⟩
      case measure=>simp [intOf];omega
  ·obtain rfl:j = r.ws.length:=by omega
   have hb2:=hbt.out
   rw [numsP_all,textsP_all] at hb2
   obtain ⟨A1,cA,rfl,hI1⟩:=ints_of_own hb2.r0 rfl
   obtain ⟨B1,cB,rfl,hS1⟩:=strs_of_own2 hb2.r1 rfl
   have HBy:=Lib.hid (Pk.bytes_any A1 B1 cA cB (numsOf r) (textsOf r) wr hI1 hS1 HM.out)
   unfold Pk.packV at HBy
   have q0:=hb2.c0
   have q1:=hb2.c1
   have HBel:=Lib.hid (HE.out.bel.trans (hb2.bel.mono HE.out.bel.size))
   have E:=Lib.hid (show (⟨(recL r).toArray⟩:ByteArray) = ⟨(Pk.bytesL (numsOf r) (textsOf r)).toArray⟩ from rfl)
   clear hbt hb2 hI1 hS1 hle
   go_wp2_with fail
   refine HBy.out.mono ?_
   rintro e w7 ⟨rfl,hb⟩
   have HB7:=Lib.hid (HBel.out.trans (hb.mono HBel.out.size))
   clear hb HBy
   go_wp2_with fail
   go_ret
   exact ⟨by rw [E.out];rfl,HB7.out⟩
end Rc
end Go.Proofs.YtmidncclndongaaGreat
namespace Go.Proofs.YtmidncclndongaaGreat
namespace Lt
open Go.RowKit Bk
attribute [local go_sem ↓] Go.wp_at_zero Go.wp_at_succ
attribute [local go_sem] floatUpon pick
structure PkRows (w W:World) (X:Nat) (v1 v2:Value) (ns:List Int) (ts:List ByteArray):Prop where
 r0:W.ownsRow X 3 1 v1 ns.length (intV ns)
 r1:W.ownsRow X 9 1 v2 ts.length (strV ts)
 d:Unlike v1 v2
 bel:Below X w W
 le:X ≤ W.heap.size
theorem PkRows.step {w W W':World} {X:Nat} {v1 v2:Value} {ns:List Int} {ts:List ByteArray} (h:PkRows w W X v1 v2 ns ts) (hb:Below W.heap.size W W'):PkRows w W' X v1 v2 ns ts :=
 ⟨st_keep h.r0 hb,st_keep h.r1 hb,h.d,h.bel.trans (hb.mono h.le),Nat.le_trans h.le hb.size⟩
theorem PkRows.grow1 {w W W1:World} {X n':Nat} {v1 v2 v':Value} {ns ns':List Int} {ts:List ByteArray} (h:PkRows w W X v1 v2 ns ts) (ho:W1.ownsRow X 3 1 v' n' (intV ns')) (hl:n' = ns'.length) (hg:W.grownBy W1 v1.ownBlock) (hat:v'.ownBlock = v1.ownBlock ∨ v'.ownBlock = some W.heap.size):PkRows w W1 X v' v2 ns' ts:=by
 subst hl
 have hb:=h.bel.grown hg h.le (fun k hk=>(h.r0.lt k hk).1)
 exact ⟨ho,h.r1.kept hg h.d.symm.ne,(h.d.symm.next (fun j hj=>(h.r1.lt j hj).2) hat (Nat.le_refl _)).symm,hb,Nat.le_trans h.le hg.size⟩
theorem PkRows.grow2 {w W W1:World} {X n':Nat} {v1 v2 v':Value} {ns:List Int} {ts ts':List ByteArray} (h:PkRows w W X v1 v2 ns ts) (ho:W1.ownsRow X 9 1 v' n' (strV ts')) (hl:n' = ts'.length) (hg:W.grownBy W1 v2.ownBlock) (hat:v'.ownBlock = v2.ownBlock ∨ v'.ownBlock = some W.heap.size):PkRows w W1 X v1 v' ns ts':=by
 subst hl
 have hb:=h.bel.grown hg h.le (fun k hk=>(h.r1.lt k hk).1)
 exact ⟨h.r0.kept hg h.d.ne,ho,h.d.next (fun j hj=>(h.r0.lt j hj).2) hat (Nat.le_refl _),hb,Nat.le_trans h.le hg.size⟩
theorem ints_of_slice {w:World} {H c:Nat} {A:Option Addr} {e:TypeId} {O:List Int} (h:w.ownsRow H e 1 (.slice A O.length c) O.length (intV O)):IntsAt w A O:=by
 obtain ⟨A2,c2,e2,hh⟩:=ints_of_own h rfl
 simp only [Value.slice.injEq] at e2
 rw [e2.1];exact hh
theorem strs_of_slice {w:World} {H c:Nat} {A:Option Addr} {e:TypeId} {O:List ByteArray} (h:w.ownsRow H e 1 (.slice A O.length c) O.length (strV O)):StrsAt w A O:=by
 obtain ⟨A2,c2,e2,hh⟩:=strs_of_own2 h rfl
 simp only [Value.slice.injEq] at e2
 rw [e2.1];exact hh
end Lt
end Go.Proofs.YtmidncclndongaaGreat
namespace Go.Proofs.YtmidncclndongaaGreat
namespace Rc
open Go.RowKit Bk Lt
attribute [local go_sem ↓] Go.wp_at_zero Go.wp_at_succ
attribute [local go_sem] floatUpon pick
theorem toPack_any (A B:Option Addr) (c d:Nat) (r:Rec) (w:World) (ha:StrsAt w A r.keys) (hb:WrsAt w B r.ws) (hA:A = none → c = 0) (hok:RecOk r) :
  Calls Tryz.prog 167 #[recV r A B c d] w fun e w'=>∃ (A1 B1:Option Addr) (c1 d1:Nat),e = .returned (Pk.packV A1 B1 c1 d1 (numsOf r) (textsOf r)) ∧ IntsAt w' A1 (numsOf r) ∧ StrsAt w' B1 (textsOf r) ∧ (numsOf r).length ≤ c1 ∧ (textsOf r).length ≤ d1 ∧ c1 ≤ maxLen ∧ d1 ≤ maxLen ∧ Below w.heap.size w w':=by
 obtain ⟨i0,hi,hz0,hz1,hz2⟩:=info_parts Tryz.infoStr
 obtain ⟨i1,hi',hz0',hz1',hz2'⟩:=info_parts Pk.Tryz.infoInt
 have henv:=RcEnv.start (c:=c) (d:=d) ha hb
 have hbd:=hok.bounds
 have nk:r.keys.length ≤ 16:=hbd.1
 have nw:r.ws.length ≤ 16:=hbd.2.1
 have pk:(r.keys.length:Int) ≤ 16:=by omega
 have pw:(r.ws.length:Int) ≤ 16:=by omega
 have HAn:=Lib.hid hA
 have HFb:=Lib.hid (fun b W=>fromBool_any b W)
 clear ha hb hbd hok hA
 unfold recV
 go_enter Tryz.func167,Tryz.ntmps167
 go_upto_region 1 with fail
 have hE1:=henv.step ((Below.refl _ _).alloc (Nat.le_refl _) (.cells #[.slice none 0 0,.slice none 0 0] 222))
 have hR1:Cel ((w.alloc (.cells #[.int .i64 r.kind,.int .i64 r.txn,.int .i64 r.ts,.int .i64 r.coord,.string r.key,.string r.text,.bool r.dead,.slice A r.keys.length c,.slice B r.ws.length d] 39)).alloc (.cells #[.slice none 0 0,.slice none 0 0] 222)) (w.heap.size + 1) 222 [.slice none 0 0,.slice none 0 0]:=(blk2 w _ _).2.2
 generalize (w.alloc (.cells #[.int .i64 r.kind,.int .i64 r.txn,.int .i64 r.ts,.int .i64 r.coord,.string r.key,.string r.text,.bool r.dead,.slice A r.keys.length c,.slice B r.ws.length d] 39)).alloc (.cells #[.slice none 0 0,.slice none 0 0] 222) = W1 at hE1 hR1 ⊢
 have HE:=Lib.hid hE1
 have HR:=Lib.hid hR1
 clear henv hE1 hR1
 refine wp_region_said 15 [7,8,9,10,11,12,13,14,15,16,17,18,19,20,21]
  [.is (.pointer (some ⟨w.heap.size,0,none⟩)),.is (.int .i64 r.kind),.is (.pointer (some ⟨w.heap.size,1,none⟩)),.is (.int .i64 r.txn),.is (.pointer (some ⟨w.heap.size,2,none⟩)),.is (.int .i64 r.ts),.is (.pointer (some ⟨w.heap.size,3,none⟩)),.is (.int .i64 r.coord),.is (.pointer (some ⟨w.heap.size,6,none⟩)),.is (.bool r.dead),.is (.int .i64 (flag r.dead)),.is (.pointer (some ⟨w.heap.size,7,none⟩)),.is (.slice A r.keys.length c),.is (.int .i64 (r.keys.length:Int)),.arr 3 #[.int .i64 r.kind,.int .i64 r.txn,.int .i64 r.ts,.int .i64 r.coord,.int .i64 (flag r.dead),.int .i64 (r.keys.length:Int)] 6 6]
  (fun W=>RcEnv w W w.heap.size A B c d r ∧ Below W1.heap.size W1 W) (by kernel_rfl) (by kernel_rfl) (by kernel_rfl) (by kernel_rfl) (by kernel_rfl) (fun W W' h hb=>⟨h.1.step hb,h.2.trans (hb.mono h.2.size)⟩) ⟨HE.out,Below.refl _ _⟩ ?steps1 ?last1
 case steps1 =>
  simp only [List.take_succ_cons,List.take_zero]
  refine ⟨?_,?_,?_,?_,?_,?_,?_,?_,?_,?_,?_,?_,?_,?_,?_,trivial⟩
  all_goals
   intro vs W ρ hρ hc hf hg hI hH hd R' hR
   have k0:=hI.1.cel.cell (i:=0) rfl
   have k1:=hI.1.cel.cell (i:=1) rfl
   have k2:=hI.1.cel.cell (i:=2) rfl
   have k3:=hI.1.cel.cell (i:=3) rfl
   have k6:=hI.1.cel.cell (i:=6) rfl
   have k7:=hI.1.cel.cell (i:=7) rfl
   have HR:=Lib.hid hR
   simp [depsOf,Region.binds,sayAt,Say.holds] at hd
   clear hR hI
   go_simp
   first
    | exact HR.out _ _ (by simp [sayAt,Say.holds]) (Below.refl _ _) (by simp [sayAt,Say.isBlk])
    | exact HR.out _ _ ⟨_,hH,by simp,rfl,heap_alloc_new _ _⟩ ((Below.refl _ _).alloc (Nat.le_refl _) _) (fun h=>by cases h)
    | (refine (HFb.out _ _).mono ?_;rintro e w' ⟨rfl,rfl⟩;exact ⟨_,rfl,HR.out _ _ (by simp [sayAt,Say.holds]) (Below.refl _ _) (by simp [sayAt,Say.isBlk])⟩)
    | trace_state
 case last1 =>
 intro vs W hI hb hg hd
 obtain ⟨p,hp1,hp2,g14,hp4⟩:=hg 14 (by omega)
 simp only [List.take_succ_cons,List.take_zero,List.drop_succ_cons,List.drop_zero,putAll,Act.put,List.setIfInBounds_toArray,List.set_cons_succ,List.set_cons_zero,Nat.zero_add,Nat.reduceAdd]
 rw [g14]
 clear g14 hg hd hb
 go_upto_region 2 with fail
 have hE1:=hI.1
 have hB1:=hI.2
 have k4:=hE1.cel.cell (i:=4) rfl
 have k5:=hE1.cel.cell (i:=5) rfl
 have q7:=fun o:Obj=>(hE1.step ((Below.refl _ W).alloc (Nat.le_refl _) o)).cel.cell (i:=7) rfl
 obtain ⟨s2,b2⟩:=blk1 W (.cells #[.string r.key,.string r.text] 9)
 have hrw:PkRows W1 (W.alloc (.cells #[.string r.key,.string r.text] 9)) W1.heap.size (.slice (some ⟨p,0,none⟩) 6 6) (.slice (some ⟨W.heap.size,0,none⟩) 2 2) (numsP r 0) [r.key,r.text]:=by
  have hsz:=hB1.size
  refine ⟨?_,?_,?_,hB1.alloc hsz _,by omega⟩
  ·have:(numsP r 0).length = 6:=by simp [numsP]
   rw [this]
   exact ⟨by rw [intV_len,this],.inr ⟨p,6,_,rfl,hp1,((Below.refl _ W).alloc (Nat.le_refl _) _).block p hp2 |>.trans hp4,Nat.le_refl _,by unfold maxLen;omega,rfl,by simp [numsP,intV]⟩⟩
  ·exact ⟨rfl,.inr ⟨W.heap.size,2,_,rfl,hsz,b2,Nat.le_refl _,by unfold maxLen;omega,rfl,rfl⟩⟩
  ·intro j h1 h2;simp [Value.ownBlock] at h1 h2;omega
 have HRw:=Lib.hid hrw
 have HA2:=Lib.hid (show A = none → r.keys.length = 0 ∧ c = 0 from fun e=>by
   refine ⟨?_,HAn.out e⟩
   rcases Nat.eq_zero_or_pos r.keys.length with h | h
   ·exact h
   ·obtain ⟨ad,h2,_⟩:=HE.out.ks h;rw [e] at h2;cases h2)
 clear s2 b2 hrw hp1 hp2 hp4 hI hE1 hB1
 go_upto_region 3 with (at_builtin;refine wpList_append_opt rfl _ _ 36 rfl W1.heap.size 9 i0 (.string ⟨#[]⟩) 16 Tryz.underlying36 hi hz0 hz1 hz2 rfl _ 2 _ rfl HRw.out.r1 A r.keys.length c (strV r.keys) rfl (strV_len _) HA2.out ?c1 ?c2 ?c3 ?c4 HRw.out.le ?_)
 case c1=>exact fun ad e=>by subst e;exact (HE.out.step HRw.out.bel).ks.news
 case c2=>intro u hu;obtain ⟨s,_,rfl⟩:=List.mem_map.1 hu;rfl
 case c3=>unfold maxLen;omega
 case c4=>omega
 intro v' w3 ho hg hat
 have HR3:=Lib.hid (PkRows.grow2 (ts':=textsP r 0) HRw.out (by
  have e:strV [r.key,r.text] ++ strV r.keys = strV (textsP r 0):=by simp [strV,textsP]
  rw [← e];exact ho) (by simp [textsP];omega) hg (by rcases hat with h | h;exact .inl h;exact .inr (by rw [h];simp)))
 clear ho hg hat HRw q7 k4 k5
 generalize (Value.slice (some ⟨p,0,none⟩) 6 6) = vn at HR3 ⊢
 have k8:=(HE.out.step HR3.out.bel).cel.cell (i:=8) rfl
 go_wp2_with fail
 go_loopw [3,4,33] (fun v1 v2 i wr=>∃ (j:Nat),j ≤ r.ws.length ∧ i = .int .i64 (j:Int) ∧ Hid (PkRows W1 wr W1.heap.size v1 v2 (numsP r j) (textsP r j))) (fun _ _ i _=>r.ws.length - (intOf i).toNat)
 case atStart=>exact ⟨0,by omega,rfl,HR3.out⟩
 case round =>
  obtain ⟨j,hj,rfl,hrw⟩:=hrel
  clear HR3 k8
  by_cases hlt:j < r.ws.length
  ·have pj:(j:Int) < (r.ws.length:Int):=by omega
   have hle:=HE.out.step hrw.out.bel
   obtain ⟨bd,rfl,_,hcb⟩:=hle.ws (by omega)
   obtain ⟨x0,x1,x2⟩:=hcb j hlt
   rw [← add_field _ _ _ (by omega)] at x1 x2
   have hns:=numsP_succ hlt
   have hts:=textsP_succ hlt
   have hnl:=numsP_len r j
   have htl:=textsP_len r j
   obtain ⟨X,hX⟩:∃ X,X = r.ws[j]:=⟨_,rfl⟩
   rw [← hX] at x0 x1 x2 hns hts
   clear hX hcb hle
   obtain ⟨xk,xs,xd⟩:=X
   simp only at *
   go_upto_region 6 with fail
   have hR2:=hrw.out.step ((Below.refl _ wr).alloc (Nat.le_refl _) (.cells #[.string xk,.string xs,.bool xd] 202))
   have hC2:Cel (wr.alloc (.cells #[.string xk,.string xs,.bool xd] 202)) wr.heap.size 202 [.string xk,.string xs,.bool xd]:=(blk1 _ _).2
   have hOn:∀ k,u3.ownBlock = some k → k < wr.heap.size:=fun k hk=>(hrw.out.r0.lt k hk).2
   generalize wr.alloc (.cells #[.string xk,.string xs,.bool xd] 202) = W2 at hR2 hC2 ⊢
   have HR2:=Lib.hid hR2
   have HNs:=Lib.hid (show numsP r (j + 1) = numsP r j ++ [flag xd] from hns)
   have HTs:=Lib.hid hts
   have HOn:=Lib.hid hOn
   have z0:=hC2.cell (i:=0) rfl
   have z1:=hC2.cell (i:=1) rfl
   have z2:=hC2.cell (i:=2) rfl
   have HC2:=Lib.hid hC2
   clear hR2 hns hts hOn hC2 hrw x0 x1 x2
   generalize wr.heap.size = g5 at *
   go_wp2_with fail
   refine (HFb.out _ _).mono ?_
   rintro e w' ⟨rfl,rfl⟩
   generalize flag xd = fx at HNs ⊢
   go_upto_region 7 with (at_builtin;refine wpList_append_own_at _ rfl _ _ 41 rfl W1.heap.size 3 i1 (.int .i64 0) 1 8 Tryz.underlying41 hi' hz0' hz1' hz2' rfl (by decide) _ _ _ rfl (HR2.out.step ((Below.refl _ w').alloc (Nat.le_refl _) _)).r0 ⟨w'.heap.size,0,none⟩ 1 1 [.int .i64 fx] rfl rfl (cell_one_new _ _ _) ?a2 ?a3 ?a4 (HR2.out.step ((Below.refl _ w').alloc (Nat.le_refl _) _)).le ?_)
   case a2=>first | rfl | (intro u hu;simp at hu;subst hu;rfl)
   case a3=>unfold maxLen;omega
   case a4=>omega
   intro v' w5 hown' hgrow _ hat
   have hR5:=PkRows.grow1 (ns':=numsP r (j + 1)) (HR2.out.step ((Below.refl _ w').alloc (Nat.le_refl _) (.cells #[.int .i64 fx] 3))) (by rw [HNs.out,intV_snoc];exact hown') (by rw [HNs.out,List.length_append];rfl) hgrow (by rcases hat with h | h;exact .inl h;exact .inr (by rw [h];simp))
   have hC5:Cel w5 g5 202 [.string xk,.string xs,.bool xd] :=
    (hgrow.block g5 (by have:=HC2.out.lt;simp;omega) (fun e=>absurd (HOn.out _ e.symm) (Nat.lt_irrefl _))).trans (HC2.out.below ((Below.refl _ w').alloc (Nat.le_refl _) _))
   have HR5:=Lib.hid hR5
   have y0:=hC5.cell (i:=0) rfl
   have y1:=hC5.cell (i:=1) rfl
   clear hown' hgrow hat hR5 hC5 HR2 HC2 z0 z1 z2 HOn
   go_wp2_with (at_builtin;refine wpList_append_own_at _ rfl _ _ 36 rfl W1.heap.size 9 i0 (.string ⟨#[]⟩) 1 16 Tryz.underlying36 hi hz0 hz1 hz2 rfl (by decide) _ _ _ rfl (HR5.out.step ((Below.refl _ w5).alloc (Nat.le_refl _) _)).r1 ⟨w5.heap.size,0,none⟩ 2 2 [.string xk,.string xs] rfl rfl (new_row (heap_alloc_new _ _)) ?b2 ?b3 ?b4 (HR5.out.step ((Below.refl _ w5).alloc (Nat.le_refl _) _)).le ?_)
   case b2=>intro u hu;simp at hu;rcases hu with rfl | rfl <;> rfl
   case b3=>unfold maxLen;omega
   case b4=>omega
   intro v2 w6 hown' hgrow _ hat
   have HR6:=Lib.hid (PkRows.grow2 (ts':=textsP r (j + 1)) (HR5.out.step ((Below.refl _ w5).alloc (Nat.le_refl _) (.cells #[.string xk,.string xs] 9))) (by rw [HTs.out,Pk.strV_snoc2,Pk.strV_snoc2,List.append_assoc];exact hown') (by rw [HTs.out];simp) hgrow (by rcases hat with h | h;exact .inl h;exact .inr (by rw [h];simp)))
   clear hown' hgrow hat HR5 y0 y1
   go_wp2_with fail
   go_roundw
   case rel=>exact ⟨j + 1,by omega,by go_num,HR6.out⟩
   case measure=>simp [intOf];omega
  ·obtain rfl:j = r.ws.length:=by omega
   have h2:=hrw.out
   rw [numsP_all,textsP_all] at h2
   obtain ⟨A1,c1,rfl,f1,f2⟩:=Pk.own_form h2.r0
   obtain ⟨B1,d1,rfl,f3,f4⟩:=Pk.own_form h2.r1
   have F:=Lib.hid (And.intro f1 (And.intro f2 (And.intro f3 f4)))
   have hlt0:w.heap.size + 1 < W1.heap.size:=HR.out.lt
   have hN0:(Value.slice A1 (numsOf r).length c1).ownBlock ≠ some (w.heap.size + 1):=fun e=>by have:=(h2.r0.lt _ e).1;omega
   have hN1:(Value.slice B1 (textsOf r).length d1).ownBlock ≠ some (w.heap.size + 1):=fun e=>by have:=(h2.r1.lt _ e).1;omega
   have o0:=ownsRow_setCell_other (a:=⟨w.heap.size + 1,1,none⟩) (ownsRow_setCell_other (a:=⟨w.heap.size + 1,0,none⟩) h2.r0 hN0 (.slice A1 (numsOf r).length c1)) hN0 (.slice B1 (textsOf r).length d1)
   have o1:=ownsRow_setCell_other (a:=⟨w.heap.size + 1,1,none⟩) (ownsRow_setCell_other (a:=⟨w.heap.size + 1,0,none⟩) h2.r1 hN1 (.slice A1 (numsOf r).length c1)) hN1 (.slice B1 (textsOf r).length d1)
   have hRc:=HR.out.below h2.bel
   have hF:=(hRc.set (i:=0) (v:=.slice A1 (numsOf r).length c1)).set (i:=1) (v:=.slice B1 (textsOf r).length d1)
   have hBl:Below w.heap.size w ((wr.setCell ⟨w.heap.size + 1,0,none⟩ (.slice A1 (numsOf r).length c1)).setCell ⟨w.heap.size + 1,1,none⟩ (.slice B1 (textsOf r).length d1)) :=
    ((HE.out.bel.trans (h2.bel.mono HE.out.bel.size)).setCell (p:=⟨w.heap.size + 1,0,none⟩) (by show w.heap.size ≤ w.heap.size + 1;omega) (.slice A1 (numsOf r).length c1)).setCell (p:=⟨w.heap.size + 1,1,none⟩) (by show w.heap.size ≤ w.heap.size + 1;omega) (.slice B1 (textsOf r).length d1)
   have hI1:=ints_of_slice o0
   have hS1:=strs_of_slice o1
   have kq:=fun i=>hRc.free (i:=i)
   have kq0:=hRc.cell (i:=0) rfl
   have kq1:=hRc.cell (i:=1) rfl
   have z0:=hF.cell (i:=0) rfl
   have z1:=hF.cell (i:=1) rfl
   have HBl:=Lib.hid hBl
   have HI1:=Lib.hid hI1
   have HS1:=Lib.hid hS1
   clear hrw h2 hN0 hN1 o0 o1 hRc hF hBl hI1 hS1 f1 f2 f3 f4
   go_wp2_with fail
   exact bodyPost_ret (v:=Pk.packV A1 B1 c1 d1 (numsOf r) (textsOf r)) (by simp [results,Tryz.results167,go_sem,Pk.packV,z0,z1]) rfl ⟨A1,B1,c1,d1,rfl,HI1.out,HS1.out,F.out.1,F.out.2.2.1,F.out.2.1,F.out.2.2.2,HBl.out⟩
end Rc
end Go.Proofs.YtmidncclndongaaGreat
namespace Go.Proofs.YtmidncclndongaaGreat
namespace Pk
open Go.RowKit Bk
attribute [local go_sem ↓] Go.wp_at_zero Go.wp_at_succ
attribute [local go_sem] floatUpon pick
structure ArgOk (c d:Nat) (ns:List Int) (ts:List ByteArray):Prop where
 n8:ns.length * 8 ≤ 140737488351232
 t16:ts.length * 16 ≤ 140737488351232
 nr:∀ n ∈ ns,-9223372036854775808 ≤ n ∧ n ≤ 9223372036854775807
 tr:∀ t ∈ ts,t.size ≤ 140737488351232
 nc:ns.length ≤ c
 tc:ts.length ≤ d
 c63:c ≤ maxLen
 d63:d ≤ maxLen
theorem ArgOk.range {c d:Nat} {ns:List Int} {ts:List ByteArray} (h:ArgOk c d ns ts):InRange ns ts :=
 ⟨by have:=h.n8;omega,by have:=h.t16;omega,h.nr,fun t ht=>by have:=h.tr t ht;omega⟩
def CheckAll:Prop:=∀ (A B:Option Addr) (c d:Nat) (ns:List Int) (ts:List ByteArray) (w:World),IntsAt w A ns → StrsAt w B ts → ArgOk c d ns ts →
 Calls Tryz.prog 253 #[packV A B c d ns ts] w fun e w'=>e = .returned (.int .i64 (ckE ns ts:Int)) ∧ Below w.heap.size w w'
def EncodeAll:Prop:=∀ (A B:Option Addr) (c d:Nat) (ns:List Int) (ts:List ByteArray) (w:World),IntsAt w A ns → StrsAt w B ts → ArgOk c d ns ts →
 Calls Tryz.prog 166 #[packV A B c d ns ts] w fun e w'=>e = .returned (encV ns ts) ∧ Below w.heap.size w w'
def DecAns2 (s:ByteArray) (w:World):Ending → World → Prop:=fun e w' =>
 ∃ (A B:Option Addr) (c d:Nat),e = .returned (.tuple #[packV A B c d (decR s).1 (decR s).2.1,.int .i64 ((decR s).2.2.1:Int),.int .i64 ((decR s).2.2.2:Int)]) ∧ IntsAt w' A (decR s).1 ∧ StrsAt w' B (decR s).2.1 ∧ Below w.heap.size w w' ∧
  (decR s).1.length ≤ c ∧ (decR s).2.1.length ≤ d ∧ c ≤ maxLen ∧ d ≤ maxLen
def DecodeAll:Prop:=∀ (s:ByteArray) (w:World),s.size ≤ 1000000000000000 → Calls Tryz.prog 162 #[.string s] w (DecAns2 s w)
theorem u64_wrap {x:Int} (h0:0 ≤ x) (h1:x ≤ 18446744073709551615):IntKind.u64.wrap x = x:=by
 simp only [IntKind.wrap,IntKind.bits,IntKind.signed];simp;omega
theorem writeInt_any (b n:Nat) (L:List UInt8) (w:World) (h:Bld b L w) (hn:n ≤ 9223372036854775807) (hL:L.length ≤ 1000000000000) :
  Calls Tryz.prog 254 #[.pointer (some ⟨b,0,none⟩),.int .i64 (n:Int)] w fun e w'=>e = .returned (.tuple #[]) ∧ Bld b (L ++ plain n) w' ∧ Below b w w':=by
 have H:=Lib.hid h
 clear h
 go_enter Tryz.func254,Tryz.ntmps254
 go_wp2_with fail
 go_loopw [1] (fun c wr=>∃ (m:Nat) (O:List UInt8),m ≤ n ∧ Hid (plain n = O ++ plain m) ∧ c = .int .i64 (m:Int) ∧ Hid (Bld b (L ++ O) wr) ∧ Hid (Below b w wr)) (fun c _=>(intOf c).toNat)
 case atStart=>exact ⟨n,[],Nat.le_refl _,rfl,rfl,by rw [List.append_nil];exact H.out,Below.refl _ _⟩
 case round =>
  obtain ⟨m,O,hmn,hpl,rfl,hB,hbel⟩:=hrel
  have hOl:O.length ≤ 8:=by
   have h1:=plain_len 9 n (by show n < 9223372036854775808;omega) (by omega)
   have h2:=plain_pos m
   rw [hpl.out,List.length_append] at h1
   omega
  have hlen:(L ++ O).length + 1 ≤ 140737488355328:=by rw [List.length_append];omega
  by_cases hlt:128 ≤ m
  ·have pm:(128:Int) ≤ (m:Int):=by omega
   have hmod:(m:Int).tmod 128 = ((m % 128:Nat):Int):=by rw [Int.tmod_eq_emod_of_nonneg (by omega)];omega
   have hdiv:(m:Int).tdiv 128 = ((m / 128:Nat):Int):=by rw [Int.tdiv_eq_ediv_of_nonneg (by omega)];omega
   have hp2:plain n = (O ++ [UInt8.ofNat (m % 128 + 128)]) ++ plain (m / 128):=by rw [hpl.out,plain_big hlt,List.append_assoc];rfl
   have hx:m % 128 < 128:=by omega
   have hy:m / 128 + 1 ≤ m:=by omega
   have hc1:=bld_byte (m % 128 + 128) hB.out (by omega) hlen
   rw [Int.natCast_add] at hc1
   generalize hxe:m % 128 = x at hmod hc1 hx hp2
   generalize hye:m / 128 = y at hdiv hy hp2
   have hxi:(x:Int) < 128:=by omega
   have hcv:IntKind.u8.wrap (x:Int) = (x:Int):=u8_wrap (by omega) (by omega)
   have hcv2:IntKind.u8.wrap ((x:Int) + 128) = (x:Int) + 128:=u8_wrap (by omega) (by omega)
   have HC:=Lib.hid hc1
   have HP:=Lib.hid hp2
   clear hc1 hp2 hxe hye hpl hB hlen hOl
   go_wp2_with fail
   refine HC.out.mono ?_
   rintro e w2 ⟨rfl,h2,hb⟩
   have HB2:=Lib.hid h2
   have HL2:=Lib.hid (hbel.out.trans hb)
   clear h2 hb hbel HC
   go_wp2_with fail
   go_roundw
   case rel=>exact ⟨y,O ++ [UInt8.ofNat (x + 128)],by omega,HP.out,rfl,by rw [← List.append_assoc];exact HB2.out,HL2.out⟩
   case measure=>simp [intOf];omega
  ·have pm:(m:Int) < 128:=by omega
   have hcv:IntKind.u8.wrap (m:Int) = (m:Int):=u8_wrap (by omega) (by omega)
   have hp2:plain n = O ++ [UInt8.ofNat m]:=by rw [hpl.out,plain_small (by omega)]
   have HC:=Lib.hid (bld_byte m hB.out (by omega) hlen)
   have HP:=Lib.hid hp2
   clear hp2 hpl hB hlen hOl
   go_wp2_with fail
   refine HC.out.mono ?_
   rintro e w2 ⟨rfl,h2,hb⟩
   have HB2:=Lib.hid h2
   have HL2:=Lib.hid (hbel.out.trans hb)
   clear h2 hb hbel HC
   go_wp2_with fail
   go_end0
   exact ⟨rfl,by rw [HP.out,← List.append_assoc];exact HB2.out,HL2.out⟩
theorem writeFolded_any (b n:Nat) (L:List UInt8) (w:World) (h:Bld b L w) (hn:n < 9223372036854775808) (hL:L.length ≤ 1000000000000) :
  Calls Tryz.prog 255 #[.pointer (some ⟨b,0,none⟩),.int .u64 (n:Int)] w fun e w'=>e = .returned (.tuple #[]) ∧ Bld b (L ++ plain n) w' ∧ Below b w w':=by
 have H:=Lib.hid h
 clear h
 go_enter Tryz.func255,Tryz.ntmps255
 go_wp2_with fail
 go_loopw [1] (fun c wr=>∃ (m:Nat) (O:List UInt8),m ≤ n ∧ Hid (plain n = O ++ plain m) ∧ c = .int .u64 (m:Int) ∧ Hid (Bld b (L ++ O) wr) ∧ Hid (Below b w wr)) (fun c _=>(intOf c).toNat)
 case atStart=>exact ⟨n,[],Nat.le_refl _,rfl,rfl,by rw [List.append_nil];exact H.out,Below.refl _ _⟩
 case round =>
  obtain ⟨m,O,hmn,hpl,rfl,hB,hbel⟩:=hrel
  have hOl:O.length ≤ 8:=by
   have h1:=plain_len 9 n (by show n < 9223372036854775808;omega) (by omega)
   have h2:=plain_pos m
   rw [hpl.out,List.length_append] at h1
   omega
  have hlen:(L ++ O).length + 1 ≤ 140737488355328:=by rw [List.length_append];omega
  by_cases hlt:128 ≤ m
  ·have pm:(128:Int) ≤ (m:Int):=by omega
   have hmod:(m:Int).tmod 128 = ((m % 128:Nat):Int):=by rw [Int.tmod_eq_emod_of_nonneg (by omega)];omega
   have hdiv:(m:Int).tdiv 128 = ((m / 128:Nat):Int):=by rw [Int.tdiv_eq_ediv_of_nonneg (by omega)];omega
   have hp2:plain n = (O ++ [UInt8.ofNat (m % 128 + 128)]) ++ plain (m / 128):=by rw [hpl.out,plain_big hlt,List.append_assoc];rfl
   have hx:m % 128 < 128:=by omega
   have hy:m / 128 + 1 ≤ m:=by omega
   have hc1:=bld_byte (m % 128 + 128) hB.out (by omega) hlen
   rw [Int.natCast_add] at hc1
   generalize hxe:m % 128 = x at hmod hc1 hx hp2
   generalize hye:m / 128 = y at hdiv hy hp2
   have hxi:(x:Int) < 128:=by omega
   have hcv:IntKind.u8.wrap (x:Int) = (x:Int):=u8_wrap (by omega) (by omega)
   have hcv2:IntKind.u8.wrap ((x:Int) + 128) = (x:Int) + 128:=u8_wrap (by omega) (by omega)
   have HC:=Lib.hid hc1
   have HP:=Lib.hid hp2
   clear hc1 hp2 hxe hye hpl hB hlen hOl
   go_wp2_with fail
   refine HC.out.mono ?_
   rintro e w2 ⟨rfl,h2,hb⟩
   have HB2:=Lib.hid h2
   have HL2:=Lib.hid (hbel.out.trans hb)
   clear h2 hb hbel HC
   go_wp2_with fail
   go_roundw
   case rel=>exact ⟨y,O ++ [UInt8.ofNat (x + 128)],by omega,HP.out,rfl,by rw [← List.append_assoc];exact HB2.out,HL2.out⟩
   case measure=>simp [intOf];omega
  ·have pm:(m:Int) < 128:=by omega
   have hcv:IntKind.u8.wrap (m:Int) = (m:Int):=u8_wrap (by omega) (by omega)
   have hp2:plain n = O ++ [UInt8.ofNat m]:=by rw [hpl.out,plain_small (by omega)]
   have HC:=Lib.hid (bld_byte m hB.out (by omega) hlen)
   have HP:=Lib.hid hp2
   clear hp2 hpl hB hlen hOl
   go_wp2_with fail
   refine HC.out.mono ?_
   rintro e w2 ⟨rfl,h2,hb⟩
   have HB2:=Lib.hid h2
   have HL2:=Lib.hid (hbel.out.trans hb)
   clear h2 hb hbel HC
   go_wp2_with fail
   go_end0
   exact ⟨rfl,by rw [HP.out,← List.append_assoc];exact HB2.out,HL2.out⟩
theorem fold_any (z:Int) (w:World) (hz:numOk z) :
  Calls Tryz.prog 256 #[.int .i64 z] w fun e w'=>e = .returned (.int .u64 ((zig z:Nat):Int)) ∧ w' = w:=by
 obtain ⟨z1,z2⟩:=hz
 by_cases h0:z < 0
 ·have E:=Lib.hid (show ((zig z:Nat):Int) = 2 * -z - 1 by unfold zig;rw [if_pos h0];omega)
  have c1:IntKind.u64.wrap (-z) = -z:=u64_wrap (by omega) (by omega)
  have c2:IntKind.u64.wrap (2 * -z) = 2 * -z:=u64_wrap (by omega) (by omega)
  have c3:IntKind.u64.wrap (2 * -z - 1) = 2 * -z - 1:=u64_wrap (by omega) (by omega)
  go_enter Tryz.func256,Tryz.ntmps256
  go_wp2_with fail
  go_ret
  exact ⟨by rw [E.out];rfl,rfl⟩
 ·have hp:0 ≤ z:=by omega
  have E:=Lib.hid (show ((zig z:Nat):Int) = 2 * z by unfold zig;rw [if_neg h0];omega)
  have c1:IntKind.u64.wrap z = z:=u64_wrap (by omega) (by omega)
  have c2:IntKind.u64.wrap (2 * z) = 2 * z:=u64_wrap (by omega) (by omega)
  clear h0
  go_enter Tryz.func256,Tryz.ntmps256
  go_wp2_with fail
  go_ret
  exact ⟨by rw [E.out];rfl,rfl⟩
theorem isNumber_any (z:Int) (w:World) (_hz:-9223372036854775808 ≤ z ∧ z ≤ 9223372036854775807) :
  Calls Tryz.prog 317 #[.int .i64 z] w fun e w'=>e = .returned (.bool (decide (numOk z))) ∧ w' = w:=by
 by_cases h:numOk z
 ·have E:=Lib.hid (show decide (numOk z) = true by simpa using h)
  obtain ⟨h1,h2⟩:=h
  go_enter Tryz.func317,Tryz.ntmps317
  go_wp2_with fail
  go_ret
  exact ⟨by rw [E.out];rfl,rfl⟩
 ·have E:=Lib.hid (show decide (numOk z) = false by simpa using h)
  by_cases h1:-4611686018427387904 ≤ z
  ·have h2:4611686018427387903 < z:=by
    by_cases h2:z ≤ 4611686018427387903
    ·exact absurd ⟨h1,h2⟩ h
    ·omega
   have H3:=Lib.hid (show decide (z ≤ 4611686018427387903) = false by rw [decide_eq_false_iff_not];omega)
   clear h
   go_enter Tryz.func317,Tryz.ntmps317
   go_wp2_with fail
   go_ret
   exact ⟨by rw [E.out,← H3.out];rfl,rfl⟩
  ·have h2:z < -4611686018427387904:=by omega
   clear h h1
   go_enter Tryz.func317,Tryz.ntmps317
   go_wp2_with fail
   go_ret
   exact ⟨by rw [E.out];rfl,rfl⟩
end Pk
end Go.Proofs.YtmidncclndongaaGreat
