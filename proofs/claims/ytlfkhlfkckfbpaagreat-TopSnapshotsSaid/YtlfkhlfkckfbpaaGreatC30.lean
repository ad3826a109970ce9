/- Parts of the proof, joined: ShL24, ShL25, ShL26, TpShelf; their conditions stand with each. -/
import Derived.Deep.RegionHeld3
import Derived.Test.YtlfkhlfkckfbpaaGreatC29

set_option maxRecDepth 20000
set_option maxHeartbeats 8000000
namespace Go.Proofs.YtlfkhlfkckfbpaaGreat
namespace Sh
open Go.RowKit Bk Ch Lt Rc Tr
attribute [local go_sem ↓] Go.wp_at_zero Go.wp_at_succ
attribute [local go_sem] floatUpon pick
theorem cloneVr_any (A:Option Addr) (c:Nat) (l:List Vr) (w:World) (h:VrsAt w A l) (hA:A = none → l.length = 0 ∧ c = 0) (h32:l.length * 32 ≤ 140737488351232) :
  Calls Tryz.prog 98 #[.slice A l.length c] w fun e w'=>∃ v,e = .returned v ∧ w'.ownsRow w.heap.size 43 3 v l.length (vrV l) ∧ Below w.heap.size w w':=by
 cases A with
 | none =>
  obtain ⟨h0,rfl⟩:=hA rfl
  obtain rfl:l = []:=List.eq_nil_of_length_eq_zero h0
  have q22:∀ W:World,(binOp .eql 35 (.slice none 0 0) (.slice none 0 0)).run Tryz.prog W = .ok (.bool true) W:=fun W=>Lib.run_eql_slice_nil W _ _ none 0 0 0 0 Tryz.underlying35
  clear h hA h0
  show Calls Tryz.prog 98 #[.slice none 0 0] w _
  go_enter Tryz.func98,Tryz.ntmps98
  go_wp2_with fail
  go_ret
  exact ⟨_,rfl,World.ownsRow_nil _ _ _ _,Below.refl _ _⟩
 | some ad =>
  obtain ⟨i0,hi,hz0,hz1,hz2⟩:=info_parts Tryz.infoVer
  have HSt:=Lib.hid h
  have hO0:(w.alloc (.cells #[] 43)).ownsRow w.heap.size 43 3 (.slice (some ⟨w.heap.size,0,none⟩) 0 0) 0 []:=World.ownsRow_lit (base:=w.heap.size) (e:=43) (size:=3) w #[] 0 (Nat.le_refl _) (by unfold maxLen;omega) rfl
  have HO0:=Lib.hid hO0
  have q22:∀ W:World,(binOp .eql 35 (.slice (some ad) l.length c) (.slice none 0 0)).run Tryz.prog W = .ok (.bool false) W:=fun W=>Lib.run_eql_slice_nil W _ _ (some ad) l.length c 0 0 Tryz.underlying35
  clear h hO0 hA
  go_enter Tryz.func98,Tryz.ntmps98
  go_wp2_with (at_builtin;refine Ch.wpList_append_opt3 rfl _ _ 35 rfl w.heap.size 43 i0 (.agg #[.int .i64 0,.string ⟨#[]⟩,.bool false]) 32 Tryz.underlying35 hi hz0 hz1 hz2 rfl _ 0 _ rfl HO0.out (some ad) l.length c (vrV l) rfl (vrV_len _) (fun e=>by cases e) ?c1 ?c2 ?c3 ?c4 (by simp) ?_)
  case c1=>exact fun ad' e=>by obtain rfl:=Option.some.inj e;exact (HSt.out.below ((Below.refl _ w).alloc (Nat.le_refl _) _)).news
  case c2=>exact vrV_one _
  case c3=>unfold maxLen;omega
  case c4=>omega
  intro v' w3 ho hg hat
  have HB3:Hid (Below w.heap.size w w3):=Lib.hid (((Below.refl _ w).alloc (Nat.le_refl _) (.cells #[] 43)).grown hg (by simp) (fun k hk=>(HO0.out.lt k hk).1))
  have HO:=Lib.hid ho
  clear ho hg hat
  go_wp2_with fail
  go_ret
  exact ⟨v',rfl,HO.out,HB3.out⟩
theorem ecsL_one (l:List (Int × Int)):∀ u ∈ l.flatMap ecs,u.oneCell' = true:=fun u hu=>by
 obtain ⟨x,_,hx⟩:=List.mem_flatMap.1 hu
 simp only [ecs,List.mem_cons,List.not_mem_nil,or_false] at hx
 rcases hx with rfl | rfl <;> rfl
theorem cloneE_any (v:Value) (l:List (Int × Int)) (w:World) (h:w.ownsRow 0 135 2 v l.length (l.flatMap ecs)) (hn:l = [] → v = .slice none 0 0) (hl:l.length ≤ 1024) :
  Calls Tryz.prog 68 #[v] w fun e w'=>∃ v',e = .returned v' ∧ w'.ownsRow w.heap.size 135 2 v' l.length (l.flatMap ecs) ∧ (l = [] → v' = .slice none 0 0) ∧ Below w.heap.size w w':=by
 obtain ⟨A,c,rfl,hrow,-,-,hA⟩:=own_rowF (F:=fun _=>False) h (flatN_len (sz:=2) ecs_len l) (fun _ hf=>hf.elim)
 cases A with
 | none =>
  obtain ⟨h0,rfl⟩:=hA rfl
  obtain rfl:l = []:=List.eq_nil_of_length_eq_zero h0
  have q22:∀ W:World,(binOp .eql 110 (.slice none 0 0) (.slice none 0 0)).run Tryz.prog W = .ok (.bool true) W:=fun W=>Lib.run_eql_slice_nil W _ _ none 0 0 0 0 Tryz.underlying110
  clear h hA h0 hn hrow
  show Calls Tryz.prog 68 #[.slice none 0 0] w _
  go_enter Tryz.func68,Tryz.ntmps68
  go_wp2_with fail
  go_ret
  exact ⟨_,rfl,World.ownsRow_nil _ _ _ _,fun _=>rfl,Below.refl _ _⟩
 | some ad =>
  obtain ⟨i0,hi,hz0,hz1,hz2⟩:=info_parts Tryz.infoEndL
  have HSt:=Lib.hid hrow
  have HNe:=Lib.hid (show l ≠ [] from fun e=>by have:=hn e;simp at this)
  have hO0:(w.alloc (.cells #[] 135)).ownsRow w.heap.size 135 2 (.slice (some ⟨w.heap.size,0,none⟩) 0 0) 0 []:=World.ownsRow_lit (base:=w.heap.size) (e:=135) (size:=2) w #[] 0 (Nat.le_refl _) (by unfold maxLen;omega) rfl
  have HO0:=Lib.hid hO0
  have q22:∀ W:World,(binOp .eql 110 (.slice (some ad) l.length c) (.slice none 0 0)).run Tryz.prog W = .ok (.bool false) W:=fun W=>Lib.run_eql_slice_nil W _ _ (some ad) l.length c 0 0 Tryz.underlying110
  clear h hO0 hA hrow hn
  go_enter Tryz.func68,Tryz.ntmps68
  go_wp2_with (at_builtin;refine wpList_append_optN rfl _ _ 110 rfl w.heap.size 135 i0 (.agg #[.int .i64 0,.int .i64 0]) 2 16 Tryz.underlying110 hi hz0 hz1 hz2 rfl (by decide) _ 0 _ rfl HO0.out (some ad) l.length c (l.flatMap ecs) rfl (flatN_len ecs_len _) (fun e=>by cases e) ?c1 ?c2 ?c3 ?c4 (by simp) ?_)
  case c1 =>
   intro ad' e j u hu
   obtain rfl:=Option.some.inj e
   obtain ⟨ad2,e2,hlt,-,h3⟩:=HSt.out (by have:=(List.getElem?_eq_some_iff.1 hu).1;omega)
   obtain rfl:=Option.some.inj e2
   exact (cell_kept ((Below.refl _ w).alloc (Nat.le_refl _) _) _ (by rw [st_block];exact hlt)).trans (h3 j u hu)
  case c2=>exact ecsL_one _
  case c3=>unfold maxLen;omega
  case c4=>omega
  intro v' w3 ho hg hat
  have HB3:Hid (Below w.heap.size w w3):=Lib.hid (((Below.refl _ w).alloc (Nat.le_refl _) (.cells #[] 135)).grown hg (by simp) (fun k hk=>(HO0.out.lt k hk).1))
  have HO:=Lib.hid ho
  clear ho hg hat
  go_wp2_with fail
  go_ret
  exact ⟨v',rfl,HO.out,fun e=>absurd e HNe.out,HB3.out⟩
theorem copiesL_any (A:Option Addr) (c:Nat) (L:List Vr) (w:World) (h:VrsAt w A L) (hA:A = none → L.length = 0 ∧ c = 0) (h32:L.length * 32 ≤ 140737488351232) (hok:∀ x ∈ L,x.shard.size ≤ 281474976710656) :
  Calls Tryz.prog 66 #[.slice A L.length c] w fun e w'=>∃ (A':Option Addr) (c':Nat),e = .returned (.slice A' L.length c') ∧ w'.ownsRow w.heap.size 43 3 (.slice A' L.length c') L.length (vrV L) ∧ Below w.heap.size w w':=by
 have HC:=Lib.hid (cloneVr_any A c L w h hA h32)
 have HOk:=Lib.hid hok
 have HCl:=Lib.hid (fun (s:ByteArray) W (hs:s.size ≤ 281474976710656)=>Bk.clone_any s W hs)
 have hlen:(L.length:Int) ≤ 4398046511104:=by omega
 clear h hA hok
 go_enter Tryz.func66,Tryz.ntmps66
 go_wp2_with fail
 refine HC.out.mono ?_
 rintro e1 w1 ⟨v,rfl,ho,hb⟩
 have HB:=Lib.hid hb
 clear hb HC
 by_cases h0:L.length = 0
 ·have HO:=Lib.hid ho
  obtain ⟨A',cv,rfl,-⟩:=own_rowF (F:=fun _=>False) ho (vrV_len L) (fun _ hf=>hf.elim)
  have pl:¬ (0:Int) < (L.length:Int):=by omega
  have HL0:=Lib.hid h0
  clear ho h0
  go_wp2_with fail
  go_loopw [8] (fun iv wr=>iv = .int .i64 0 ∧ wr = w1) (fun iv _=>0)
  case atStart=>exact ⟨rfl,rfl⟩
  case round =>
   obtain ⟨rfl,rfl⟩:=hrel
   go_wp2_with fail
   go_ret
   exact ⟨_,_,rfl,HO.out,HB.out⟩
 ·obtain ⟨g,cap,rfl,-,-⟩:=World.ownsRow.form ho (by omega)
  obtain ⟨ys,hcel,hg,hyx,hback⟩:=Ch.own_cel ho (vrV_len L) (by omega)
  have HCe:=Lib.hid hcel
  have HY:=Lib.hid hyx
  have HBk:=Lib.hid hback
  have HG:=Lib.hid hg
  clear ho hcel hyx hback hg
  go_wp2_with fail
  go_loopw [8] (fun iv wr=>∃ j:Nat,j ≤ L.length ∧ iv = .int .i64 (j:Int) ∧ Hid (Cel wr g 43 ys) ∧ Hid (Below w.heap.size w wr)) (fun iv _=>L.length - (RowKit.intOf iv).toNat)
  case atStart=>exact ⟨0,Nat.zero_le _,rfl,HCe,HB⟩
  case round =>
   obtain ⟨j,hj,rfl,hcel,hbl⟩:=hrel
   clear HCe HB
   by_cases hlt:j < L.length
   ·have pj:(j:Int) < (L.length:Int):=by omega
    obtain ⟨y0,y1,y2⟩:=vrV_at L j hlt
    have z1:=HY.out _ _ y1
    have x1:=hcel.out.cell z1
    have hx:=HOk.out _ (List.getElem_mem hlt)
    generalize L[j] = X at z1 x1 hx
    obtain ⟨xt,xs,xd⟩:=X
    simp only at z1 x1 hx
    have HCp:=Lib.hid (fun W=>HCl.out xs W hx)
    have HZ:=Lib.hid z1
    clear y0 y1 y2 hx z1
    go_wp2_with fail
    refine (HCp.out _).mono ?_
    rintro e2 w2 ⟨rfl,hb⟩
    have HB2:=Lib.hid (hbl.out.trans (hb.mono hbl.out.size))
    have HC2:=Lib.hid (hcel.out.below hb)
    have x1:=HC2.out.cell HZ.out
    have f1:=fun i=>HC2.out.free (i:=i)
    have HC3:=Lib.hid (Ch.Cel.put_same HC2.out HZ.out)
    have HB3:=Lib.hid (HB2.out.setCell (p:=⟨g,j * 3 + 1,none⟩) HG.out (.string xs))
    clear hb hcel hbl
    go_wp2_with fail
    go_roundw
    case rel=>exact ⟨j + 1,by omega,by go_num,HC3,HB3⟩
    case measure=>simp [RowKit.intOf];omega
   ·obtain rfl:j = L.length:=by omega
    have HO:=Lib.hid (HBk.out _ hcel.out)
    go_wp2_with fail
    go_ret
    exact ⟨_,_,rfl,HO.out,hbl.out⟩
structure FkB (W wr:World) (L X g1 b1:Nat) (Kd:List KI):Prop where
 mp:MapIs strQ wr L (Kd.map kp)
 nw:∀ y ∈ Kd,NewK wr X y
 bel:Below W.heap.size W wr
 lx:X ≤ wr.heap.size
 cel:Cel wr g1 112 [.map (some L),.map (some b1),.slice none 0 0,.int .i64 0]
 m2:MapIs intQ wr b1 []
section
variable {W wr w':World} {L X X2 g1 b1 b:Nat} {Kd:List KI} {Pd:List RI}
theorem FkB.below (h:FkB W wr L X g1 b1 Kd) (hb:Below wr.heap.size wr w'):FkB W w' L X g1 b1 Kd :=
 ⟨h.mp.below hb,fun y hy=>st_keep (h.nw y hy) hb,h.bel.trans (hb.mono h.bel.size),Nat.le_trans h.lx hb.size,h.cel.below hb,h.m2.below hb⟩
theorem FkB.turn (h:FkB W wr L X g1 b1 Kd) (hs:wr.heap.size ≤ w'.heap.size) (hst:St wr w') (hk:∀ k,k < wr.heap.size → k ≠ b → w'.heap[k]? = wr.heap[k]?) (hb:∀ cs t f,wr.heap[b]? ≠ some (.cells cs t f)) (hB:W.heap.size ≤ b) (hL:L ≠ b) (h1:b1 ≠ b):FkB W w' L X g1 b1 Kd :=
 have hg:g1 ≠ b:=fun e=>hb _ _ _ (e ▸ h.cel)
 ⟨h.mp.kept (hk L h.mp.lt hL),fun y hy=>own_keep (h.nw y hy) hb hk,h.bel.trans ⟨hst.os,hst.tape,hst.output,hs,fun k hlt=>hk k (Nat.lt_of_lt_of_le hlt h.bel.size) (by omega)⟩,Nat.le_trans h.lx hs,(hk g1 h.cel.lt hg).trans h.cel,h.m2.kept (hk b1 h.m2.lt h1)⟩
theorem FkB.put (h:FkB W wr L X g1 b1 Kd) {y:KI} (hm:MapIs strQ w' L ((y :: Kd).map kp)) (hy:NewK wr X y) (ht:wr.mapTurned w' L) (hB:W.heap.size ≤ L) (h1:b1 ≠ L):FkB W w' L X g1 b1 (y :: Kd) :=
 have hk:∀ k,k ≠ L → w'.heap[k]? = wr.heap[k]?:=fun k hk=>turned_other ht hk
 have hs:w'.heap.size = wr.heap.size:=turned_size ht
 have hst:St wr w':=st_turned ht
 have hg:g1 ≠ L:=fun e=>h.mp.nocells _ _ _ (e ▸ h.cel)
 ⟨hm,fun z hz=>by
  rcases List.mem_cons.1 hz with rfl | hz
  ·exact own_keep hy h.mp.nocells (fun k _ hn=>hk k hn)
  ·exact own_keep (h.nw z hz) h.mp.nocells (fun k _ hn=>hk k hn),
  h.bel.trans ⟨hst.os,hst.tape,hst.output,by rw [hs];exact Nat.le_refl _,fun k hlt=>hk k (by omega)⟩,by rw [hs];exact h.lx,(hk g1 hg).trans h.cel,h.m2.kept (hk b1 h1)⟩
structure FkP (W wr:World) (L X X2 g1 b1:Nat) (Kd:List KI) (Pd:List RI):Prop where
 mc:MapIs strQ wr L (Kd.map kp)
 nw:∀ y ∈ Kd,NewK wr X y
 mp:MapIs intQ wr b1 (Pd.map pp)
 nv:∀ y ∈ Pd,RecVal wr y.A y.B y.c y.d y.l ∧ NewR X2 y
 bel:Below W.heap.size W wr
 lx:X ≤ wr.heap.size
 cel:Cel wr g1 112 [.map (some L),.map (some b1),.slice none 0 0,.int .i64 0]
theorem FkP.below (h:FkP W wr L X X2 g1 b1 Kd Pd) (hb:Below wr.heap.size wr w'):FkP W w' L X X2 g1 b1 Kd Pd :=
 ⟨h.mc.below hb,fun y hy=>st_keep (h.nw y hy) hb,h.mp.below hb,fun y hy=>⟨(h.nv y hy).1.below hb,(h.nv y hy).2⟩,h.bel.trans (hb.mono h.bel.size),Nat.le_trans h.lx hb.size,h.cel.below hb⟩
theorem recval_turn {y:RI} (h:RecVal wr y.A y.B y.c y.d y.l) (hn:NewR X2 y) (hs:wr.heap.size ≤ w'.heap.size) (hb:b < X2) (hk:∀ k,k ≠ b → w'.heap[k]? = wr.heap[k]?):RecVal w' y.A y.B y.c y.d y.l :=
 ⟨strs_in (F:=fun k=>k ≠ b) h.ks (fun hp ad e=>by have:=hn.ks hp ad e;omega) hs hk,wrs_in (F:=fun k=>k ≠ b) h.ws (fun hp ad e=>by have:=hn.ws hp ad e;omega) hs hk,h.rng,h.kn,h.wn⟩
theorem FkP.turn (h:FkP W wr L X X2 g1 b1 Kd Pd) (hs:wr.heap.size ≤ w'.heap.size) (hst:St wr w') (hk:∀ k,k ≠ b → w'.heap[k]? = wr.heap[k]?) (hb:∀ cs t f,wr.heap[b]? ≠ some (.cells cs t f)) (hB:W.heap.size ≤ b) (hL:L ≠ b) (h1:b1 ≠ b) (hX:b < X2):FkP W w' L X X2 g1 b1 Kd Pd :=
 have hg:g1 ≠ b:=fun e=>hb _ _ _ (e ▸ h.cel)
 ⟨h.mc.kept (hk L hL),fun y hy=>own_keep (h.nw y hy) hb (fun k _=>hk k),h.mp.kept (hk b1 h1),fun y hy=>⟨recval_turn (h.nv y hy).1 (h.nv y hy).2 hs hX hk,(h.nv y hy).2⟩,h.bel.trans ⟨hst.os,hst.tape,hst.output,hs,fun k hlt=>hk k (by omega)⟩,Nat.le_trans h.lx hs,(hk g1 hg).trans h.cel⟩
theorem FkP.put (h:FkP W wr L X X2 g1 b1 Kd Pd) {y:RI} (hm:MapIs intQ w' b1 ((y :: Pd).map pp)) (hy:RecVal wr y.A y.B y.c y.d y.l) (hn:NewR X2 y) (ht:wr.mapTurned w' b1) (hB:W.heap.size ≤ b1) (h1:L ≠ b1) (hX:b1 < X2):FkP W w' L X X2 g1 b1 Kd (y :: Pd) :=
 have hk:∀ k,k ≠ b1 → w'.heap[k]? = wr.heap[k]?:=fun k hk=>turned_other ht hk
 have hs:w'.heap.size = wr.heap.size:=turned_size ht
 have hst:St wr w':=st_turned ht
 have hg:g1 ≠ b1:=fun e=>h.mp.nocells _ _ _ (e ▸ h.cel)
 ⟨h.mc.kept (hk L h1),fun z hz=>own_keep (h.nw z hz) h.mp.nocells (fun k _=>hk k),hm,fun z hz=>by
  rcases List.mem_cons.1 hz with rfl | hz
  ·exact ⟨recval_turn hy hn (by rw [hs];exact Nat.le_refl _) hX hk,hn⟩
  ·exact ⟨recval_turn (h.nv z hz).1 (h.nv z hz).2 (by rw [hs];exact Nat.le_refl _) hX hk,(h.nv z hz).2⟩,
  h.bel.trans ⟨hst.os,hst.tape,hst.output,by rw [hs];exact Nat.le_refl _,fun k hlt=>hk k (by omega)⟩,by rw [hs];exact h.lx,(hk g1 hg).trans h.cel⟩
end
section
variable {W:World} {F:Nat → Prop} {g bc bp:Nat} {v:Value} {K:List KI} {P:List RI} {s:Shf}
theorem fork_fin {w5 w6:World} {L X X2 g1 b1:Nat} {v':Value} {Kd:List KI} {Pd:List RI} (h:FkP W w5 L X X2 g1 b1 Kd Pd) (hLb:L ≠ b1) (hL:W.heap.size ≤ L) (hb1:W.heap.size ≤ b1) (hg1:W.heap.size ≤ g1) (hLX:L < X) (hbX:b1 < X) (hgX:g1 < X) (hX:X ≤ X2)
  (hkk:(Kd.map (·.k)).Perm s.k) (hpp:(Pd.map (·.l)).Perm s.p)
  (hr:w6.ownsRow w5.heap.size 135 2 v' s.e.length (s.e.flatMap ecs)) (hen:s.e = [] → v' = .slice none 0 0) (hb:Below w5.heap.size w5 w6) (t:Int) (ht:s.over = t) :
  LRep ((w6.setCell ⟨g1,2,none⟩ v').setCell ⟨g1,3,none⟩ (.int .i64 t)) (Gr (fun _=>False) W ((w6.setCell ⟨g1,2,none⟩ v').setCell ⟨g1,3,none⟩ (.int .i64 t))) g1 s:=by
 subst ht
 have h6:=h.below hb
 have hlt5:∀ k,k = g1 ∨ k = L ∨ k = b1 → k < w5.heap.size:=fun k hk=>by
  rcases hk with rfl | rfl | rfl
  ·exact h.cel.lt
  ·exact h.mc.lt
  ·exact h.mp.lt
 have hk9:∀ k,k ≠ g1 → ((w6.setCell ⟨g1,2,none⟩ v').setCell ⟨g1,3,none⟩ (.int .i64 s.over)).heap[k]? = w6.heap[k]?:=fun k hk=>by
  rw [Below.heap_setCell _ ⟨g1,3,none⟩ _ k hk,Below.heap_setCell _ ⟨g1,2,none⟩ _ k hk]
 have hsz:((w6.setCell ⟨g1,2,none⟩ v').setCell ⟨g1,3,none⟩ (.int .i64 s.over)).heap.size = w6.heap.size:=by simp [World.setCell]
 have hcel:Cel ((w6.setCell ⟨g1,2,none⟩ v').setCell ⟨g1,3,none⟩ (.int .i64 s.over)) g1 112 [.map (some L),.map (some b1),v',.int .i64 s.over]:=(h6.cel.set (i:=2) (v:=v')).set (i:=3) (v:=.int .i64 s.over)
 obtain ⟨K',hK1,hK2⟩:=perm_lift hkk
 obtain ⟨P',hP1,hP2⟩:=perm_lift hpp
 have aw:Away (Mu g1 L b1 v') w6 ((w6.setCell ⟨g1,2,none⟩ v').setCell ⟨g1,3,none⟩ (.int .i64 s.over)):=⟨by rw [hsz];exact Nat.le_refl _,fun k _ hn=>hk9 k (fun e=>hn (.inl e))⟩
 have tn:∀ k,Mu g1 L b1 v' k → (k = g1 ∨ k = L ∨ k = b1) ∨ w5.heap.size ≤ k:=fun k hk=>by
  rcases hk with h1 | h1 | h1 | h1
  ·exact .inl (.inl h1)
  ·exact .inl (.inr (.inl h1))
  ·exact .inl (.inr (.inr h1))
  ·exact .inr (hr.lt k h1).1
 have lX:∀ k,(k = g1 ∨ k = L ∨ k = b1) → k < X:=fun k hk=>by rcases hk with rfl | rfl | rfl <;> assumption
 have hs5:=h.bel.size
 refine ⟨L,b1,v',K',P',hcel,(h6.mc.perm (hK1.map kp).symm).kept (hk9 _ (h6.mc.ne h6.cel)),(h6.mp.perm (hP1.map pp).symm).kept (hk9 _ (h6.mp.ne h6.cel)),
  row_in (own_base hr (Nat.zero_le _)) (fun k hv=>hk9 k (fun e=>own_cel_ne hr h6.cel (by decide) (by rw [← e];exact hv))),hen,
  fun y hy=>(((newK_val (h.nw y (hK1.subset hy)) lX).turn tn).away (Away.of hb)).away aw,
  fun y hy=>(((pval_new (h.nv y (hP1.subset hy)).1 (h.nv y (hP1.subset hy)).2 (fun k hk=>Nat.lt_of_lt_of_le (lX k hk) hX)).turn tn).away (Away.of hb)).away aw,hK2,hP2,hLb,fun k hk=>?_,fun y hy _ ad e=>?_,fun y hy=>⟨fun hp ad e=>?_,fun hp ad e=>?_⟩,fun k hk=>hk.elim (fun hf=>hf.elim) (fun h1=>h1.2)⟩
 ·rcases hk with rfl | rfl | rfl | h1
  ·exact .inr ⟨hg1,by rw [hsz];exact h6.cel.lt⟩
  ·exact .inr ⟨hL,by rw [hsz];exact h6.mc.lt⟩
  ·exact .inr ⟨hb1,by rw [hsz];exact h6.mp.lt⟩
  ·have:=hr.lt k h1
   exact .inr ⟨by omega,by rw [hsz];exact this.2⟩
 ·obtain ⟨h1,h2⟩:=newK_in (h6.nw y (hK1.subset hy)) ad e
  exact .inr ⟨by omega,by rw [hsz];exact h2⟩
 ·obtain ⟨h1,h2⟩:=h6.nv y (hP1.subset hy)
  have h3:=h2.ks hp ad e
  obtain ⟨ad',e',h4,_⟩:=h1.ks hp
  obtain rfl:=Option.some.inj (e.symm.trans e')
  exact .inr ⟨by omega,by rw [hsz];exact h4⟩
 ·obtain ⟨h1,h2⟩:=h6.nv y (hP1.subset hy)
  have h3:=h2.ws hp ad e
  obtain ⟨ad',e',h4,_⟩:=h1.ws hp
  obtain rfl:=Option.some.inj (e.symm.trans e')
  exact .inr ⟨by omega,by rw [hsz];exact h4⟩
end
section
variable {W : World} {F : Nat → Prop} {g bc bp : Nat} {v : Value} {K : List KI} {P : List RI} {s : Shf}
set_option maxHeartbeats 16000000 in
theorem lfork_any (h : LAt W F g bc bp v K P s) (hs : ShOk s) :
    Calls Tryz.prog 44 #[.pointer (some ⟨g, 0, none⟩)] W fun e w' => ∃ (g' : Nat) (F' : Nat → Prop), e = .returned (.pointer (some ⟨g', 0, none⟩)) ∧ LRep w' F' g' s ∧ (∀ k, F' k → W.heap.size ≤ k) ∧ Below W.heap.size W w' := by
  have HH := Lib.hid (fun V (hb : Below W.heap.size W V) => h.below hb)
  have HNdK := Lib.hid h.mc.nodup
  have HNdP := Lib.hid h.mp.nodup
  have HEk := Lib.hid h.ek
  have HEp := Lib.hid h.ep
  have HEn := Lib.hid h.en
  have HKok := Lib.hid (show ∀ x ∈ K, ChOk x.k.l ∧ x.k.name.size ≤ 2052 from fun x hx => by
    have hm : x.k ∈ s.k := by rw [← h.ek]; exact List.mem_map_of_mem hx
    exact ⟨hs.kc _ hm, by have := (hs.kn _ hm).2; omega⟩)
  have HKv := Lib.hid h.kv
  have HKl := Lib.hid (show K.length ≤ 1024 by rw [h.klen]; exact hs.kl)
  have HPl := Lib.hid (show P.length ≤ 1024 by rw [h.plen]; exact hs.pl)
  have HPo := Lib.hid (show ∀ x ∈ P, x.l.keys.length ≤ 1024 ∧ x.l.ws.length ≤ 1024 ∧ -9223372036854775808 ≤ x.l.txn ∧ x.l.txn ≤ 9223372036854775807 from fun x hx => by
    have hr := hs.po x.l (by rw [← h.ep]; exact List.mem_map_of_mem hx)
    have hu := ups_of hr.1 hr.2
    have ht := hr.1.rng.txn
    exact ⟨hu.kl, hu.wl, ht.1, ht.2⟩)
  have HEl := Lib.hid hs.el
  have hbc := h.mc.lt
  have hbp := h.mp.lt
  have HBc := Lib.hid (And.intro hbc hbp)
  have HNew := Lib.hid (lnew_any W)
  have HCl := Lib.hid (fun (t : ByteArray) V (ht : t.size ≤ 2052) => Bk.clone_any t V (by omega))
  have HCo := Lib.hid (fun (X : KI) V (hv : KVal V (Mu g bc bp v) X) (hk : ChOk X.k.l) => copiesL_any X.A X.c X.k.l V hv.row.vrs hv.nil (ok32 hk) (fun x hx => by have := (hk.each x hx).2.2.1; omega))
  clear h hs hbc hbp
  go_enter Tryz.func44, Tryz.ntmps44
  go_wp2_with fail
  refine HNew.out.mono ?_
  rintro e1 w1 ⟨g1, F1, rfl, ⟨b0, b1, v1, K1, P1, h1⟩, hF, hb⟩
  obtain rfl : K1 = [] := List.map_eq_nil_iff.1 h1.ek
  obtain rfl : P1 = [] := List.map_eq_nil_iff.1 h1.ep
  obtain rfl : v1 = .slice none 0 0 := h1.en rfl
  have n0 : W.heap.size ≤ b0 := hF _ (h1.fm _ (.inr (.inl rfl)))
  have n1 : W.heap.size ≤ b1 := hF _ (h1.fm _ (.inr (.inr (.inl rfl))))
  have ng : W.heap.size ≤ g1 := hF _ (h1.fm _ (.inl rfl))
  have m0 := h1.mc.lt
  have m1 := h1.mp.lt
  have mg := h1.cel.lt
  have HNum := Lib.hid (And.intro n0 (And.intro n1 (And.intro ng (And.intro m0 (And.intro m1 (And.intro mg h1.bd))))))
  have HB1 := Lib.hid hb
  have H1 := Lib.hid (And.intro h1.mc (And.intro h1.mp h1.cel))
  have s0 := (HH.out _ hb).cel.cell (i := 0) rfl
  have hmc := (HH.out _ hb).mc
  clear h1 hF hb HNew n0 n1 ng m0 m1 mg
  go_wp2_with (at_range; refine wpList_range_is strQ rfl _ 108 35 rfl Tryz.underlying108 bc _ rfl hmc ?_; intro w0 hrg0 hb0 hs0)
  go_frame
  obtain ⟨r1, hr1⟩ : ∃ r1, w1.heap.size = r1 := ⟨_, rfl⟩
  rw [hr1] at hrg0 hs0 ⊢
  have HR1 := Lib.hid hr1
  have HS0 : Hid (FkB W w0 b0 (r1 + 1) g1 b1 [] ∧ RangeIs strQ w0 bc r1 (K.map kp) (K.map kp)) := Lib.hid ⟨⟨H1.out.1.below hb0, by simp, HB1.out.trans (hb0.mono HB1.out.size), by omega, H1.out.2.2.below hb0, H1.out.2.1.below hb0⟩, hrg0⟩
  clear hrg0 hb0 hs0 hmc s0 H1 HB1 hr1
  have q3 : ∀ V, FkB W V b0 (r1 + 1) g1 b1 [] → True := fun _ _ => trivial
  clear q3
  go_loopw [14] (fun _ wr => ∃ (todo : List (ByteArray × Value)) (done Kd : List KI), Hid (FkB W wr b0 (r1 + 1) g1 b1 Kd) ∧ Hid (RangeIs strQ wr bc r1 (K.map kp) todo) ∧ Hid (∀ x ∈ done, x ∈ K) ∧ Hid ((done.map kp ++ todo).Perm (K.map kp)) ∧ Hid (Kd.map (·.k) = done.map (·.k))) (fun _ wr => wr.rangeLeft bc r1)
  case atStart => exact ⟨_, [], [], Lib.hid HS0.out.1, Lib.hid HS0.out.2, Lib.hid (by simp), Lib.hid (by simp), Lib.hid rfl⟩
  case round =>
    obtain ⟨todo, done, Kd, hsy, hrg, hsub, hall, heq⟩ := hrel
    have hrg1 := hrg.out
    clear HS0
    go_wp2_with (at_next; refine wpList_next_k rfl _ rfl bc r1 K todo rfl hrg1 ?_ ?_)
    · intro h0
      subst h0
      have hdp : done.Perm K := done_perm HNdK.out hsub.out (by have := hall.out; rwa [List.append_nil] at this)
      have HKk := Lib.hid (show (Kd.map (·.k)).Perm s.k by rw [heq.out, ← HEk.out]; exact hdp.map _)
      have s1 := (HH.out _ hsy.out.bel).cel.cell (i := 1) rfl
      have hmp := (HH.out _ hsy.out.bel).mp
      clear hdp hrg1 hrg hsub hall heq
      go_wp2_with (at_range; refine wpList_range_is intQ rfl _ 109 60 rfl Tryz.underlying109 bp _ rfl hmp ?_; intro w2 hrg2 hb2 hs2)
      go_frame
      obtain ⟨r2, hr2⟩ : ∃ r2, wr.heap.size = r2 := ⟨_, rfl⟩
      rw [hr2] at hrg2 hs2 ⊢
      have HR2 := Lib.hid (show r1 + 1 ≤ r2 by rw [← hr2]; exact hsy.out.lx)
      have h2 := hsy.out.below hb2
      have HS2 : Hid (FkP W w2 b0 (r1 + 1) (r2 + 1) g1 b1 Kd [] ∧ RangeIs intQ w2 bp r2 (P.map pp) (P.map pp)) := Lib.hid ⟨⟨h2.mp, h2.nw, h2.m2, by simp, h2.bel, h2.lx, h2.cel⟩, hrg2⟩
      have HZ2 := Lib.hid (show r2 + 1 ≤ w2.heap.size by omega)
      clear h2 hrg2 hb2 hs2 hmp s1 hr2 hsy
      go_loopw [32] (fun _ wr => ∃ (todo : List (Int × Value)) (done Pd : List RI), Hid (FkP W wr b0 (r1 + 1) (r2 + 1) g1 b1 Kd Pd) ∧ Hid (RangeIs intQ wr bp r2 (P.map pp) todo) ∧ Hid (∀ x ∈ done, x ∈ P) ∧ Hid ((done.map pp ++ todo).Perm (P.map pp)) ∧ Hid (Pd.map (·.l) = done.map (·.l)) ∧ Hid (r2 + 1 ≤ wr.heap.size)) (fun _ wr => wr.rangeLeft bp r2)
      case atStart => exact ⟨_, [], [], Lib.hid HS2.out.1, Lib.hid HS2.out.2, Lib.hid (by simp), Lib.hid (by simp), Lib.hid rfl, HZ2⟩
      case round =>
        obtain ⟨todo, done, Pd, hsy, hrg, hsub, hall, heq, hz⟩ := hrel
        have hrg1 := hrg.out
        clear HS2 HZ2
        go_wp2_with (at_next; refine wpList_next_p rfl _ rfl bp r2 P todo rfl hrg1 ?_ ?_)
        · intro h0
          subst h0
          have hdp : done.Perm P := done_permP HNdP.out hsub.out (by have := hall.out; rwa [List.append_nil] at this)
          have HPp := Lib.hid (show (Pd.map (·.l)).Perm s.p by rw [heq.out, ← HEp.out]; exact hdp.map _)
          have hL := HH.out _ hsy.out.bel
          have s2 := hL.cel.cell (i := 2) rfl
          have s3 := hL.cel.cell (i := 3) rfl
          have HCe := Lib.hid (fun V (hb : Below W.heap.size W V) => cloneE_any v s.e V (HH.out _ hb).re HEn.out HEl.out)
          have HS3 := Lib.hid (fun V (hb : Below W.heap.size W V) => And.intro ((HH.out _ hb).cel.cell (i := 2) rfl) ((HH.out _ hb).cel.cell (i := 3) rfl))
          obtain ⟨ov, hov⟩ : ∃ ov, s.over = ov := ⟨_, rfl⟩
          rw [hov] at HS3 s3
          have HOv := Lib.hid hov
          clear hdp hL hrg1 hrg hsub hall heq hov
          have HCd : Hid (∀ V, Below wr.heap.size wr V → Calls Tryz.prog 68 #[v] V fun e w' => ∃ v', e = .returned v' ∧ w'.ownsRow V.heap.size 135 2 v' s.e.length (s.e.flatMap ecs) ∧ (s.e = [] → v' = .slice none 0 0) ∧ Below V.heap.size V w') := Lib.hid (fun V hb => HCe.out V (hsy.out.bel.trans (hb.mono hsy.out.bel.size)))
          have hgl := (HH.out W (Below.refl _ W)).cel.lt
          have hg1 : ¬ g1 = g := fun e => by have := HNum.out; omega
          have hg2 : ¬ g = g1 := fun e => hg1 e.symm
          clear hgl
          go_upto_region 10 with fail
          go_region_held3 (fun w' => w'.cell? ⟨g, 2, none⟩ = some v ∧ w'.cell? ⟨g, 3, none⟩ = some (.int .i64 ov)) (first | (refine ⟨?_, ?_⟩ <;> assumption) | go_keep)
           ((go_at_call 68
             refine (HCd.out _ (by first | exact Below.refl _ _ | exact (Below.refl _ _).drew)).mono ?_
             rintro e6 w6 ⟨v', rfl, hr6, hen6, hb6⟩
             obtain ⟨A6, c6, rfl, -, -, -, -⟩ := own_rowF (F := fun _ => False) hr6 (flatN_len (sz := 2) ecs_len _) (fun _ hf => hf.elim)
             have h6 := hsy.out.below (by first | exact hb6 | exact (Below.refl _ _).drew.trans hb6)
             have s2 := (HS3.out _ h6.bel).1
             have s3 := (HS3.out _ h6.bel).2
             have z2 := h6.cel.cell (i := 2) rfl
             have z3 := h6.cel.cell (i := 3) rfl
             have zf := fun i => h6.cel.free (i := i)
             have HR6 := Lib.hid hr6
             have HE6 := Lib.hid hen6
             have HB6 := Lib.hid hb6
             clear hr6 hen6 hb6))
          have hbw : Below wr.heap.size wr w6 := (Below.refl _ wr).drew.trans HB6.out
          have HFin := Lib.hid (fork_fin (v' := .slice A6 s.e.length c6) hsy.out (by have := HNum.out; omega) HNum.out.1 HNum.out.2.1 HNum.out.2.2.1 (by have := HNum.out; have := HR1.out; omega) (by have := HNum.out; have := HR1.out; omega) (by have := HNum.out; have := HR1.out; omega) (by have := HR2.out; omega) HKk.out HPp.out HR6.out HE6.out hbw ov HOv.out)
          have HBl := Lib.hid (((hsy.out.bel.trans (hbw.mono hsy.out.bel.size)).setCell (p := ⟨g1, 2, none⟩) HNum.out.2.2.1 (.slice A6 s.e.length c6)).setCell (p := ⟨g1, 3, none⟩) HNum.out.2.2.1 (.int .i64 ov))
          clear hbw
          go_wp2_with fail
          go_ret
          exact ⟨g1, _, rfl, HFin.out, fun k hk => hk.elim (fun hf => hf.elim) (fun h1 => h1.1), HBl.out⟩
        · intro X todo' w3 hX hp hrg2 hlt hgr hsz hen
          have hrs : ∀ cs t f, wr.heap[r2]? ≠ some (.cells cs t f) := hrg.out.iter
          have hk3 : ∀ k, k ≠ r2 → w3.heap[k]? = wr.heap[k]? := fun k hk => by
            by_cases hlt : k < wr.heap.size
            · exact hgr.block k hlt (fun e => hk (Option.some.inj e))
            · rw [Array.getElem?_eq_none (by omega), Array.getElem?_eq_none (by omega)]
          have h3 := hsy.out.turn (by omega) (st_grown hgr) hk3 hrs (by have := HNum.out; have := HR2.out; have := HR1.out; omega) (by have := HNum.out; have := HR2.out; have := HR1.out; omega) (by have := HNum.out; have := HR2.out; have := HR1.out; omega) (Nat.lt_succ_self _)
          have hall2 := (List.Perm.append_left (done.map pp) hp).symm.trans hall.out
          have hnot : X.l.txn ∉ (Pd.map pp).map (·.1) := fun hc => by
            rw [List.map_map] at hc
            have e1 : Pd.map ((fun x => x.1) ∘ pp) = done.map ((fun x => x.1) ∘ pp) := by
              have := congrArg (List.map (fun r : Rec => r.txn)) heq.out
              rw [List.map_map, List.map_map] at this
              exact this
            rw [e1] at hc
            have h1 := (hall2.map (·.1)).nodup_iff.2 HNdP.out
            rw [List.map_append, List.map_map, List.nodup_append] at h1
            exact h1.2.2 _ hc _ (by rw [List.map_cons]; exact List.mem_cons_self ..) rfl
          have HAll : Hid (((X :: done).map pp ++ todo').Perm (P.map pp)) := Lib.hid (List.perm_middle.symm.trans hall2)
          have HSub : Hid (∀ x ∈ X :: done, x ∈ P) := Lib.hid (fun x hx => by
            rcases List.mem_cons.1 hx with rfl | hx
            · exact hX
            · exact hsub.out x hx)
          have H3 := Lib.hid h3
          have HRg := Lib.hid hrg2
          have HLt := Lib.hid hlt
          have HNot := Lib.hid hnot
          have HEq := Lib.hid heq.out
          have HZ3 := Lib.hid (show r2 + 1 ≤ w3.heap.size by rw [hsz]; exact hz.out)
          have hpo := HPo.out X hX
          have HTx := Lib.hid (And.intro hpo.2.2.1 hpo.2.2.2)
          have HXv := Lib.hid (fun V (hb : Below W.heap.size W V) => ((HH.out V hb).pv X hX).val)
          have HCp := Lib.hid (fun V (hb : Below W.heap.size W V) => copied_any X V (HXv.out V hb) hpo.1 hpo.2.1)
          have HPdl : Hid (Pd.length < 2048) := Lib.hid (by
            have h1 := congrArg List.length heq.out
            rw [List.length_map, List.length_map] at h1
            have h2 := hall.out.length_eq
            rw [List.length_append, List.length_map, List.length_map] at h2
            have := HPl.out
            omega)
          clear hrs hk3 h3 hall2 hnot hX hp hrg2 hlt hgr hsz hpo hsy hrg hsub hall heq hz hrg1
          obtain ⟨x, A, B, c, d⟩ := X
          simp only at hen HTx HAll HSub HNot
          unfold rcs at HCp
          simp only at HCp
          have hC0 : Cel (w3.alloc (.cells #[.int .i64 x.kind, .int .i64 x.txn, .int .i64 x.ts, .int .i64 x.coord, .string x.key, .string x.text, .bool x.dead, .slice A x.keys.length c, .slice B x.ws.length d] 60)) w3.heap.size 60 [.int .i64 x.kind, .int .i64 x.txn, .int .i64 x.ts, .int .i64 x.coord, .string x.key, .string x.text, .bool x.dead, .slice A x.keys.length c, .slice B x.ws.length d] := (blk1 w3 _).2
          have hB0 : Below w3.heap.size w3 (w3.alloc (.cells #[.int .i64 x.kind, .int .i64 x.txn, .int .i64 x.ts, .int .i64 x.coord, .string x.key, .string x.text, .bool x.dead, .slice A x.keys.length c, .slice B x.ws.length d] 60)) := (Below.refl _ w3).alloc (Nat.le_refl _) _
          go_upto_region 9 with fail
          generalize hW4 : w3.alloc (.cells #[.int .i64 x.kind, .int .i64 x.txn, .int .i64 x.ts, .int .i64 x.coord, .string x.key, .string x.text, .bool x.dead, .slice A x.keys.length c, .slice B x.ws.length d] 60) = W4 at hC0 hB0 ⊢
          clear hW4
          have H4 := Lib.hid (H3.out.below hB0)
          have HRg4 := Lib.hid (HRg.out.below hB0)
          have HLt4 : Hid (W4.rangeLeft bp r2 < wr.rangeLeft bp r2) := Lib.hid (by rw [rangeLeft_kept (hB0.block bp HRg.out.map.lt) (hB0.block _ HRg.out.lt)]; exact HLt.out)
          have HZ4 := Lib.hid (Nat.le_trans HZ3.out hB0.size)
          have HC4 := Lib.hid hC0
          generalize w3.heap.size = vb at hC0 HC4 ⊢
          clear hC0 hB0 H3 HRg HLt HZ3
          refine wp_region_said 7 [37, 38, 39, 40, 41, 42, 43]
            [.is (.pointer (some ⟨g1, 0, none⟩)), .is (.pointer (some ⟨g1, 0, none⟩)), .is (.pointer (some ⟨g1, 1, none⟩)), .is (.map (some b1)), .is (.int .i64 x.txn), .is (.agg #[.int .i64 x.kind, .int .i64 x.txn, .int .i64 x.ts, .int .i64 x.coord, .string x.key, .string x.text, .bool x.dead, .slice A x.keys.length c, .slice B x.ws.length d]),
             .own (fun u V => ∃ y : RI, u = .agg (rcs y).toArray ∧ y.l = x ∧ RecVal V y.A y.B y.c y.d y.l ∧ NewR (r2 + 1) y) (fun _ _ _ h hb => by obtain ⟨y, h1, h2, h3, h4⟩ := h; exact ⟨y, h1, h2, h3.below hb, h4⟩)]
            (fun V => Below W4.heap.size W4 V) (by kernel_rfl) (by kernel_rfl) (by kernel_rfl) (by kernel_rfl) (by kernel_rfl) (fun V V' h hb => h.trans (hb.mono h.size)) (Below.refl _ _) ?steps9 ?last9
          case steps9 =>
            simp only [List.take_succ_cons, List.take_zero]
            refine ⟨?_, ?_, ?_, ?_, ?_, ?_, ?_, trivial⟩
            all_goals
              intro vs V ρ hρ hc hf hg hI hH hd R' hR
              have s1 := (H4.out.below hI).cel.cell (i := 1) rfl
              have hc2 := HC4.out.below hI
              have q0 := hc2.cell (i := 0) rfl
              have q1 := hc2.cell (i := 1) rfl
              have q2 := hc2.cell (i := 2) rfl
              have q3 := hc2.cell (i := 3) rfl
              have q4 := hc2.cell (i := 4) rfl
              have q5 := hc2.cell (i := 5) rfl
              have q6 := hc2.cell (i := 6) rfl
              have q7 := hc2.cell (i := 7) rfl
              have q8 := hc2.cell (i := 8) rfl
              have HR := Lib.hid hR
              have HI := Lib.hid hI
              simp [depsOf, Region.binds, sayAt, Say.holds] at hd
              clear hR hI hc2
              go_simp
              first
                | exact HR.out _ _ (by simp [sayAt, Say.holds]) (Below.refl _ _) (by simp [sayAt, Say.isBlk])
                | (refine (HCp.out _ ((H4.out.below HI.out).bel)).mono ?_; rintro e w' ⟨y, rfl, hyl, hyv, -, hya, hyb, hb⟩; exact ⟨_, rfl, HR.out _ _ ⟨y, rfl, hyl, hyv, ⟨fun hp ad e => Nat.le_trans (Nat.le_trans HZ4.out HI.out.size) (hya (by rw [hyl] at hp; exact hp) ad e), fun hp ad e => Nat.le_trans (Nat.le_trans HZ4.out HI.out.size) (hyb (by rw [hyl] at hp; exact hp) ad e)⟩⟩ hb (by simp [sayAt, Say.isBlk])⟩)
          case last9 =>
            intro vs V hI hb hg hd
            have g3 := hg 3 (by omega)
            have g4 := hg 4 (by omega)
            obtain ⟨y, g6, hyl, hyv, hyn⟩ := hg 6 (by omega)
            simp only [sayAt, Say.holds, List.getD_cons_succ, List.getD_cons_zero] at g3 g4
            simp only [List.take_succ_cons, List.take_zero, List.drop_succ_cons, List.drop_zero, putAll, Act.put, List.setIfInBounds_toArray, List.set_cons_succ, List.set_cons_zero, Nat.zero_add, Nat.reduceAdd]
            rw [g3, g4, g6]
            have H5 := Lib.hid (H4.out.below hI)
            have HRg5 := Lib.hid (HRg4.out.below hI)
            have HLt5 : Hid (V.rangeLeft bp r2 < wr.rangeLeft bp r2) := Lib.hid (by rw [rangeLeft_kept (hI.block bp HRg4.out.map.lt) (hI.block _ HRg4.out.lt)]; exact HLt4.out)
            have HZ5 := Lib.hid (Nat.le_trans HZ4.out hI.size)
            have hpm : (x.txn, Value.agg (rcs y).toArray) = pp y := by rw [← hyl]; rfl
            have HY := Lib.hid (And.intro hyl (And.intro hyv hyn))
            clear g3 g4 g6 hg hd hI hb
            refine wpList_update_is intQ rfl _ _ _ 109 60 rfl Tryz.underlying109 b1 (Pd.map pp) rfl H5.out.mp ?c1 x.txn (intQ_ok HTx.out.1 HTx.out.2) (.agg (rcs y).toArray) rfl rfl ?_
            case c1 => rw [List.length_map]; have := HPdl.out; unfold maxLen; omega
            intro w' hm ht
            rw [outM_none HNot.out, hpm] at hm
            have nb : b1 < r1 + 1 := by have := HNum.out; have := HR1.out; omega
            have H6 := Lib.hid (H5.out.put (y := y) hm HY.out.2.1 HY.out.2.2 ht HNum.out.2.1 HNum.out.2.2.2.2.2.2 (by have := HR2.out; omega))
            have hk : ∀ k, k ≠ b1 → w'.heap[k]? = V.heap[k]? := fun k hk => turned_other ht hk
            have hbpn : bp ≠ b1 := by have := HBc.out; have := HNum.out; omega
            have hrn : r2 ≠ b1 := by have := HR2.out; omega
            have HRg6 := Lib.hid (HRg5.out.kept (hk bp hbpn) (hk r2 hrn))
            have HLt6 : Hid (w'.rangeLeft bp r2 < wr.rangeLeft bp r2) := Lib.hid (by rw [rangeLeft_kept (hk bp hbpn) (hk r2 hrn)]; exact HLt5.out)
            have HZ6 := Lib.hid (show r2 + 1 ≤ w'.heap.size by rw [turned_size ht]; exact HZ5.out)
            have HE6 := Lib.hid (show (y :: Pd).map (·.l) = (⟨x, A, B, c, d⟩ :: done : List RI).map (·.l) by rw [List.map_cons, List.map_cons, HEq.out, hyl])
            clear hm ht hk hbpn hrn nb H5 HRg5 HLt5 HZ5 HY hyl hyv hyn hpm
            go_wp2_with fail
            go_roundw
            case rel => exact ⟨_, _, _, H6, HRg6, HSub, HAll, HE6⟩
            case measure => exact HLt6.out
    · intro X todo' w3 hX hp hrg2 hlt hgr hsz hen
      have hrs : ∀ cs t f, wr.heap[r1]? ≠ some (.cells cs t f) := hrg.out.iter
      have h3 := hsy.out.turn (by omega) (st_grown hgr) (fun k hk hn => hgr.block k hk (fun e => hn (Option.some.inj e))) hrs (by have := HNum.out; have := HR1.out; omega) (by have := HNum.out; have := HR1.out; omega) (by have := HNum.out; have := HR1.out; omega)
      have hall2 := (List.Perm.append_left (done.map kp) hp).symm.trans hall.out
      have hnot : X.k.name ∉ (Kd.map kp).map (·.1) := fun hc => by
        rw [List.map_map] at hc
        have e1 : Kd.map ((fun x => x.1) ∘ kp) = done.map ((fun x => x.1) ∘ kp) := by
          have := congrArg (List.map (fun r : Kc => r.name)) heq.out
          rw [List.map_map, List.map_map] at this
          exact this
        rw [e1] at hc
        have h1 := (hall2.map (·.1)).nodup_iff.2 HNdK.out
        rw [List.map_append, List.map_map, List.nodup_append] at h1
        exact h1.2.2 _ hc _ (by rw [List.map_cons]; exact List.mem_cons_self ..) rfl
      have HAll : Hid (((X :: done).map kp ++ todo').Perm (K.map kp)) := Lib.hid (List.perm_middle.symm.trans hall2)
      have HSub : Hid (∀ x ∈ X :: done, x ∈ K) := Lib.hid (fun x hx => by
        rcases List.mem_cons.1 hx with rfl | hx
        · exact hX
        · exact hsub.out x hx)
      have H3 := Lib.hid h3
      have HRg := Lib.hid hrg2
      have HLt := Lib.hid hlt
      have HNot := Lib.hid hnot
      have HEq := Lib.hid heq.out
      obtain ⟨hok, hnm⟩ := HKok.out X hX
      have HNm := Lib.hid (show X.k.name.size ≤ maxLen by unfold maxLen; omega)
      have HClN := Lib.hid (fun V => HCl.out X.k.name V hnm)
      have HCoX := Lib.hid (fun V (hb : Below W.heap.size W V) => HCo.out X V ((HH.out V hb).kv X hX) hok)
      have HKdl : Hid (Kd.length < 2048) := Lib.hid (by
        have h1 := congrArg List.length heq.out
        rw [List.length_map, List.length_map] at h1
        have h2 := hall.out.length_eq
        rw [List.length_append, List.length_map, List.length_map] at h2
        have := HKl.out
        omega)
      clear hrs h3 hall2 hnot hX hp hrg2 hlt hgr hsz hok hnm hsy hrg hsub hall heq hrg1
      obtain ⟨⟨nm, l⟩, A, c⟩ := X
      simp only at hen HAll HSub HNot HNm HClN HCoX
      go_upto_region 5 with fail
      refine wp_region_said 8 [19, 20, 21, 22, 23, 24, 25, 26]
        [.is (.pointer (some ⟨g1, 0, none⟩)), .is (.pointer (some ⟨g1, 0, none⟩)), .is (.pointer (some ⟨g1, 0, none⟩)), .is (.map (some b0)), .is (.string nm), .is (.string nm), .is (.slice A l.length c),
         .own (fun u V => ∃ (A2 : Option Addr) (c2 : Nat), u = .slice A2 l.length c2 ∧ NewK V (r1 + 1) ⟨⟨nm, l⟩, A2, c2⟩) (fun _ _ _ h hb => by obtain ⟨A2, c2, h1, h2⟩ := h; exact ⟨A2, c2, h1, st_keep h2 hb⟩)]
        (fun V => Below w3.heap.size w3 V) (by kernel_rfl) (by kernel_rfl) (by kernel_rfl) (by kernel_rfl) (by kernel_rfl) (fun V V' h hb => h.trans (hb.mono h.size)) (Below.refl _ _) ?steps5 ?last5
      case steps5 =>
        simp only [List.take_succ_cons, List.take_zero]
        refine ⟨?_, ?_, ?_, ?_, ?_, ?_, ?_, ?_, trivial⟩
        all_goals
          intro vs V ρ hρ hc hf hg hI hH hd R' hR
          have s0 := (H3.out.below hI).cel.cell (i := 0) rfl
          have HR := Lib.hid hR
          have HI := Lib.hid hI
          simp [depsOf, Region.binds, sayAt, Say.holds] at hd
          clear hR hI
          go_simp
          first
            | exact HR.out _ _ (by simp [sayAt, Say.holds]) (Below.refl _ _) (by simp [sayAt, Say.isBlk])
            | (go_at_call 60; refine (HClN.out _).mono ?_; rintro e w' ⟨rfl, hb⟩; exact ⟨_, rfl, HR.out _ _ (by simp [sayAt, Say.holds]) hb (by simp [sayAt, Say.isBlk])⟩)
            | (refine (HClN.out _).mono ?_; rintro e w' ⟨rfl, hb⟩; exact ⟨_, rfl, HR.out _ _ (by simp [sayAt, Say.holds]) hb (by simp [sayAt, Say.isBlk])⟩)
            | (refine (HCoX.out _ ((H3.out.below HI.out).bel)).mono ?_; rintro e w' ⟨A2, c2, rfl, ho, hb⟩; exact ⟨_, rfl, HR.out _ _ ⟨A2, c2, rfl, own_base ho (Nat.le_trans H3.out.lx HI.out.size)⟩ hb (by simp [sayAt, Say.isBlk])⟩)
      case last5 =>
        intro vs V hI hb hg hd
        have g3 := hg 3 (by omega)
        have g5 := hg 5 (by omega)
        obtain ⟨A2, c2, g7, hnk⟩ := hg 7 (by omega)
        simp only [sayAt, Say.holds, List.getD_cons_succ, List.getD_cons_zero] at g3 g5
        simp only [List.take_succ_cons, List.take_zero, List.drop_succ_cons, List.drop_zero, putAll, Act.put, List.setIfInBounds_toArray, List.set_cons_succ, List.set_cons_zero, Nat.zero_add, Nat.reduceAdd]
        rw [g3, g5, g7]
        have H5 := Lib.hid (H3.out.below hI)
        have HRg5 := Lib.hid (HRg.out.below hI)
        have HLt5 : Hid (V.rangeLeft bc r1 < wr.rangeLeft bc r1) := Lib.hid (by rw [rangeLeft_kept (hI.block bc HRg.out.map.lt) (hI.block _ HRg.out.lt)]; exact HLt.out)
        have HNk := Lib.hid hnk
        clear g3 g5 g7 hg hd hI hb hnk
        refine wpList_update_is strQ rfl _ _ _ 108 35 rfl Tryz.underlying108 b0 (Kd.map kp) rfl H5.out.mp ?c1 nm (strQ_ok HNm.out) (.slice A2 l.length c2) rfl rfl ?_
        case c1 => rw [List.length_map]; have := HKdl.out; unfold maxLen; omega
        intro w' hm ht
        rw [outM_none HNot.out] at hm
        have H6 := Lib.hid (H5.out.put (y := ⟨⟨nm, l⟩, A2, c2⟩) hm HNk.out ht HNum.out.1 (fun e => HNum.out.2.2.2.2.2.2 e.symm))
        have hk : ∀ k, k ≠ b0 → w'.heap[k]? = V.heap[k]? := fun k hk => turned_other ht hk
        have hbcn : bc ≠ b0 := by have := HBc.out; have := HNum.out; omega
        have hrn : r1 ≠ b0 := by have := HNum.out; have := HR1.out; omega
        have HRg6 := Lib.hid (HRg5.out.kept (hk bc hbcn) (hk r1 hrn))
        have HLt6 : Hid (w'.rangeLeft bc r1 < wr.rangeLeft bc r1) := Lib.hid (by rw [rangeLeft_kept (hk bc hbcn) (hk r1 hrn)]; exact HLt5.out)
        have HE6 := Lib.hid (show ((⟨⟨nm, l⟩, A2, c2⟩ : KI) :: Kd).map (·.k) = (⟨⟨nm, l⟩, A, c⟩ :: done : List KI).map (·.k) by rw [List.map_cons, List.map_cons, HEq.out])
        clear hm ht hk hbcn hrn H5 HRg5 HLt5 HNk
        go_wp2_with fail
        go_roundw
        case rel => exact ⟨_, _, _, H6, HRg6, HSub, HAll, HE6⟩
        case measure => exact HLt6.out
end
end Sh
end Go.Proofs.YtlfkhlfkckfbpaaGreat
namespace Go.Proofs.YtlfkhlfkckfbpaaGreat
namespace Tp
open Go.RowKit Bk Ch Lt Rc Tr Sh
attribute [local go_sem ↓] Go.wp_at_zero Go.wp_at_succ
attribute [local go_sem] floatUpon pick
def vrR:Rec:=⟨3,0,1,0,⟨#[107]⟩,⟨#[120]⟩,false,[],[]⟩
theorem vrR_ok:RecOk vrR:=by
 refine ⟨⟨.inl rfl,⟨?_,?_⟩,?_,?_⟩,(Rc.kind_3 (r:=vrR) rfl).2 ⟨⟨rfl,rfl⟩,rfl,rfl,?_,⟨?_,?_⟩,?_,.inl rfl⟩⟩ <;> decide
def one:Shf:=⟨[⟨⟨#[107]⟩,[⟨1,⟨#[120]⟩,false⟩]⟩],[],[],0⟩
theorem vrR_apply:applyP empty vrR = (one,0):=by
 unfold applyP
 rw [if_neg (by simpa using vrR_ok),if_neg (by decide),if_neg (by decide),if_pos (by decide)]
 kernel_rfl
theorem one_ok:ShOk one:=by
 have h:=apply_ok ok_empty vrR
 rw [vrR_apply] at h
 exact h
theorem one_read:readP one ⟨#[107]⟩ 1 = (1,⟨1,⟨#[120]⟩,false⟩):=by kernel_rfl
section
variable {W:World} {F:Nat → Prop} {g bc bp:Nat} {v:Value} {K:List KI} {P:List RI} {s:Shf}
theorem tapply_any (h:LAt W F g bc bp v K P s) (hs:ShOk s) (x:RI) (hv:RecVal W x.A x.B x.c x.d x.l) (hok:RecOk x.l) (k3:x.l.kind = 3) :
  Calls Tryz.prog 45 #[.pointer (some ⟨g,0,none⟩),.agg (rcs x).toArray] W fun e w'=>e = .returned (.int .i64 (applyP s x.l).2) ∧ LRep w' (Gr F W w') g (applyP s x.l).1 ∧ Far F W w':=by
 have HF:=Lib.hid h.fl
 have HLat:=Lib.hid (show ∀ V w' s',Below W.heap.size W V → LRep w' (Gr F V w') g s' → Far F V w' → LRep w' (Gr F W w') g s' ∧ Far F W w' from fun V w' s' hb hl ha=>by
  have haw:=(Far.of (F:=F) hb).trans ha
  exact ⟨hl.more (gr_later hb.size) (gr_lt h.fl haw.size),haw⟩)
 have HCk:=Lib.hid (fun V (hb:Below W.heap.size W V)=>lcheckAll x.A x.B x.c x.d x.l V (hv.below hb))
 have HWr:=Lib.hid (fun V (hb:Below W.heap.size W V) (hr:RecOk x.l) (hk:x.l.kind = 3)=>lwrite_any (h.below (hb.trans (((Below.refl _ V).alloc (Nat.le_refl _) (.cells #[.string x.l.key,.string x.l.text,.bool x.l.dead] 139)).mono hb.size))) hs (may_one hr hk).1 (some ⟨V.heap.size,0,none⟩) 1 (one_wr V x.l.key x.l.text x.l.dead) (fun _ ad e hm=>by
  obtain rfl:=Option.some.inj e
  have h1:V.heap.size < W.heap.size:=h.mu_lt _ hm
  have:=hb.size
  omega) (by simp))
 have H3:=Lib.hid (fun (hr:RecOk x.l) (hk:x.l.kind = 3)=>show applyP s x.l = writeP s x.l.ts [⟨x.l.key,x.l.text,x.l.dead⟩] by rw [← ver_write hs (v:=⟨x.l.ts,x.l.text,x.l.dead⟩) (may_one hr hk).2];unfold applyP;rw [if_neg (by simpa using hr),if_neg (by omega),if_neg (by omega),if_pos hk])
 obtain ⟨r,A1,B1,c1,d1⟩:=x
 try simp only at H3
 try simp only at HWr
 have HCk2:Hid (∀ V,Below W.heap.size W V → Calls Tryz.prog 69 #[.agg #[.int .i64 r.kind,.int .i64 r.txn,.int .i64 r.ts,.int .i64 r.coord,.string r.key,.string r.text,.bool r.dead,.slice A1 r.keys.length c1,.slice B1 r.ws.length d1]] V fun e w'=>e = .returned (.int .i64 (ckN r:Int)) ∧ Below V.heap.size V w'):=HCk
 have hc1:Cel (W.alloc (.cells (c9 r (.slice A1 r.keys.length c1) (.slice B1 r.ws.length d1)).toArray 60)) W.heap.size 60 (c9 r (.slice A1 r.keys.length c1) (.slice B1 r.ws.length d1)):=(blk1 W _).2
 have hb1:Below W.heap.size W (W.alloc (.cells (c9 r (.slice A1 r.keys.length c1) (.slice B1 r.ws.length d1)).toArray 60)):=(Below.refl _ W).alloc (Nat.le_refl _) _
 have HOk:Hid (RecOk r):=Lib.hid hok
 have HK3:Hid (r.kind = 3):=Lib.hid k3
 clear h hs hv HCk hok k3
 show Calls _ _ #[_,.agg #[.int .i64 r.kind,.int .i64 r.txn,.int .i64 r.ts,.int .i64 r.coord,.string r.key,.string r.text,.bool r.dead,.slice A1 r.keys.length c1,.slice B1 r.ws.length d1]] _ _
 go_enter Tryz.func45,Tryz.ntmps45
 go_upto_region 1 with fail
 generalize W.alloc (.cells #[.int .i64 r.kind,.int .i64 r.txn,.int .i64 r.ts,.int .i64 r.coord,.string r.key,.string r.text,.bool r.dead,.slice A1 r.keys.length c1,.slice B1 r.ws.length d1] 60) = W1 at hc1 hb1 ⊢
 have HC1:=Lib.hid hc1
 have HB1:=Lib.hid hb1
 have q0:=hc1.cell (i:=0) rfl
 have q1:=hc1.cell (i:=1) rfl
 have q2:=hc1.cell (i:=2) rfl
 have q3:=hc1.cell (i:=3) rfl
 have q4:=hc1.cell (i:=4) rfl
 have q5:=hc1.cell (i:=5) rfl
 have q6:=hc1.cell (i:=6) rfl
 have q7:=hc1.cell (i:=7) rfl
 have q8:=hc1.cell (i:=8) rfl
 clear hc1 hb1
 go_wp2_with fail
 refine (HCk2.out _ HB1.out).mono ?_
 rintro e1 w1 ⟨rfl,hb⟩
 have HB2:=Lib.hid (HB1.out.trans (hb.mono HB1.out.size))
 have hc2:=HC1.out.below hb
 clear q0 q1 q2 q3 q4 q5 q6 q7 q8 hb HC1 HCk2 HB1
 rw [ckN_of HOk.out]
 have k3:=HK3.out
 have q0:=hc2.cell (i:=0) rfl
 have q1:=hc2.cell (i:=1) rfl
 have q2:=hc2.cell (i:=2) rfl
 have q3:=hc2.cell (i:=3) rfl
 have q4:=hc2.cell (i:=4) rfl
 have q5:=hc2.cell (i:=5) rfl
 have q6:=hc2.cell (i:=6) rfl
 have q7:=hc2.cell (i:=7) rfl
 have q8:=hc2.cell (i:=8) rfl
 have HC2:=Lib.hid hc2
 clear hc2
 have E:=Lib.hid (H3.out HOk.out k3)
 have HR:=Lib.hid (HWr.out _ HB2.out HOk.out k3)
 have HB3:=Lib.hid (HB2.out.trans (((Below.refl _ w1).alloc (Nat.le_refl _) (.cells #[.string r.key,.string r.text,.bool r.dead] 139)).mono HB2.out.size))
 simp only [List.length_cons,List.length_nil,Nat.zero_add] at HR
 clear H3 HWr
 go_wp2_with fail
 refine HR.out.mono ?_
 rintro e2 w2 ⟨rfl,⟨K',hl⟩,ha⟩
 have HR2:=Lib.hid (HLat.out _ _ _ HB3.out ⟨_,_,_,_,_,hl⟩ ha)
 clear hl ha HR
 go_wp2_with fail
 go_ret
 exact ⟨(by rw [E.out];first | done | rfl),by rw [E.out];exact HR2.out.1,HR2.out.2⟩
end
section
variable {w w':World} {F:Nat → Prop} {g:Nat} {s:Shf}
theorem t_read (h:LRep w F g s) (hs:ShOk s) (key:ByteArray) (t:Int) (hk:key.size ≤ maxLen) :
  Calls Tryz.prog 21 #[.pointer (some ⟨g,0,none⟩),.string key,.int .i64 t] w fun e w'=>e = .returned (.tuple #[.int .i64 (readP s key t).1,.agg (vcs (readP s key t).2).toArray]) ∧ Below w.heap.size w w':=by
 obtain ⟨bc,bp,v,K,P,h⟩:=h;exact lread_any h hs key t hk
theorem t_fork (h:LRep w F g s) (hs:ShOk s) :
  Calls Tryz.prog 44 #[.pointer (some ⟨g,0,none⟩)] w fun e w'=>∃ (g':Nat) (F':Nat → Prop),e = .returned (.pointer (some ⟨g',0,none⟩)) ∧ LRep w' F' g' s ∧ (∀ k,F' k → w.heap.size ≤ k) ∧ Below w.heap.size w w':=by
 obtain ⟨bc,bp,v,K,P,h⟩:=h;exact lfork_any h hs
theorem t_apply (h:LRep w F g s) (hs:ShOk s) (x:RI) (hv:RecVal w x.A x.B x.c x.d x.l) (hok:RecOk x.l) (k3:x.l.kind = 3) :
  Calls Tryz.prog 45 #[.pointer (some ⟨g,0,none⟩),.agg (rcs x).toArray] w fun e w'=>e = .returned (.int .i64 (applyP s x.l).2) ∧ LRep w' (Gr F w w') g (applyP s x.l).1 ∧ Far F w w':=by
 obtain ⟨bc,bp,v,K,P,h⟩:=h;exact tapply_any h hs x hv hok k3
theorem far_low {F:Nat → Prop} {B:Nat} {w w':World} (hf:Far F w w') (hF:∀ k,F k → B ≤ k) (hB:B ≤ w.heap.size):Below B w w' :=
 ⟨hf.st.os,hf.st.tape,hf.st.output,hf.size,fun k hk=>hf.block k (by omega) (fun h2=>by have:=hF k h2;omega)⟩
end
theorem tdecoded_any (A:Option Addr) (c:Nat) (w:World) :
  Calls Tryz.prog 42 #[.slice A 0 c] w fun e w'=>e = .returned (.tuple #[.slice none 0 0,.int .i64 0]) ∧ w' = w:=by
 go_enter Tryz.func42,Tryz.ntmps42
 go_wp2_with fail
 go_loopw [4,11] (fun vv iv wr=>vv = .slice none 0 0 ∧ iv = .int .i64 0 ∧ Hid (wr = w)) (fun _ _ _=>0)
 case atStart=>exact ⟨rfl,rfl,Lib.hid rfl⟩
 case round =>
  obtain ⟨rfl,rfl,hw⟩:=hrel
  obtain rfl:=hw.out
  go_wp2_with fail
  go_ret2
  exact ⟨rfl,rfl⟩
theorem tmade_any (w:World) :
  Calls Tryz.prog 43 #[.slice none 0 0] w fun e w'=>∃ (g:Nat) (F:Nat → Prop),e = .returned (.tuple #[.pointer (some ⟨g,0,none⟩),.int .i64 0]) ∧ LRep w' F g empty ∧ (∀ k,F k → w.heap.size ≤ k) ∧ Below w.heap.size w w':=by
 have HNew:=Lib.hid (lnew_any w)
 go_enter Tryz.func43,Tryz.ntmps43
 go_wp2_with fail
 refine HNew.out.mono ?_
 rintro e1 w1 ⟨g,F,rfl,hr,hF,hb⟩
 have HH:=Lib.hid (And.intro hr (And.intro hF hb))
 clear hr hF hb HNew
 go_wp2_with fail
 go_loopw [11] (fun iv wr=>iv = .int .i64 0 ∧ Hid (wr = w1)) (fun _ _=>0)
 case atStart=>exact ⟨rfl,Lib.hid rfl⟩
 case round =>
  obtain ⟨rfl,hw⟩:=hrel
  obtain rfl:w1 = wr:=hw.out.symm
  clear hw
  go_wp2_with fail
  go_ret2
  exact ⟨g,F,rfl,HH.out.1,HH.out.2.1,HH.out.2.2⟩
end Tp
end Go.Proofs.YtlfkhlfkckfbpaaGreat
