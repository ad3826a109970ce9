/- Parts of the proof, joined: ShLaw1, ShLaw2, ShLaw3, ShRefuses, ShAgain, ShL24, ShL25; their conditions stand with each. -/
import Derived.Test.YtbkanoblcojdfaaGreatV13
import Derived.Test.YtbkanoblcojdfaaGreatV21
import Derived.Test.YtbkanoblcojdfaaGreatV38
import Derived.Test.YtbkanoblcojdfaaGreatV40

set_option maxRecDepth 20000
set_option maxHeartbeats 8000000
namespace Go.Proofs.YtbkanoblcojdfaaGreat
namespace Sh
open Go.RowKit Bk Ch Lt Rc Tr
attribute [local go_sem ↓] Go.wp_at_zero Go.wp_at_succ
attribute [local go_sem] floatUpon pick
structure Live (W w:World) (g:Nat) (F:Nat → Prop) (s:Shf):Prop where
 rep:LRep w F g s
 ok:ShOk s
 new:∀ k,F k → W.heap.size ≤ k
 bel:Below W.heap.size W w
theorem Live.step {W w w':World} {g:Nat} {F:Nat → Prop} {s s':Shf} (h:Live W w g F s) (hr:LRep w' (Gr F w w') g s') (ho:ShOk s') (hf:Far F w w'):Live W w' g (Gr F w w') s' :=
 ⟨hr,ho,fun k hk=>hk.elim (h.new k) (fun h1=>Nat.le_trans h.bel.size h1.1),
  h.bel.trans ⟨hf.st.os,hf.st.tape,hf.st.output,hf.size,fun k hk=>hf.block k (Nat.lt_of_lt_of_le hk h.bel.size) (fun hF=>by have:=h.new k hF;omega)⟩⟩
theorem Live.below {W w w':World} {g:Nat} {F:Nat → Prop} {s:Shf} (h:Live W w g F s) (hb:Below w.heap.size w w'):Live W w' g F s :=
 ⟨h.rep.below hb,h.ok,h.new,h.bel.trans (hb.mono h.bel.size)⟩
section
variable {W w:World} {g:Nat} {F:Nat → Prop}
end
structure RowOf (w:World) (A:Option Addr) (X:List RI):Prop where
 at':RecsAt w A X
 val:∀ x ∈ X,RecVal w x.A x.B x.c x.d x.l
theorem RowOf.below {w w':World} {A:Option Addr} {X:List RI} (h:RowOf w A X) (hb:Below w.heap.size w w'):RowOf w' A X :=
 ⟨fun hp=>by
  obtain ⟨ad,e,hl,hc⟩:=h.at' hp
  exact ⟨ad,e,Nat.lt_of_lt_of_le hl hb.size,fun i hi j u hu=>(cell_kept hb _ (by rw [st_block];exact hl)).trans (hc i hi j u hu)⟩,fun x hx=>(h.val x hx).below hb⟩
theorem OutL.rows {W w:World} {v:Value} {X:List RI} (h:OutL W w v X):∃ (A:Option Addr) (c:Nat),v = .slice A X.length c ∧ RowOf w A X:=by
 obtain ⟨A,c,rfl,hr,-,-,-⟩:=own_rowF (F:=fun _=>False) h.row (Tr.flat_len X) (fun _ hf=>hf.elim)
 refine ⟨A,c,rfl,fun hp=>?_,fun x hx=>(h.pv x hx).val⟩
 obtain ⟨ad,e,hl,-,hc⟩:=hr (by rw [Tr.flat_len];omega)
 exact ⟨ad,e,hl,fun i hi j u hu=>hc _ _ (by rw [Tr.flat_at hi (by have:=(List.getElem?_eq_some_iff.1 hu).1;simpa [rcs] using this)];exact hu)⟩
theorem recs_len {s:Shf} (h:ShOk s):(recordsP s).length ≤ 4398046511104:=by
 have h1:(s.k.flatMap fun x=>x.l.map (verR x.name)).length ≤ s.k.length * 1024:=by
  have:∀ k:List Kc,(∀ x ∈ k,x.l.length ≤ 1024) → (k.flatMap fun x=>x.l.map (verR x.name)).length ≤ k.length * 1024:=fun k=>by
   induction k with
   | nil=>intro _;simp
   | cons x r ih =>
    intro hx
    have h2:=ih (fun y hy=>hx y (List.mem_cons_of_mem _ hy))
    have h3:=hx x (List.mem_cons_self ..)
    rw [List.flatMap_cons,List.length_append,List.length_map,List.length_cons]
    omega
  exact this s.k (fun x hx=>(h.kc x hx).len)
 have h2:=h.kl
 have h3:=h.el
 have h4:=h.pl
 unfold recordsP
 rw [List.length_append,List.length_append,List.length_append,List.length_map]
 have h5:(if 0 < s.over then [sweepR s.over] else []).length ≤ 1:=by split <;> simp
 omega
theorem OutL.rowOf {W w:World} {A:Option Addr} {c:Nat} {X:List RI} (h:OutL W w (.slice A X.length c) X):RowOf w A X:=by
 obtain ⟨A',c',e,hr⟩:=h.rows
 simp only [Value.slice.injEq] at e
 rw [e.1]
 exact hr
theorem go_step:∀ (l:List Rec) (e s:Shf),goP l e = (s,true) → ∀ (j:Nat) (r:Rec),l[j]? = some r → (applyP (goP (l.take j) e).1 r).2 = 0 ∧ (goP (l.take (j + 1)) e).1 = (applyP (goP (l.take j) e).1 r).1
 | [],_,_,_,_,_,h=>by simp at h
 | x :: t,e,s,hg,0,r,h=>by
  obtain rfl:x = r:=by simpa using h
  rw [goP_cons] at hg
  have h2:=(Prod.mk.inj hg).2
  rw [Bool.and_eq_true,decide_eq_true_eq] at h2
  exact ⟨h2.1,rfl⟩
 | x :: t,e,s,hg,j + 1,r,h=>by
  rw [goP_cons] at hg
  obtain ⟨h1,h2⟩:=Prod.mk.inj hg
  rw [Bool.and_eq_true] at h2
  have ih:=go_step t (applyP e x).1 s (Prod.ext h1 h2.2) j r (by simpa using h)
  rw [List.take_succ_cons,List.take_succ_cons,goP_cons,goP_cons]
  exact ih
section
variable {W:World} {F:Nat → Prop} {g bc bp:Nat} {v:Value} {K:List KI} {P:List RI} {s:Shf}
end
theorem cloneVr_any (A:Option Addr) (c:Nat) (l:List Vr) (w:World) (h:VrsAt w A l) (hA:A = none → l.length = 0 ∧ c = 0) (h32:l.length * 32 ≤ 140737488351232) :
  Calls Tryz.prog 91 #[.slice A l.length c] w fun e w'=>∃ v,e = .returned v ∧ w'.ownsRow w.heap.size 77 3 v l.length (vrV l) ∧ Below w.heap.size w w':=by
 cases A with
 | none =>
  obtain ⟨h0,rfl⟩:=hA rfl
  obtain rfl:l = []:=List.eq_nil_of_length_eq_zero h0
  have q22:∀ W:World,(binOp .eql 92 (.slice none 0 0) (.slice none 0 0)).run Tryz.prog W = .ok (.bool true) W:=fun W=>Lib.run_eql_slice_nil W _ _ none 0 0 0 0 Tryz.underlying92
  clear h hA h0
  show Calls Tryz.prog 91 #[.slice none 0 0] w _
  go_enter Tryz.func91,Tryz.ntmps91
  go_wp2_with fail
  go_ret
  exact ⟨_,rfl,World.ownsRow_nil _ _ _ _,Below.refl _ _⟩
 | some ad =>
  obtain ⟨i0,hi,hz0,hz1,hz2⟩:=info_parts Tryz.infoVer
  have HSt:=Lib.hid h
  have hO0:(w.alloc (.cells #[] 77)).ownsRow w.heap.size 77 3 (.slice (some ⟨w.heap.size,0,none⟩) 0 0) 0 []:=World.ownsRow_lit (base:=w.heap.size) (e:=77) (size:=3) w #[] 0 (Nat.le_refl _) (by unfold maxLen;omega) rfl
  have HO0:=Lib.hid hO0
  have q22:∀ W:World,(binOp .eql 92 (.slice (some ad) l.length c) (.slice none 0 0)).run Tryz.prog W = .ok (.bool false) W:=fun W=>Lib.run_eql_slice_nil W _ _ (some ad) l.length c 0 0 Tryz.underlying92
  clear h hO0 hA
  go_enter Tryz.func91,Tryz.ntmps91
  go_wp2_with (at_builtin;refine Ch.wpList_append_opt3 rfl _ _ 92 rfl w.heap.size 77 i0 (.agg #[.int .i64 0,.string ⟨#[]⟩,.bool false]) 32 Tryz.underlying92 hi hz0 hz1 hz2 rfl _ 0 _ rfl HO0.out (some ad) l.length c (vrV l) rfl (vrV_len _) (fun e=>by cases e) ?c1 ?c2 ?c3 ?c4 (by simp) ?_)
  case c1=>exact fun ad' e=>by obtain rfl:=Option.some.inj e;exact (HSt.out.below ((Below.refl _ w).alloc (Nat.le_refl _) _)).news
  case c2=>exact vrV_one _
  case c3=>unfold maxLen;omega
  case c4=>omega
  intro v' w3 ho hg hat
  have HB3:Hid (Below w.heap.size w w3):=Lib.hid (((Below.refl _ w).alloc (Nat.le_refl _) (.cells #[] 77)).grown hg (by simp) (fun k hk=>(HO0.out.lt k hk).1))
  have HO:=Lib.hid ho
  clear ho hg hat
  go_wp2_with fail
  go_ret
  exact ⟨v',rfl,HO.out,HB3.out⟩
theorem ecsL_one (l:List (Int × Int)):∀ u ∈ l.flatMap ecs,u.oneCell' = true:=fun u hu=>by
 obtain ⟨x,_,hx⟩:=List.mem_flatMap.1 hu
 simp only [ecs,List.mem_cons,List.not_mem_nil,or_false] at hx
 rcases hx with rfl | rfl <;> rfl
theorem cloneE_any (v:Value) (l:List (Int × Int)) (w:World) (h:w.ownsRow 0 97 2 v l.length (l.flatMap ecs)) (hn:l = [] → v = .slice none 0 0) (hl:l.length ≤ 1024) :
  Calls Tryz.prog 38 #[v] w fun e w'=>∃ v',e = .returned v' ∧ w'.ownsRow w.heap.size 97 2 v' l.length (l.flatMap ecs) ∧ (l = [] → v' = .slice none 0 0) ∧ Below w.heap.size w w':=by
 obtain ⟨A,c,rfl,hrow,-,-,hA⟩:=own_rowF (F:=fun _=>False) h (flatN_len (sz:=2) ecs_len l) (fun _ hf=>hf.elim)
 cases A with
 | none =>
  obtain ⟨h0,rfl⟩:=hA rfl
  obtain rfl:l = []:=List.eq_nil_of_length_eq_zero h0
  have q22:∀ W:World,(binOp .eql 87 (.slice none 0 0) (.slice none 0 0)).run Tryz.prog W = .ok (.bool true) W:=fun W=>Lib.run_eql_slice_nil W _ _ none 0 0 0 0 Tryz.underlying87
  clear h hA h0 hn hrow
  show Calls Tryz.prog 38 #[.slice none 0 0] w _
  go_enter Tryz.func38,Tryz.ntmps38
  go_wp2_with fail
  go_ret
  exact ⟨_,rfl,World.ownsRow_nil _ _ _ _,fun _=>rfl,Below.refl _ _⟩
 | some ad =>
  obtain ⟨i0,hi,hz0,hz1,hz2⟩:=info_parts Tryz.infoEndL
  have HSt:=Lib.hid hrow
  have HNe:=Lib.hid (show l ≠ [] from fun e=>by have:=hn e;simp at this)
  have hO0:(w.alloc (.cells #[] 97)).ownsRow w.heap.size 97 2 (.slice (some ⟨w.heap.size,0,none⟩) 0 0) 0 []:=World.ownsRow_lit (base:=w.heap.size) (e:=97) (size:=2) w #[] 0 (Nat.le_refl _) (by unfold maxLen;omega) rfl
  have HO0:=Lib.hid hO0
  have q22:∀ W:World,(binOp .eql 87 (.slice (some ad) l.length c) (.slice none 0 0)).run Tryz.prog W = .ok (.bool false) W:=fun W=>Lib.run_eql_slice_nil W _ _ (some ad) l.length c 0 0 Tryz.underlying87
  clear h hO0 hA hrow hn
  go_enter Tryz.func38,Tryz.ntmps38
  go_wp2_with (at_builtin;refine wpList_append_optN rfl _ _ 87 rfl w.heap.size 97 i0 (.agg #[.int .i64 0,.int .i64 0]) 2 16 Tryz.underlying87 hi hz0 hz1 hz2 rfl (by decide) _ 0 _ rfl HO0.out (some ad) l.length c (l.flatMap ecs) rfl (flatN_len ecs_len _) (fun e=>by cases e) ?c1 ?c2 ?c3 ?c4 (by simp) ?_)
  case c1 =>
   intro ad' e j u hu
   obtain rfl:=Option.some.inj e
   obtain ⟨ad2,e2,hlt,-,h3⟩:=HSt.out (by have:=(List.getElem?_eq_some_iff.1 hu).1;omega)
   obtain rfl:=Option.some.inj e2
   exact (cell_kept ((Below.refl _ w).alloc (Nat.le_refl _) _) _ (by rw [st_block];exact hlt)).trans (h3 j u hu)
  case c2=>exact ecsL_one _
  case c3=>unfold maxLen;omega
  case c4=>omega
  intro v' w3 ho hg hat
  have HB3:Hid (Below w.heap.size w w3):=Lib.hid (((Below.refl _ w).alloc (Nat.le_refl _) (.cells #[] 97)).grown hg (by simp) (fun k hk=>(HO0.out.lt k hk).1))
  have HO:=Lib.hid ho
  clear ho hg hat
  go_wp2_with fail
  go_ret
  exact ⟨v',rfl,HO.out,fun e=>absurd e HNe.out,HB3.out⟩
theorem copiesL_any (A:Option Addr) (c:Nat) (L:List Vr) (w:World) (h:VrsAt w A L) (hA:A = none → L.length = 0 ∧ c = 0) (h32:L.length * 32 ≤ 140737488351232) (hok:∀ x ∈ L,x.shard.size ≤ 281474976710656) :
  Calls Tryz.prog 35 #[.slice A L.length c] w fun e w'=>∃ (A':Option Addr) (c':Nat),e = .returned (.slice A' L.length c') ∧ w'.ownsRow w.heap.size 77 3 (.slice A' L.length c') L.length (vrV L) ∧ Below w.heap.size w w':=by
 have HC:=Lib.hid (cloneVr_any A c L w h hA h32)
 have HOk:=Lib.hid hok
 have HCl:=Lib.hid (fun (s:ByteArray) W (hs:s.size ≤ 281474976710656)=>Bk.clone_any s W hs)
 have hlen:(L.length:Int) ≤ 4398046511104:=by omega
 clear h hA hok
 go_enter Tryz.func35,Tryz.ntmps35
 go_wp2_with fail
 refine HC.out.mono ?_
 rintro e1 w1 ⟨v,rfl,ho,hb⟩
 have HB:=Lib.hid hb
 clear hb HC
 by_cases h0:L.length = 0
 ·have HO:=Lib.hid ho
  obtain ⟨A',cv,rfl,-⟩:=own_rowF (F:=fun _=>False) ho (vrV_len L) (fun _ hf=>hf.elim)
  have pl:¬ (0:Int) < (L.length:Int):=by omega
  have HL0:=Lib.hid h0
  clear ho h0
  go_wp2_with fail
  go_loopw [8] (fun iv wr=>iv = .int .i64 0 ∧ wr = w1) (fun iv _=>0)
  case atStart=>exact ⟨rfl,rfl⟩
  case round =>
   obtain ⟨rfl,rfl⟩:=hrel
   go_wp2_with fail
   go_ret
   exact ⟨_,_,rfl,HO.out,HB.out⟩
 ·obtain ⟨g,cap,rfl,-,-⟩:=World.ownsRow.form ho (by omega)
  obtain ⟨ys,hcel,hg,hyx,hback⟩:=Ch.own_cel ho (vrV_len L) (by omega)
  have HCe:=Lib.hid hcel
  have HY:=Lib.hid hyx
  have HBk:=Lib.hid hback
  have HG:=Lib.hid hg
  clear ho hcel hyx hback hg
  go_wp2_with fail
  go_loopw [8] (fun iv wr=>∃ j:Nat,j ≤ L.length ∧ iv = .int .i64 (j:Int) ∧ Hid (Cel wr g 77 ys) ∧ Hid (Below w.heap.size w wr)) (fun iv _=>L.length - (RowKit.intOf iv).toNat)
  case atStart=>exact ⟨0,Nat.zero_le _,rfl,HCe,HB⟩
  case round =>
   obtain ⟨j,hj,rfl,hcel,hbl⟩:=hrel
   clear HCe HB
   by_cases hlt:j < L.length
   ·have pj:(j:Int) < (L.length:Int):=by omega
    obtain ⟨y0,y1,y2⟩:=vrV_at L j hlt
    have z1:=HY.out _ _ y1
    have x1:=hcel.out.cell z1
    have hx:=HOk.out _ (List.getElem_mem hlt)
    generalize L[j] = X at z1 x1 hx
    obtain ⟨xt,xs,xd⟩:=X
    simp only at z1 x1 hx
    have HCp:=Lib.hid (fun W=>HCl.out xs W hx)
    have HZ:=Lib.hid z1
    clear y0 y1 y2 hx z1
    go_wp2_with fail
    refine (HCp.out _).mono ?_
    rintro e2 w2 ⟨rfl,hb⟩
    have HB2:=Lib.hid (hbl.out.trans (hb.mono hbl.out.size))
    have HC2:=Lib.hid (hcel.out.below hb)
    have x1:=HC2.out.cell HZ.out
    have f1:=fun i=>HC2.out.free (i:=i)
    have HC3:=Lib.hid (Ch.Cel.put_same HC2.out HZ.out)
    have HB3:=Lib.hid (HB2.out.setCell (p:=⟨g,j * 3 + 1,none⟩) HG.out (.string xs))
    clear hb hcel hbl
    go_wp2_with fail
    go_roundw
    case rel=>exact ⟨j + 1,by omega,by go_num,HC3,HB3⟩
    case measure=>simp [RowKit.intOf];omega
   ·obtain rfl:j = L.length:=by omega
    have HO:=Lib.hid (HBk.out _ hcel.out)
    go_wp2_with fail
    go_ret
    exact ⟨_,_,rfl,HO.out,hbl.out⟩
structure FkB (W wr:World) (L X g1 b1:Nat) (Kd:List KI):Prop where
 mp:MapIs strQ wr L (Kd.map kp)
 nw:∀ y ∈ Kd,NewK wr X y
 bel:Below W.heap.size W wr
 lx:X ≤ wr.heap.size
 cel:Cel wr g1 89 [.map (some L),.map (some b1),.slice none 0 0,.int .i64 0]
 m2:MapIs intQ wr b1 []
section
variable {W wr w':World} {L X X2 g1 b1 b:Nat} {Kd:List KI} {Pd:List RI}
theorem FkB.below (h:FkB W wr L X g1 b1 Kd) (hb:Below wr.heap.size wr w'):FkB W w' L X g1 b1 Kd :=
 ⟨h.mp.below hb,fun y hy=>st_keep (h.nw y hy) hb,h.bel.trans (hb.mono h.bel.size),Nat.le_trans h.lx hb.size,h.cel.below hb,h.m2.below hb⟩
theorem FkB.turn (h:FkB W wr L X g1 b1 Kd) (hs:wr.heap.size ≤ w'.heap.size) (hst:St wr w') (hk:∀ k,k < wr.heap.size → k ≠ b → w'.heap[k]? = wr.heap[k]?) (hb:∀ cs t f,wr.heap[b]? ≠ some (.cells cs t f)) (hB:W.heap.size ≤ b) (hL:L ≠ b) (h1:b1 ≠ b):FkB W w' L X g1 b1 Kd :=
 have hg:g1 ≠ b:=fun e=>hb _ _ _ (e ▸ h.cel)
 ⟨h.mp.kept (hk L h.mp.lt hL),fun y hy=>own_keep (h.nw y hy) hb hk,h.bel.trans ⟨hst.os,hst.tape,hst.output,hs,fun k hlt=>hk k (Nat.lt_of_lt_of_le hlt h.bel.size) (by omega)⟩,Nat.le_trans h.lx hs,(hk g1 h.cel.lt hg).trans h.cel,h.m2.kept (hk b1 h.m2.lt h1)⟩
theorem FkB.put (h:FkB W wr L X g1 b1 Kd) {y:KI} (hm:MapIs strQ w' L ((y :: Kd).map kp)) (hy:NewK wr X y) (ht:wr.mapTurned w' L) (hB:W.heap.size ≤ L) (h1:b1 ≠ L):FkB W w' L X g1 b1 (y :: Kd) :=
 have hk:∀ k,k ≠ L → w'.heap[k]? = wr.heap[k]?:=fun k hk=>turned_other ht hk
 have hs:w'.heap.size = wr.heap.size:=turned_size ht
 have hst:St wr w':=st_turned ht
 have hg:g1 ≠ L:=fun e=>h.mp.nocells _ _ _ (e ▸ h.cel)
 ⟨hm,fun z hz=>by
  rcases List.mem_cons.1 hz with rfl | hz
  ·exact own_keep hy h.mp.nocells (fun k _ hn=>hk k hn)
  ·exact own_keep (h.nw z hz) h.mp.nocells (fun k _ hn=>hk k hn),
  h.bel.trans ⟨hst.os,hst.tape,hst.output,by rw [hs];exact Nat.le_refl _,fun k hlt=>hk k (by omega)⟩,by rw [hs];exact h.lx,(hk g1 hg).trans h.cel,h.m2.kept (hk b1 h1)⟩
structure FkP (W wr:World) (L X X2 g1 b1:Nat) (Kd:List KI) (Pd:List RI):Prop where
 mc:MapIs strQ wr L (Kd.map kp)
 nw:∀ y ∈ Kd,NewK wr X y
 mp:MapIs intQ wr b1 (Pd.map pp)
 nv:∀ y ∈ Pd,RecVal wr y.A y.B y.c y.d y.l ∧ NewR X2 y
 bel:Below W.heap.size W wr
 lx:X ≤ wr.heap.size
 cel:Cel wr g1 89 [.map (some L),.map (some b1),.slice none 0 0,.int .i64 0]
theorem FkP.below (h:FkP W wr L X X2 g1 b1 Kd Pd) (hb:Below wr.heap.size wr w'):FkP W w' L X X2 g1 b1 Kd Pd :=
 ⟨h.mc.below hb,fun y hy=>st_keep (h.nw y hy) hb,h.mp.below hb,fun y hy=>⟨(h.nv y hy).1.below hb,(h.nv y hy).2⟩,h.bel.trans (hb.mono h.bel.size),Nat.le_trans h.lx hb.size,h.cel.below hb⟩
theorem recval_turn {y:RI} (h:RecVal wr y.A y.B y.c y.d y.l) (hn:NewR X2 y) (hs:wr.heap.size ≤ w'.heap.size) (hb:b < X2) (hk:∀ k,k ≠ b → w'.heap[k]? = wr.heap[k]?):RecVal w' y.A y.B y.c y.d y.l :=
 ⟨strs_in (F:=fun k=>k ≠ b) h.ks (fun hp ad e=>by have:=hn.ks hp ad e;omega) hs hk,wrs_in (F:=fun k=>k ≠ b) h.ws (fun hp ad e=>by have:=hn.ws hp ad e;omega) hs hk,h.rng,h.kn,h.wn⟩
theorem FkP.turn (h:FkP W wr L X X2 g1 b1 Kd Pd) (hs:wr.heap.size ≤ w'.heap.size) (hst:St wr w') (hk:∀ k,k ≠ b → w'.heap[k]? = wr.heap[k]?) (hb:∀ cs t f,wr.heap[b]? ≠ some (.cells cs t f)) (hB:W.heap.size ≤ b) (hL:L ≠ b) (h1:b1 ≠ b) (hX:b < X2):FkP W w' L X X2 g1 b1 Kd Pd :=
 have hg:g1 ≠ b:=fun e=>hb _ _ _ (e ▸ h.cel)
 ⟨h.mc.kept (hk L hL),fun y hy=>own_keep (h.nw y hy) hb (fun k _=>hk k),h.mp.kept (hk b1 h1),fun y hy=>⟨recval_turn (h.nv y hy).1 (h.nv y hy).2 hs hX hk,(h.nv y hy).2⟩,h.bel.trans ⟨hst.os,hst.tape,hst.output,hs,fun k hlt=>hk k (by omega)⟩,Nat.le_trans h.lx hs,(hk g1 hg).trans h.cel⟩
theorem FkP.put (h:FkP W wr L X X2 g1 b1 Kd Pd) {y:RI} (hm:MapIs intQ w' b1 ((y :: Pd).map pp)) (hy:RecVal wr y.A y.B y.c y.d y.l) (hn:NewR X2 y) (ht:wr.mapTurned w' b1) (hB:W.heap.size ≤ b1) (h1:L ≠ b1) (hX:b1 < X2):FkP W w' L X X2 g1 b1 Kd (y :: Pd) :=
 have hk:∀ k,k ≠ b1 → w'.heap[k]? = wr.heap[k]?:=fun k hk=>turned_other ht hk
 have hs:w'.heap.size = wr.heap.size:=turned_size ht
 have hst:St wr w':=st_turned ht
 have hg:g1 ≠ b1:=fun e=>h.mp.nocells _ _ _ (e ▸ h.cel)
 ⟨h.mc.kept (hk L h1),fun z hz=>own_keep (h.nw z hz) h.mp.nocells (fun k _=>hk k),hm,fun z hz=>by
  rcases List.mem_cons.1 hz with rfl | hz
  ·exact ⟨recval_turn hy hn (by rw [hs];exact Nat.le_refl _) hX hk,hn⟩
  ·exact ⟨recval_turn (h.nv z hz).1 (h.nv z hz).2 (by rw [hs];exact Nat.le_refl _) hX hk,(h.nv z hz).2⟩,
  h.bel.trans ⟨hst.os,hst.tape,hst.output,by rw [hs];exact Nat.le_refl _,fun k hlt=>hk k (by omega)⟩,by rw [hs];exact h.lx,(hk g1 hg).trans h.cel⟩
end
section
variable {W:World} {F:Nat → Prop} {g bc bp:Nat} {v:Value} {K:List KI} {P:List RI} {s:Shf}
theorem fork_fin {w5 w6:World} {L X X2 g1 b1:Nat} {v':Value} {Kd:List KI} {Pd:List RI} (h:FkP W w5 L X X2 g1 b1 Kd Pd) (hLb:L ≠ b1) (hL:W.heap.size ≤ L) (hb1:W.heap.size ≤ b1) (hg1:W.heap.size ≤ g1) (hLX:L < X) (hbX:b1 < X) (hgX:g1 < X) (hX:X ≤ X2)
  (hkk:(Kd.map (·.k)).Perm s.k) (hpp:(Pd.map (·.l)).Perm s.p)
  (hr:w6.ownsRow w5.heap.size 97 2 v' s.e.length (s.e.flatMap ecs)) (hen:s.e = [] → v' = .slice none 0 0) (hb:Below w5.heap.size w5 w6) (t:Int) (ht:s.over = t) :
  LRep ((w6.setCell ⟨g1,2,none⟩ v').setCell ⟨g1,3,none⟩ (.int .i64 t)) (Gr (fun _=>False) W ((w6.setCell ⟨g1,2,none⟩ v').setCell ⟨g1,3,none⟩ (.int .i64 t))) g1 s:=by
 subst ht
 have h6:=h.below hb
 have hlt5:∀ k,k = g1 ∨ k = L ∨ k = b1 → k < w5.heap.size:=fun k hk=>by
  rcases hk with rfl | rfl | rfl
  ·exact h.cel.lt
  ·exact h.mc.lt
  ·exact h.mp.lt
 have hk9:∀ k,k ≠ g1 → ((w6.setCell ⟨g1,2,none⟩ v').setCell ⟨g1,3,none⟩ (.int .i64 s.over)).heap[k]? = w6.heap[k]?:=fun k hk=>by
  rw [Below.heap_setCell _ ⟨g1,3,none⟩ _ k hk,Below.heap_setCell _ ⟨g1,2,none⟩ _ k hk]
 have hsz:((w6.setCell ⟨g1,2,none⟩ v').setCell ⟨g1,3,none⟩ (.int .i64 s.over)).heap.size = w6.heap.size:=by simp [World.setCell]
 have hcel:Cel ((w6.setCell ⟨g1,2,none⟩ v').setCell ⟨g1,3,none⟩ (.int .i64 s.over)) g1 89 [.map (some L),.map (some b1),v',.int .i64 s.over]:=(h6.cel.set (i:=2) (v:=v')).set (i:=3) (v:=.int .i64 s.over)
 obtain ⟨K',hK1,hK2⟩:=perm_lift hkk
 obtain ⟨P',hP1,hP2⟩:=perm_lift hpp
 have aw:Away (Mu g1 L b1 v') w6 ((w6.setCell ⟨g1,2,none⟩ v').setCell ⟨g1,3,none⟩ (.int .i64 s.over)):=⟨by rw [hsz];exact Nat.le_refl _,fun k _ hn=>hk9 k (fun e=>hn (.inl e))⟩
 have tn:∀ k,Mu g1 L b1 v' k → (k = g1 ∨ k = L ∨ k = b1) ∨ w5.heap.size ≤ k:=fun k hk=>by
  rcases hk with h1 | h1 | h1 | h1
  ·exact .inl (.inl h1)
  ·exact .inl (.inr (.inl h1))
  ·exact .inl (.inr (.inr h1))
  ·exact .inr (hr.lt k h1).1
 have lX:∀ k,(k = g1 ∨ k = L ∨ k = b1) → k < X:=fun k hk=>by rcases hk with rfl | rfl | rfl <;> assumption
 have hs5:=h.bel.size
 refine ⟨L,b1,v',K',P',hcel,(h6.mc.perm (hK1.map kp).symm).kept (hk9 _ (h6.mc.ne h6.cel)),(h6.mp.perm (hP1.map pp).symm).kept (hk9 _ (h6.mp.ne h6.cel)),
  row_in (own_base hr (Nat.zero_le _)) (fun k hv=>hk9 k (fun e=>own_cel_ne hr h6.cel (by decide) (by rw [← e];exact hv))),hen,
  fun y hy=>(((newK_val (h.nw y (hK1.subset hy)) lX).turn tn).away (Away.of hb)).away aw,
  fun y hy=>(((pval_new (h.nv y (hP1.subset hy)).1 (h.nv y (hP1.subset hy)).2 (fun k hk=>Nat.lt_of_lt_of_le (lX k hk) hX)).turn tn).away (Away.of hb)).away aw,hK2,hP2,hLb,fun k hk=>?_,fun y hy _ ad e=>?_,fun y hy=>⟨fun hp ad e=>?_,fun hp ad e=>?_⟩,fun k hk=>hk.elim (fun hf=>hf.elim) (fun h1=>h1.2)⟩
 ·rcases hk with rfl | rfl | rfl | h1
  ·exact .inr ⟨hg1,by rw [hsz];exact h6.cel.lt⟩
  ·exact .inr ⟨hL,by rw [hsz];exact h6.mc.lt⟩
  ·exact .inr ⟨hb1,by rw [hsz];exact h6.mp.lt⟩
  ·have:=hr.lt k h1
   exact .inr ⟨by omega,by rw [hsz];exact this.2⟩
 ·obtain ⟨h1,h2⟩:=newK_in (h6.nw y (hK1.subset hy)) ad e
  exact .inr ⟨by omega,by rw [hsz];exact h2⟩
 ·obtain ⟨h1,h2⟩:=h6.nv y (hP1.subset hy)
  have h3:=h2.ks hp ad e
  obtain ⟨ad',e',h4,_⟩:=h1.ks hp
  obtain rfl:=Option.some.inj (e.symm.trans e')
  exact .inr ⟨by omega,by rw [hsz];exact h4⟩
 ·obtain ⟨h1,h2⟩:=h6.nv y (hP1.subset hy)
  have h3:=h2.ws hp ad e
  obtain ⟨ad',e',h4,_⟩:=h1.ws hp
  obtain rfl:=Option.some.inj (e.symm.trans e')
  exact .inr ⟨by omega,by rw [hsz];exact h4⟩
end
end Sh
end Go.Proofs.YtbkanoblcojdfaaGreat
