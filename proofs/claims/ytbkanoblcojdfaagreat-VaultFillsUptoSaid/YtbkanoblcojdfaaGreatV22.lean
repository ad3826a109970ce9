/- Parts of the proof, joined: ShRef2, ShRef3, ShRef4, ShRef5, ShRef6, ShRef7, ShGrow, ShRef8, ShRef9, ShRef10, ShRef11, RcCheck0, RcCheck1, RcCheck2, RcCheck3, RcCheck4, RcCheck, ShRef12, ShRef13, ShRef14, RdSide, BkStrApp, RlBase, SuTab, SuDone1, SuDone2; their conditions stand with each. -/
import Derived.Lib.AppendStr
import Derived.Test.YtbkanoblcojdfaaGreatV3
import Derived.Test.YtbkanoblcojdfaaGreatV4
import Derived.Test.YtbkanoblcojdfaaGreatV5
import Derived.Test.YtbkanoblcojdfaaGreatV6
import Derived.Test.YtbkanoblcojdfaaGreatV7
import Derived.Test.YtbkanoblcojdfaaGreatV9
import Derived.Test.YtbkanoblcojdfaaGreatV19
import Derived.Test.YtbkanoblcojdfaaGreatV21

set_option maxRecDepth 20000
set_option maxHeartbeats 8000000
namespace Go.Proofs.YtbkanoblcojdfaaGreat
namespace Sh
open Go.RowKit Bk Ch Lt Rc Tr
attribute [local go_sem ↓] Go.wp_at_zero Go.wp_at_succ
attribute [local go_sem] floatUpon pick
section
variable {W:World} {F:Nat → Prop} {g:Nat} {A B C:Option Addr} {a b c:Nat} {K:List KI} {P:List RI} {s:Shf}
end
section
variable {W:World} {F:Nat → Prop} {g:Nat} {A B C:Option Addr} {a b c:Nat} {K:List KI} {P:List RI} {s:Shf}
end
section
variable {W:World} {F:Nat → Prop} {g:Nat} {A B C:Option Addr} {a b c:Nat} {K:List KI} {P:List RI} {s:Shf}
end
section
variable {W:World} {F:Nat → Prop} {g:Nat} {A B C:Option Addr} {a b c:Nat} {K:List KI} {P:List RI} {s:Shf}
end
section
variable {W:World} {F:Nat → Prop} {g:Nat} {A B C:Option Addr} {a b c:Nat} {K:List KI} {P:List RI} {s:Shf}
end
section
variable {W:World} {F:Nat → Prop} {g:Nat} {A B C:Option Addr} {a b c:Nat} {K:List KI} {P:List RI} {s:Shf}
end
end Sh
end Go.Proofs.YtbkanoblcojdfaaGreat
namespace Go.Proofs.YtbkanoblcojdfaaGreat
namespace Sh
open Go.RowKit Bk
section
variable {T:TypeId} {H:Nat} {pre us:List Value} {w W W':World}
end
end Sh
end Go.Proofs.YtbkanoblcojdfaaGreat
namespace Go.Proofs.YtbkanoblcojdfaaGreat
namespace Sh
open Go.RowKit Bk Ch Lt Rc Tr
attribute [local go_sem ↓] Go.wp_at_zero Go.wp_at_succ
attribute [local go_sem] floatUpon pick
section
variable {W:World} {F:Nat → Prop} {g:Nat} {A B C:Option Addr} {a b c:Nat} {K:List KI} {P:List RI} {s:Shf}
end
section
variable {W:World} {F:Nat → Prop} {g:Nat} {A B C:Option Addr} {a b c:Nat} {K:List KI} {P:List RI} {s:Shf}
end
section
variable {W:World} {F:Nat → Prop} {g:Nat} {A B C:Option Addr} {a b c:Nat} {K:List KI} {P:List RI} {s:Shf}
end
section
variable {W:World} {F:Nat → Prop} {g:Nat} {A B C:Option Addr} {a b c:Nat} {K:List KI} {P:List RI} {s:Shf}
end
end Sh
end Go.Proofs.YtbkanoblcojdfaaGreat
namespace Go.Proofs.YtbkanoblcojdfaaGreat
namespace Rc
open Go.RowKit Bk Lt
attribute [local go_sem ↓] Go.wp_at_zero Go.wp_at_succ
attribute [local go_sem] floatUpon pick
end Rc
end Go.Proofs.YtbkanoblcojdfaaGreat
namespace Go.Proofs.YtbkanoblcojdfaaGreat
namespace Rc
open Go.RowKit Bk Lt
end Rc
end Go.Proofs.YtbkanoblcojdfaaGreat
namespace Go.Proofs.YtbkanoblcojdfaaGreat
namespace Sh
open Go.RowKit Bk Ch Lt Rc Tr
attribute [local go_sem ↓] Go.wp_at_zero Go.wp_at_succ
attribute [local go_sem] floatUpon pick
section
variable {W:World} {F:Nat → Prop} {g:Nat} {A B C:Option Addr} {a b c:Nat} {K:List KI} {P:List RI} {s:Shf}
end
section
variable {W:World} {F:Nat → Prop} {g:Nat} {A B C:Option Addr} {a b c:Nat} {K:List KI} {P:List RI} {s:Shf}
end
section
variable {W:World} {F:Nat → Prop} {g:Nat} {A B C:Option Addr} {a b c:Nat} {K:List KI} {P:List RI} {s:Shf}
end
end Sh
end Go.Proofs.YtbkanoblcojdfaaGreat
namespace Go.Proofs.YtbkanoblcojdfaaGreat
namespace Rd
open Go.RowKit Sc Bk
theorem devF_of {Rep:RepT} (H:DevBase Rep):DevF 68 251 253 120 28 Rep :=
 ⟨H.lt,H.ok,H.kept,H.read,H.write,H.flush,H.fuse,H.crash⟩
section
variable {f1 f2 f3 f4 f5 f6 f7 f8 f9 f10:FuncId} {Rep:RepT} {LRep:LRepT} {w0 W W':World} {F F':Nat → Prop} {g p:Nat} {D D':Dev} {l:Lg} {o o':Option (Nat × Lg)}
theorem strs_fr {A:Option Addr} {ts:List ByteArray} (h:StrsAt W A ts) (hf:Fr F F' W W') (hn:∀ x,A = some x → ¬ F x.block):StrsAt W' A ts:=fun hp=>by
 obtain ⟨ad,e,hl,hc⟩:=h hp
 refine ⟨ad,e,Nat.lt_of_lt_of_le hl hf.size,fun i hi=>?_⟩
 have hkp:=hf.block ad.block hl (hn ad e)
 rw [← st_block ad i] at hkp
 refine Eq.trans ?_ (hc i hi)
 unfold World.cell?
 rw [hkp]
end
end Rd
end Go.Proofs.YtbkanoblcojdfaaGreat
namespace Go.Proofs.YtbkanoblcojdfaaGreat
namespace Bk
open Go.RowKit Go.Lib
theorem run_append_string_at {P:Program} (w:World) (base:Nat) (t u ty e:TypeId) (i:TypeInfo) (ht:P.underlying t = some (.slice e)) (hu:P.underlying u = some .string) (hi:P.info? e = some i) (hz:i.zero = some (.int .u8 0))
  (hsize:i.size = 1) (hby:i.bytes = 1) (v:Value) (n:Nat) (xs:List Value) (hown:w.ownsRow base e 1 v n xs) (s:ByteArray) (h63:n + s.size ≤ maxLen) (hbytes:n + s.size ≤ 140737488355328) (hbase:base ≤ w.heap.size) :
  ∃ v' w',(Builtin.append_ #[t,u] ty #[v,.string s]).run P w = .ok v' w' ∧ w'.ownsRow base e 1 v' (n + s.size) (xs ++ strCells s) ∧ w.grownBy w' v.ownBlock ∧ (v'.ownBlock = v.ownBlock ∨ v'.ownBlock = some w.heap.size):=by
 obtain ⟨v',w',hr,h2,h3,h4⟩:=run_append_own_string (P:=P) w base t u ty e i ht hu hi hz hsize hby v n xs hown s h63 hbytes hbase
 refine ⟨v',w',hr,h2,h3,?_⟩
 have hxl:xs.length = n:=by simpa using hown.1
 rcases hown.2 with ⟨rfl,rfl⟩ | ⟨g,cap,cur,rfl,hbg,hg,hnc,hcm,hcs,htake⟩
 ·by_cases hm:s.size = 0
  ·rw [h4.2 ⟨rfl,hm⟩]
   exact .inl rfl
  ·have hr2:=run_append_nil_string (P:=P) w t u ty e i (.int .u8 0) ht hu hi hz s (by omega) (by unfold maxLen at h63;omega) (by rw [hby];omega)
   rw [hr] at hr2
   simp only [Result.ok.injEq] at hr2
   rw [hr2.1]
   exact .inr rfl
 ·by_cases hroom:n + s.size ≤ cap
  ·have hsz:cur.size = cap:=by simpa using hcs
   have hr2:=run_append_room_string (P:=P) w t u ty e i ht hu hi hsize g n cap cur hg s hroom (by omega)
   rw [hr] at hr2
   simp only [Result.ok.injEq] at hr2
   rw [hr2.1]
   exact .inl rfl
  ·have hr2:=run_append_grow_string (P:=P) w t u ty e i (.int .u8 0) ht hu hi hz ⟨g,0,none⟩ n cap xs (by rw [hsize];simpa using hxl) (hown.cells (g:=g) rfl) s (by omega) (by unfold maxLen at h63;omega) (by rw [hby];exact growslice_fits (by omega) (by omega))
   rw [hr] at hr2
   simp only [Result.ok.injEq] at hr2
   rw [hr2.1]
   exact .inr rfl
theorem wpList_append_string_at {P:Program} {w:World} {ops:Array Oper} {rest:List Oper} {o:Oper} {a:Act} {Q:Exit → Act → World → Prop} (hgd:o.guard = none) (sl x:Operand) (t u:TypeId)
  (ho:o.op = .call { callee:=.builtin .append,args:=#[sl,x],argTypes:=#[t,u] })
  (base:Nat) (e:TypeId) (i:TypeInfo) (ht:P.underlying t = some (.slice e)) (hu:P.underlying u = some .string) (hi:P.info? e = some i) (hz:i.zero = some (.int .u8 0))
  (hsize:i.size = 1) (hby:i.bytes = 1)
  (v:Value) (n:Nat) (xs:List Value) (hs:a.eval sl = v) (hown:w.ownsRow base e 1 v n xs) (s:ByteArray) (hx:a.eval x = .string s)
  (h63:n + s.size ≤ maxLen) (hbytes:n + s.size ≤ 140737488355328) (hbase:base ≤ w.heap.size)
  (h:∀ v' w',w'.ownsRow base e 1 v' (n + s.size) (xs ++ strCells s) → w.grownBy w' v.ownBlock → (v'.ownBlock = v.ownBlock ∨ v'.ownBlock = some w.heap.size) → wpList P ops Q rest (a.put o.dst v') w'):wpList P ops Q (o :: rest) a w:=by
 refine wpList_plain hgd fun K hK=>?_
 obtain ⟨v',w',hr,h2,h3,h4⟩:=run_append_string_at (P:=P) w base t u o.type e i ht hu hi hz hsize hby v n xs hown s h63 hbytes hbase
 unfold Oper.wp execOp
 simp only [ho,resolve,invoke,builtin,Sem.run_bind,Sem.run_pure,Result.andThen_ok,List.map_toArray,List.map_cons,List.map_nil,hs,hx,hr]
 exact hK _ _ (h v' w' h2 h3 h4)
end Bk
end Go.Proofs.YtbkanoblcojdfaaGreat
namespace Go.Proofs.YtbkanoblcojdfaaGreat
namespace Rd
open Go.RowKit Sc Bk
attribute [local go_sem ↓] Go.wp_at_zero Go.wp_at_succ
attribute [local go_sem] floatUpon pick
structure DevQ (Rep:RepT):Prop where
 lt:∀ {W F g D},Rep W F g D → ∀ k,F k → k < W.heap.size
 ok:∀ {W F g D},Rep W F g D → DevOk D
 kept:∀ {W W' F g D},Rep W F g D → (∀ k,F k → W'.heap[k]? = W.heap[k]?) → Rep W' F g D
 size:∀ {F g D} (w:World),Rep w F g D → Calls Tryz.prog 130 #[.pointer (some ⟨g,0,none⟩)] w fun e w'=>e = .returned (.int .i64 (D.on.length:Int)) ∧ w' = w
 read:∀ {F g D} (i:Int) (w:World),Rep w F g D → -9223372036854775808 ≤ i ∧ i ≤ 9223372036854775807 → Calls Tryz.prog 68 #[.pointer (some ⟨g,0,none⟩),.int .i64 i] w fun e w'=>e = .returned (.tuple #[.string (rdV D i).1,.int .i64 (rdV D i).2]) ∧ Below w.heap.size w w'
def LC (W:World) (p g c a n:Nat) (A:Value) (mn:Nat) (B:Value):Prop :=
 Cel W p 196 [.pointer (some ⟨g,0,none⟩),.int .i64 (c:Int),.int .i64 (a:Int),.int .i64 (n:Int),A,.int .i64 (mn:Int),B]
def LFt (p:Nat) (A B:Value):Nat → Prop:=fun k=>k = p ∨ A.ownBlock = some k ∨ B.ownBlock = some k
structure LL (W:World) (p g:Nat) (A B:Value) (l:Lg):Prop where
 cel:LC W p g l.cnt l.ar l.bs.length A l.mn B
 txt:W.ownsRow 0 9 1 A l.ts.length (strV l.ts)
 wt:W.ownsRow 0 5 1 B (waitL l).length (Lib.byteCells (waitL l))
def LRep (W:World) (L:Nat → Prop) (p g _n:Nat) (l:Lg):Prop:=∃ A B,L = LFt p A B ∧ LL W p g A B l
section
variable {Rep:RepT} {W W' w:World} {F:Nat → Prop} {p g c a n m mn:Nat} {A B:Value} {l:Lg} {D:Dev}
theorem DevQ.step (H:DevQ Rep) (h:Rep W F g D) (hb:Below W.heap.size W W'):Rep W' F g D:=H.kept h fun k hk=>hb.block k (H.lt h k hk)
theorem own_kept {e:TypeId} {H:Nat} {v:Value} {k:Nat} {xs:List Value} (h:W.ownsRow H e 1 v k xs) (hk:∀ j,v.ownBlock = some j → W'.heap[j]? = W.heap[j]?):W'.ownsRow H e 1 v k xs:=by
 rcases h with ⟨hl,hn | ⟨j,cap,cur,hv,hb,hg,rest⟩⟩
 ·exact ⟨hl,.inl hn⟩
 ·exact ⟨hl,.inr ⟨j,cap,cur,hv,hb,(hk j (by rw [hv];rfl)).trans hg,rest⟩⟩
theorem own_lt {e:TypeId} {H:Nat} {v:Value} {k:Nat} {xs:List Value} (h:W.ownsRow H e 1 v k xs):∀ j,v.ownBlock = some j → j < W.heap.size:=fun j hj=>by
 rcases h with ⟨hl,⟨hn,_⟩ | ⟨i,cap,cur,hv,hb,hg,rest⟩⟩
 ·rw [hn] at hj;cases hj
 ·rw [hv] at hj;cases hj;exact (Array.getElem?_eq_some_iff.1 hg).1
theorem own_far {e t:TypeId} {H:Nat} {v:Value} {k q:Nat} {xs ys:List Value} (h:W.ownsRow H e 1 v k xs) (hc:Cel W q t ys) (hn:e ≠ t):v.ownBlock ≠ some q:=fun e'=>by
 rcases h with ⟨hl,⟨hn,_⟩ | ⟨i,cap,cur,hv,hb,hg,rest⟩⟩
 ·rw [hn] at e';cases e'
 ·rw [hv] at e';cases e'
  unfold Cel at hc
  rw [hg] at hc
  simp only [Option.some.injEq,Obj.cells.injEq] at hc
  exact hn hc.2.1
theorem LL.lt (h:LL W p g A B l):∀ k,LFt p A B k → k < W.heap.size:=fun k hk=>by
 rcases hk with rfl | hk | hk
 ·exact h.cel.lt
 ·exact own_lt h.txt k hk
 ·exact own_lt h.wt k hk
theorem LL.kept (h:LL W p g A B l) (hk:∀ k,LFt p A B k → W'.heap[k]? = W.heap[k]?):LL W' p g A B l :=
 ⟨(hk p (.inl rfl)).trans h.cel,own_kept h.txt fun j hj=>hk j (.inr (.inl hj)),own_kept h.wt fun j hj=>hk j (.inr (.inr hj))⟩
theorem LL.step (h:LL W p g A B l) (hb:Below W.heap.size W W'):LL W' p g A B l:=h.kept fun k hk=>hb.block k (h.lt k hk)
theorem LL.dA (h:LL W p g A B l):A.ownBlock ≠ some p:=own_far h.txt h.cel (by decide)
theorem LL.dB (h:LL W p g A B l):B.ownBlock ≠ some p:=own_far h.wt h.cel (by decide)
theorem sectors_any (H:DevQ Rep) (hr:Rep w F g D) (hc:LC w p g c a n A mn B) (h2:4 ≤ D.on.length) :
  Calls Tryz.prog 270 #[.pointer (some ⟨p,0,none⟩)] w fun e w'=>e = .returned (.int .i64 (((D.on.length - 2) / 2:Nat):Int)) ∧ w' = w:=by
 have k0:=hc.cell (i:=0) rfl
 have hmx:=(H.ok hr).max
 have HS:=Lib.hid (H.size w hr)
 obtain ⟨x,hx⟩:∃ x,x = (D.on.length - 2) / 2:=⟨_,rfl⟩
 have e2:((D.on.length:Int) - 2).tdiv 2 = (x:Int):=by rw [Int.tdiv_eq_ediv_of_nonneg (by omega)];omega
 have b1:x ≤ 1024:=by omega
 rw [← hx]
 clear hx hc hr
 generalize D.on.length = N at *
 go_enter Tryz.func270,Tryz.ntmps270
 go_wp2_with fail
 refine HS.out.mono ?_
 rintro e w' ⟨rfl,rfl⟩
 go_wp2_with fail
 go_ret
 exact ⟨rfl,rfl⟩
theorem most_any (H:DevQ Rep) (hr:Rep w F g D) (hc:LC w p g c a n A mn B) (h2:4 ≤ D.on.length) :
  Calls Tryz.prog 203 #[.pointer (some ⟨p,0,none⟩)] w fun e w'=>e = .returned (.int .i64 (areaN D:Int)) ∧ w' = w:=by
 have HS:=Lib.hid (sectors_any H hr hc h2)
 have hmx:=(H.ok hr).max
 obtain ⟨x,hx⟩:∃ x,x = (D.on.length - 2) / 2:=⟨_,rfl⟩
 have e3:(x:Int) * 64 = (areaN D:Int):=by unfold areaN;omega
 have b1:x ≤ 1024:=by omega
 have b2:areaN D ≤ 65536:=by omega
 rw [← hx] at HS
 clear hx hc hr hmx
 generalize areaN D = ab at *
 go_enter Tryz.func203,Tryz.ntmps203
 go_wp2_with fail
 refine HS.out.mono ?_
 rintro e w' ⟨rfl,rfl⟩
 go_wp2_with fail
 go_ret
 exact ⟨rfl,rfl⟩
theorem first_any (H:DevQ Rep) (hr:Rep w F g D) (hc:LC w p g c a n A mn B) (h2:4 ≤ D.on.length) (i:Nat) (hi:i ≤ 1) :
  Calls Tryz.prog 254 #[.pointer (some ⟨p,0,none⟩),.int .i64 (i:Int)] w fun e w'=>e = .returned (.int .i64 (areaAt D i:Int)) ∧ w' = w:=by
 have HS:=Lib.hid (sectors_any H hr hc h2)
 have hmx:=(H.ok hr).max
 obtain ⟨x,hx⟩:∃ x,x = (D.on.length - 2) / 2:=⟨_,rfl⟩
 have b1:x ≤ 1024:=by omega
 have e4:areaAt D i = 2 + i * x:=by unfold areaAt areaN;rw [← hx,Nat.mul_div_cancel _ (by omega)]
 rw [← hx] at HS
 rw [e4]
 clear hx hc hr hmx e4
 have hi':i = 0 ∨ i = 1:=by omega
 rcases hi' with rfl | rfl
 ·simp only [Nat.zero_mul,Nat.add_zero]
  go_enter Tryz.func254,Tryz.ntmps254
  go_wp2_with fail
  refine HS.out.mono ?_
  rintro e w' ⟨rfl,rfl⟩
  go_wp2_with fail
  go_ret
  exact ⟨by simp,rfl⟩
 ·have e5:2 + 1 * (x:Int) = ((2 + 1 * x:Nat):Int):=by omega
  go_enter Tryz.func254,Tryz.ntmps254
  go_wp2_with fail
  refine HS.out.mono ?_
  rintro e w' ⟨rfl,rfl⟩
  go_wp2_with fail
  go_ret
  exact ⟨by simp,rfl⟩
end
end Rd
end Go.Proofs.YtbkanoblcojdfaaGreat
namespace Go.Proofs.YtbkanoblcojdfaaGreat
namespace Su
end Su
end Go.Proofs.YtbkanoblcojdfaaGreat
namespace Go.Proofs.YtbkanoblcojdfaaGreat
namespace Su
open Go.RowKit Bk
attribute [local go_sem ↓] Go.wp_at_zero Go.wp_at_succ
attribute [local go_sem] floatUpon pick
theorem u32_and1 (x:Nat) (hx:x < 4294967296):bits .and .u32 (x:Int) 1 = ((x % 2:Nat):Int):=by
 have h:=u32_and_nat x 1 hx (by omega)
 rw [nat_mask1] at h
 exact h
theorem step_any (x:Nat) (w:World) (hx:x < 4294967296) :
  Calls Tryz.prog 340 #[.int .u32 (x:Int)] w fun e w'=>e = .returned (.int .u32 ((T x:Nat):Int)) ∧ w' = w:=by
 have ha:=u32_and1 x hx
 by_cases h:x % 2 = 1
 ·have ht:T x = (x / 2) ^^^ 3988292384:=by unfold T;rw [if_pos h]
  have hb:bits .xor .u32 ((x:Int) / 2) 3988292384 = ((T x:Nat):Int):=by
   have:=u32_xor_nat (x / 2) 3988292384 (by omega) (by omega)
   rw [← ht,Int.natCast_ediv] at this
   exact this
  rw [h] at ha
  have ha':(bits .and .u32 (x:Int) 1 == 1) = true:=by rw [ha];rfl
  clear ha ht
  go_enter Tryz.func340,Tryz.ntmps340
  go_wp2_with fail
  go_ret
  exact ⟨rfl,rfl⟩
 ·have h0:x % 2 = 0:=by omega
  have ht:((x:Int) / 2) = ((T x:Nat):Int):=T_even h
  rw [h0] at ha
  have ha':(bits .and .u32 (x:Int) 1 == 1) = false:=by rw [ha];rfl
  clear ha
  go_enter Tryz.func340,Tryz.ntmps340
  go_wp2_with fail
  go_ret
  exact ⟨rfl,rfl⟩
theorem over_any (x:Nat) (s:ByteArray) (w:World) (hx:x < 4294967296) (hs:s.size ≤ 9223372036854775807) :
  Calls Tryz.prog 308 #[.int .u32 (x:Int),.string s] w fun e w'=>e = .returned (.int .u32 ((reg x s.data.toList:Nat):Int)) ∧ w' = w:=by
 have hb:(s.size:Int) ≤ 9223372036854775807:=by omega
 have HX:=Lib.hid hx
 clear hx
 go_enter Tryz.func308,Tryz.ntmps308
 go_wp2_with fail
 go_loopw [0,8] (fun y i wr=>∃ j:Nat,j ≤ s.size ∧ i = .int .i64 (j:Int) ∧ y = .int .u32 ((reg x (s.data.toList.take j):Nat):Int) ∧ wr = w) (fun _ i _=>s.size - (intOf i).toNat)
 case atStart=>exact ⟨0,by omega,rfl,rfl,rfl⟩
 case round =>
  obtain ⟨j,hj,rfl,rfl,rfl⟩:=hrel
  by_cases hlt:j < s.size
  ·have pj:(j:Int) < (s.size:Int):=by omega
   have hlen:j < s.data.toList.length:=by rw [Array.length_toList];exact hlt
   have hstep:reg x (s.data.toList.take (j + 1)) = Tn 8 (reg x (s.data.toList.take j) ^^^ (s[j]'hlt).toNat):=by
    rw [List.take_add_one,List.getElem?_eq_getElem hlen,reg_append,Array.getElem_toList];rfl
   have hr:=reg_lt HX.out (s.data.toList.take j)
   have HS:=Lib.hid hstep
   have hb8:(s[j]'hlt).toNat < 256:=(s[j]'hlt).toNat_lt
   generalize hbv:(s[j]'hlt).toNat = b at hb8
   have hix:∀ W,(Instr.index 9 (.string s) (.int .i64 (j:Int))).run Tryz.prog W = .ok (.int .u8 (b:Int)) W:=fun W=>by
    rw [run_index_string W 9 s .i64 _ Tryz.underlying9,dif_pos (by omega)]
    simp only [Int.toNat_natCast,hbv]
   rw [hbv] at HS
   generalize reg x (s.data.toList.take j) = z0 at hr HS ⊢
   have hxx:=u32_xor_nat z0 b hr (by omega)
   have hx2:z0 ^^^ b < 4294967296:=Nat.xor_lt_two_pow (n:=32) hr (by omega)
   generalize hy:z0 ^^^ b = y at hxx hx2
   rw [hy] at HS
   have HX2:=Lib.hid hx2
   clear hstep hbv hy hlen hx2
   go_wp2_with fail
   obtain ⟨wo,rfl⟩:∃ wo:World,wo = wr:=⟨_,rfl⟩
   go_loopw [0,17] (fun x i wr=>∃ k:Nat,k ≤ 8 ∧ i = .int .i64 (k:Int) ∧ x = .int .u32 ((Tn k y:Nat):Int) ∧ wr = wo) (fun _ i _=>8 - (intOf i).toNat)
   case atStart=>exact ⟨0,by omega,rfl,rfl,rfl⟩
   case round =>
    obtain ⟨k,hk,rfl,rfl,rfl⟩:=hrel
    by_cases hk8:k < 8
    ·have pk:(k:Int) < 8:=by omega
     have hz:=Tn_lt k HX2.out
     have hs2:=Tn_succ' k y
     generalize Tn k y = z at hz hs2 ⊢
     have HC:=Lib.hid (fun W=>step_any z W hz)
     rw [← hs2] at HC
     clear hs2 hz
     go_wp2_with fail
     refine (HC.out _).mono ?_
     rintro e w' ⟨rfl,rfl⟩
     go_wp2_with fail
     go_roundw
     case rel=>exact ⟨k + 1,by omega,by go_num,rfl,trivial⟩
     case measure=>simp [intOf];omega
    ·obtain rfl:k = 8:=by omega
     have HSo:=HS.out
     go_wp2_with fail
     go_roundw
     case rel=>exact ⟨j + 1,by omega,by go_num,by rw [HSo],trivial⟩
     case measure=>simp [intOf];omega
  ·obtain rfl:j = s.size:=by omega
   have hc:s.data.toList.take s.size = s.data.toList:=List.take_of_length_le (by rw [Array.length_toList];exact Nat.le_refl _)
   rw [hc]
   clear hc
   go_wp2_with fail
   go_ret
   exact ⟨rfl,rfl⟩
theorem of_any (A:Option Addr) (c:Nat) (l:List ByteArray) (w:World) (h:StrsAt w A l) (hn:l.length ≤ 9223372036854775807) (hs:(catL l).length ≤ 9223372036854775807) :
  Calls Tryz.prog 246 #[.slice A l.length c] w fun e w'=>e = .returned (.int .i64 ((crc (catL l):Nat):Int)) ∧ w' = w:=by
 have HA:=Lib.hid h
 clear h
 go_enter Tryz.func246,Tryz.ntmps246
 go_wp2_with fail
 go_loopw [3,8] (fun x i wr=>∃ j:Nat,j ≤ l.length ∧ i = .int .i64 (j:Int) ∧ x = .int .u32 ((reg 4294967295 (catL (l.take j)):Nat):Int) ∧ wr = w) (fun _ i _=>l.length - (intOf i).toNat)
 case atStart=>exact ⟨0,by omega,rfl,rfl,rfl⟩
 case round =>
  obtain ⟨j,hj,rfl,rfl,rfl⟩:=hrel
  have hr:=reg_lt (x:=4294967295) (by omega) (catL (l.take j))
  by_cases hlt:j < l.length
  ·have pj:(j:Int) < (l.length:Int):=by omega
   obtain ⟨ad,rfl,hab,hcl⟩:=HA.out (by omega)
   have x1:=hcl j hlt
   have hz:=catL_le l (j + 1)
   have hz2:l[j].data.toList.length = l[j].size:=Array.length_toList
   have hct:=catL_take l j hlt
   rw [hct,List.length_append,hz2] at hz
   have hst:reg 4294967295 (catL (l.take (j + 1))) = reg (reg 4294967295 (catL (l.take j))) l[j].data.toList:=by rw [hct,reg_append]
   have HO:=Lib.hid (fun W=>over_any (reg 4294967295 (catL (l.take j))) l[j] W hr (by omega))
   rw [← hst] at HO
   clear hst hct hcl
   generalize reg 4294967295 (catL (l.take j)) = z at hr HO ⊢
   generalize l[j] = s at x1 HO hz hz2
   clear hz hz2
   go_wp2_with fail
   refine (HO.out _).mono ?_
   rintro e w' ⟨rfl,rfl⟩
   go_wp2_with fail
   go_roundw
   case rel=>exact ⟨j + 1,by omega,by go_num,rfl,trivial⟩
   case measure=>simp [intOf];omega
  ·obtain rfl:j = l.length:=by omega
   rw [List.take_of_length_le (Nat.le_refl _)] at hr ⊢
   have hx:=u32_xor_nat (reg 4294967295 (catL l)) 4294967295 hr (by omega)
   have hcl:=crc_lt (catL l)
   have hc:reg 4294967295 (catL l) ^^^ 4294967295 = crc (catL l):=rfl
   rw [hc] at hx
   clear hc
   generalize reg 4294967295 (catL l) = x at hr hx ⊢
   obtain ⟨C,hC⟩:∃ C,C = crc (catL l):=⟨_,rfl⟩
   rw [← hC] at hx hcl
   have hx':bits .xor .u32 (x:Int) 4294967295 = (C:Int):=hx
   have HC:=Lib.hid hC
   clear hx hC
   go_wp2_with fail
   go_ret
   exact ⟨by rw [← HC.out];rfl,rfl⟩
theorem byte_set (L:List UInt8) (j:Nat) (h:j < L.length):(Lib.byteCells L)[j]? = some (.int .u8 ((L[j].toNat:Nat):Int)):=by
 unfold Lib.byteCells
 rw [List.getElem?_map,List.getElem?_eq_getElem h];rfl
theorem le_at:∀ (k n i:Nat),i < k → (le k n)[i]? = some (UInt8.ofNat (n / 256 ^ i % 256))
 | 0,_,_,h=>absurd h (by omega)
 | k + 1,n,0,_=>by simp [le]
 | k + 1,n,i + 1,h=>by
  show (le k (n / 256))[i]? = _
  rw [le_at k (n / 256) i (by omega),Nat.div_div_eq_div_mul,Nat.pow_succ,Nat.mul_comm 256]
theorem low_any (n k:Nat) (w:World) (_hn:n ≤ 9223372036854775807) (h1:1 ≤ k) (hk:k ≤ 7) :
  Calls Tryz.prog 245 #[.int .i64 (k:Int),.int .i64 (n:Int)] w fun e w'=>e = .returned (.string ⟨(le k n).toArray⟩) ∧ Below w.heap.size w w':=by
 obtain ⟨i0,hi,hz0,hz1,hz2⟩:=info_parts Tryz.infoU8
 have hV:(Lib.byteCells (le k n)).length = k:=by rw [Lib.byteCells_length,le_length]
 go_enter Tryz.func245,Tryz.ntmps245
 go_wp2_with (at_make;refine wpList_make_full _ rfl (.tmp 7) (.tmp 7) 142 rfl w.heap.size 5 i0 (.int .u8 0) 1 Tryz.underlying142 hi hz0 hz1 .i64 .i64 _ _ k rfl rfl rfl rfl (by rw [hz2];omega) (by unfold maxLen;omega) (by simp) ?_;intro w2 hown hgrow)
 have hown0:w2.ownsRow w.heap.size 5 1 (.slice (some ⟨w.heap.size,0,none⟩) k k) k (preV (Lib.byteCells (le k n)) (.int .u8 0) 0):=by
  rw [preV_zero (Lib.byteCells (le k n)) (.int .u8 0) k hV rfl] at hown;exact hown
 have hbel0:Below w.heap.size w w2:=(Below.refl _ _).grown hgrow (Nat.le_refl _) (fun k hk=>by cases hk)
 have HV:=Lib.hid hV
 clear hown hgrow hV
 go_loopw [11] (fun i wr=>∃ j:Nat,j ≤ k ∧ i = .int .i64 (j:Int) ∧ Hid (wr.ownsRow w.heap.size 5 1 (.slice (some ⟨w.heap.size,0,none⟩) k k) k (preV (Lib.byteCells (le k n)) (.int .u8 0) j)) ∧ Hid (Below w.heap.size w wr)) (fun i _=>k - (intOf i).toNat)
 case atStart=>exact ⟨0,by omega,rfl,hown0,hbel0⟩
 case round =>
  obtain ⟨j,hj,rfl,hown,hbel⟩:=hrel
  clear hown0 hbel0
  by_cases hlt:j < k
  ·have hat:(Lib.byteCells (le k n))[j]? = some (.int .u8 ((n / 256 ^ j % 256:Nat):Int)):=by
    have h:=le_at k n j hlt
    obtain ⟨hl,he⟩:=List.getElem?_eq_some_iff.1 h
    rw [byte_set _ _ hl,he,UInt8.toNat_ofNat_of_lt' (by show n / 256 ^ j % 256 < 256;omega)]
   obtain ⟨v,hv⟩:=preV_at (Lib.byteCells (le k n)) (.int .u8 0) j j (by rw [HV.out];omega) (by rw [HV.out];omega)
   have hcell:=(hown.out.cellAt j (by omega)).trans hv
   have hfro:=hown.out.frozenAt j
   have R:=hown.out.stored j (.int .u8 (((n / 256 ^ j % 256:Nat):Nat):Int))
   rw [preV_set (Lib.byteCells (le k n)) (.int .u8 0) _ j (by rw [HV.out];omega) hat] at R
   have HR:=Lib.hid R.1
   have pj:(j:Int) < (k:Int):=by omega
   have hsh:(n:Int) / 2 ^ (8 * (j:Int)).toNat = ((n / 256 ^ j:Nat):Int):=by
    rw [show (8 * (j:Int)).toNat = 8 * j by omega,pow256,Int.natCast_ediv,Int.natCast_pow];rfl
   have hcv:IntKind.u8.wrap ((n / 256 ^ j:Nat):Int) = ((n / 256 ^ j % 256:Nat):Int):=by
    simp [IntKind.wrap,IntKind.bits,IntKind.signed]
   generalize n / 256 ^ j % 256 = b at hcv HR hat
   generalize n / 256 ^ j = q at hsh hcv
   clear hv R hat
   go_wp2_with fail
   go_roundw
   case rel=>exact ⟨j + 1,by omega,by go_num,HR.out,hbel.out.setCell (Nat.le_refl _) _⟩
   case measure=>simp [intOf];omega
  ·obtain rfl:j = k:=by omega
   have hown':=hown.out
   have e:preV (Lib.byteCells (le j n)) (.int .u8 0) j = Lib.byteCells (le j n):=by
    have h2:=preV_end (Lib.byteCells (le j n)) (.int .u8 0)
    rw [HV.out] at h2
    exact h2
   rw [e] at hown'
   have hcv:=own_bytes hown' (le_length j n).symm 0 j j (by rw [le_length];omega)
   rw [List.drop_zero,List.take_of_length_le (by rw [le_length];exact Nat.le_refl _)] at hcv
   have HB:=Lib.hid hbel.out
   clear hown' hown e hbel
   go_wp2_with fail
   go_ret
   exact ⟨rfl,HB.out⟩
theorem i64_or_nat (a b:Nat) (ha:a < 9223372036854775808) (hb:b < 9223372036854775808):bits .or .i64 (a:Int) (b:Int) = ((a ||| b:Nat):Int):=by
 have hx:a ||| b < 2 ^ 63:=Nat.or_lt_two_pow (by omega) (by omega)
 show IntKind.i64.wrap ((BitVec.ofInt 64 (a:Int) ||| BitVec.ofInt 64 (b:Int)).toNat:Int) = _
 rw [BitVec.toNat_or,ofInt_i64 a ha,ofInt_i64 b hb,i64_wrap (by omega) (by omega)]
theorem num_take (L:List UInt8) (j:Nat) (h:j < L.length):num (L.take (j + 1)) = num (L.take j) + 256 ^ j * L[j].toNat:=by
 rw [List.take_add_one,List.getElem?_eq_getElem h,num_append,List.length_take,Nat.min_eq_left (Nat.le_of_lt h)]
 simp [num]
theorem number_any (s:ByteArray) (w:World) (hk:s.size ≤ 7) :
  Calls Tryz.prog 315 #[.string s] w fun e w'=>e = .returned (.int .i64 ((num s.data.toList:Nat):Int)) ∧ w' = w:=by
 have hb:(s.size:Int) ≤ 7:=by omega
 go_enter Tryz.func315,Tryz.ntmps315
 go_wp2_with fail
 go_loopw [3,7] (fun x i wr=>∃ j:Nat,j ≤ s.size ∧ i = .int .i64 (j:Int) ∧ x = .int .i64 ((num (s.data.toList.take j):Nat):Int) ∧ wr = w) (fun _ i _=>s.size - (intOf i).toNat)
 case atStart=>exact ⟨0,by omega,rfl,rfl,rfl⟩
 case round =>
  obtain ⟨j,hj,rfl,rfl,rfl⟩:=hrel
  by_cases hlt:j < s.size
  ·have pj:(j:Int) < (s.size:Int):=by omega
   have hlen:j < s.data.toList.length:=by rw [Array.length_toList];exact hlt
   have hstep:=num_take s.data.toList j hlen
   rw [Array.getElem_toList] at hstep
   have hl:=num_lt (s.data.toList.take j)
   rw [List.length_take,Nat.min_eq_left (Nat.le_of_lt hlen)] at hl
   have hb8:(s[j]'hlt).toNat < 256:=(s[j]'hlt).toNat_lt
   have hst2:num (s.data.toList.take (j + 1)) = num (s.data.toList.take j) + 256 ^ j * (s[j]'hlt).toNat:=hstep
   generalize hbv:(s[j]'hlt).toNat = b at hb8 hst2
   have hix:∀ W,(Instr.index 9 (.string s) (.int .i64 (j:Int))).run Tryz.prog W = .ok (.int .u8 (b:Int)) W:=fun W=>by
    rw [run_index_string W 9 s .i64 _ Tryz.underlying9,dif_pos (by omega)]
    simp only [Int.toNat_natCast,hbv]
   have hp:256 ^ j ≤ 256 ^ 6:=Nat.pow_le_pow_right (by omega) (by omega)
   have hm:256 ^ j * b ≤ 256 ^ 6 * 255:=Nat.mul_le_mul hp (by omega)
   have hjn:num (s.data.toList.take j) ||| 256 ^ j * b = num (s.data.toList.take (j + 1)):=by
    rw [Nat.or_comm,nat_join (8 * j) (256 ^ j * b) _ (by rw [pow256];exact Nat.mul_mod_right _ _) (by rw [← pow256];exact hl),hst2]
    omega
   have hor:=i64_or_nat (num (s.data.toList.take j)) (256 ^ j * b) (by omega) (by omega)
   rw [hjn] at hor
   have hshl:(b:Int) * 2 ^ (8 * (j:Int)).toNat = ((256 ^ j * b:Nat):Int):=by
    rw [show (8 * (j:Int)).toNat = 8 * j by omega,Nat.mul_comm (256 ^ j),Int.natCast_mul,pow256,Int.natCast_pow];rfl
   have hwr:IntKind.i64.wrap ((256 ^ j * b:Nat):Int) = ((256 ^ j * b:Nat):Int):=i64_wrap (by omega) (by omega)
   obtain ⟨y,hy⟩:∃ y,y = num (s.data.toList.take (j + 1)):=⟨_,rfl⟩
   rw [← hy] at hor
   have HY:=Lib.hid hy
   generalize num (s.data.toList.take j) = x at hor
   generalize 256 ^ j * b = m at hor hshl hwr
   clear hstep hst2 hl hbv hjn hp hm hlen hy
   go_wp2_with fail
   go_roundw
   case rel=>exact ⟨j + 1,by omega,by go_num,by rw [HY.out],trivial⟩
   case measure=>simp [intOf];omega
  ·obtain rfl:j = s.size:=by omega
   have hc:s.data.toList.take s.size = s.data.toList:=List.take_of_length_le (by rw [Array.length_toList];exact Nat.le_refl _)
   rw [hc]
   clear hc
   go_wp2_with fail
   go_ret
   exact ⟨rfl,rfl⟩
end Su
end Go.Proofs.YtbkanoblcojdfaaGreat
