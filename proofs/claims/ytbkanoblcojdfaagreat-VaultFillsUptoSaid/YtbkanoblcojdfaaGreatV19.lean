/- Parts of the proof, joined: ChRow, ChSame, ChBook, ChRef, ChRef2, ChRef3, ChRef4, ChRef5, ChRef6, RcBackW, TrRow, ShRow; their conditions stand with each. -/
import Derived.Deep.SlicePairs
import Derived.Deep.QuietTactic
import Derived.BigQuiet
import Derived.Test.YtbkanoblcojdfaaGreatV0
import Derived.Test.YtbkanoblcojdfaaGreatV2
import Derived.Test.YtbkanoblcojdfaaGreatV3
import Derived.Test.YtbkanoblcojdfaaGreatV4
import Derived.Test.YtbkanoblcojdfaaGreatV5
import Derived.Test.YtbkanoblcojdfaaGreatV13

set_option maxRecDepth 20000
set_option maxHeartbeats 8000000
namespace Go.Proofs.YtbkanoblcojdfaaGreat
namespace Ch
open Go.ChangeShapes Go.WideShapes Go.ChangeAt Go.RowKit Go.Joins Go.Deep Bk
def vcs (x:Vr):List Value:=[.int .i64 x.ts,.string x.shard,.bool x.dead]
def vrV (l:List Vr):List Value:=l.flatMap vcs
def VrsAt (w:World) (A:Option Addr) (l:List Vr):Prop :=
 0 < l.length → ∃ ad,A = some ad ∧ ad.block < w.heap.size ∧ ∀ i (h:i < l.length),w.cell? (ad.add (i * 3)) = some (.int .i64 l[i].ts) ∧ w.cell? (ad.add (i * 3 + 1)) = some (.string l[i].shard) ∧ w.cell? (ad.add (i * 3 + 2)) = some (.bool l[i].dead)
theorem VrsAt.below {w w':World} {A:Option Addr} {l:List Vr} (h:VrsAt w A l) (hb:Below w.heap.size w w'):VrsAt w' A l:=fun hp=>by
 obtain ⟨ad,h1,h2,h3⟩:=h hp
 exact ⟨ad,h1,Nat.lt_of_lt_of_le h2 hb.size,fun i hi=>⟨(cell_kept hb _ (by rw [st_block];exact h2)).trans (h3 i hi).1,(cell_kept hb _ (by rw [st_block];exact h2)).trans (h3 i hi).2.1,(cell_kept hb _ (by rw [st_block];exact h2)).trans (h3 i hi).2.2⟩⟩
structure VrRng (x:Vr):Prop where
 ts:-9223372036854775808 ≤ x.ts ∧ x.ts ≤ 9223372036854775807
 shard:x.shard.size ≤ reachBytes
section
variable {H:Type} {enc:TypeId × Value → H} {W:World}
theorem weights_at {e t:TypeId} {d:DataW H} {ds sp:List (DataW H)} (ht:Tryz.prog.underlying t = some (.slice e)) (hm:d ∈ ds) (hwt:∀ k ∈ (DataW.slice ds sp).weights Tryz.prog t,k ≤ reachBytes):∀ k ∈ d.weights Tryz.prog e,k ≤ reachBytes:=fun k hk=>hwt k (by
 simp only [DataW.weights,ht,List.mem_cons,List.mem_append]
 refine .inr (.inl ?_)
 have:∀ (l:List (DataW H)),d ∈ l → k ∈ DataW.weightsAll Tryz.prog e l:=by
  intro l
  induction l with
  | nil=>intro h;simp at h
  | cons x r ih =>
   intro h
   show k ∈ x.weights Tryz.prog e ++ DataW.weightsAll Tryz.prog e r
   rw [List.mem_append]
   rcases List.mem_cons.1 h with rfl | h
   ·exact .inl hk
   ·exact .inr (ih h)
 exact this _ hm)
end
theorem Tryz.infoVer:(Tryz.prog.info? 77).map (fun i=>(i.zero,i.size,i.bytes)) = some (some (.agg #[.int .i64 0,.string ⟨#[]⟩,.bool false]),3,32):=by kernel_rfl
theorem vrV_len (l:List Vr):(vrV l).length = l.length * 3:=by
 induction l with
 | nil=>rfl
 | cons x r ih=>unfold vrV at ih ⊢;rw [List.flatMap_cons,List.length_append,ih,List.length_cons];show 3 + _ = _;omega
theorem vrV_at:∀ (l:List Vr) (i:Nat) (h:i < l.length),(vrV l)[i * 3]? = some (.int .i64 l[i].ts) ∧ (vrV l)[i * 3 + 1]? = some (.string l[i].shard) ∧ (vrV l)[i * 3 + 2]? = some (.bool l[i].dead)
 | [],_,h=>absurd h (by simp)
 | x :: r,0,_=>⟨rfl,rfl,rfl⟩
 | x :: r,i + 1,h=>by
  have h3:(vcs x).length = 3:=rfl
  obtain ⟨h0,h1,h2⟩:=vrV_at r i (by simpa using h)
  unfold vrV at h0 h1 h2 ⊢
  rw [List.flatMap_cons,List.getElem?_append_right (by omega),List.getElem?_append_right (by omega),List.getElem?_append_right (by omega),h3]
  rw [show (i + 1) * 3 - 3 = i * 3 by omega,show (i + 1) * 3 + 1 - 3 = i * 3 + 1 by omega,show (i + 1) * 3 + 2 - 3 = i * 3 + 2 by omega]
  exact ⟨h0,h1,h2⟩
theorem vrV_app (a b:List Vr):vrV (a ++ b) = vrV a ++ vrV b:=by unfold vrV;rw [List.flatMap_append]
theorem vrV_one (l:List Vr):∀ u ∈ vrV l,u.oneCell' = true:=fun u hu=>by
 obtain ⟨x,_,hx⟩:=List.mem_flatMap.1 hu
 unfold vcs at hx
 simp only [List.mem_cons,List.not_mem_nil,or_false] at hx
 rcases hx with rfl | rfl | rfl <;> rfl
theorem VrsAt.news {w:World} {ad:Addr} {l:List Vr} (h:VrsAt w (some ad) l):∀ j u,(vrV l)[j]? = some u → w.cell? (ad.add j) = some u:=fun j u hu=>by
 have hj:j < l.length * 3:=by
  have:=(List.getElem?_eq_some_iff.1 hu).1
  rwa [vrV_len] at this
 obtain ⟨a',e,_,h3⟩:=h (by omega)
 obtain rfl:=Option.some.inj e
 obtain ⟨y0,y1,y2⟩:=vrV_at l (j / 3) (by omega)
 obtain ⟨x0,x1,x2⟩:=h3 (j / 3) (by omega)
 have hc:j % 3 = 0 ∨ j % 3 = 1 ∨ j % 3 = 2:=by omega
 rcases hc with r | r | r
 ·have ej:j = j / 3 * 3:=by omega
  rw [← ej] at y0 x0
  rw [y0] at hu;rw [x0];exact hu
 ·have ej:j = j / 3 * 3 + 1:=by omega
  rw [← ej] at y1 x1
  rw [y1] at hu;rw [x1];exact hu
 ·have ej:j = j / 3 * 3 + 2:=by omega
  rw [← ej] at y2 x2
  rw [y2] at hu;rw [x2];exact hu
end Ch
end Go.Proofs.YtbkanoblcojdfaaGreat
namespace Go.Proofs.YtbkanoblcojdfaaGreat
namespace Ch
open Go.RowKit Bk
attribute [local go_sem ↓] Go.wp_at_zero Go.wp_at_succ
attribute [local go_sem] floatUpon pick
theorem add_field (a:Addr) (n k:Nat) (hk:0 < k):(⟨(a.add n).block,(a.add n).off + k,none⟩:Addr) = a.add (n + k):=by
 unfold Addr.add
 by_cases h:n = 0
 ·rw [if_pos h,if_neg (by omega),h,Nat.zero_add]
 ·rw [if_neg h,if_neg (by omega)]
  simp only [Nat.add_assoc]
theorem run_append_opt3 {P:Program} (w:World) (base:Nat) (t ty e:TypeId) (i:TypeInfo) (z:Value) (bytes:Nat) (ht:P.underlying t = some (.slice e)) (hi:P.info? e = some i) (hz:i.zero = some z)
  (hsize:i.size = 3) (hby:i.bytes = bytes) (hzs:z.cells.size = 3) (v:Value) (n:Nat) (xs:List Value) (hown:w.ownsRow base e 3 v n xs)
  (A:Option Addr) (m c:Nat) (news:List Value) (hl:news.length = m * 3) (hA:A = none → m = 0 ∧ c = 0) (hnews:∀ ad,A = some ad → ∀ j u,news[j]? = some u → w.cell? (ad.add j) = some u) (h1:∀ u ∈ news,u.oneCell' = true)
  (h63:n + m ≤ maxLen) (hbytes:(n + m) * bytes ≤ 140737488355328) (hbase:base ≤ w.heap.size) :
  ∃ v' w',(Builtin.append_ #[t,t] ty #[v,.slice A m c]).run P w = .ok v' w' ∧ w'.ownsRow base e 3 v' (n + m) (xs ++ news) ∧ w.grownBy w' v.ownBlock ∧ (v'.ownBlock = v.ownBlock ∨ v'.ownBlock = some w.heap.size):=by
 cases A with
 | none =>
  obtain ⟨rfl,rfl⟩:=hA rfl
  obtain rfl:news = []:=List.eq_nil_of_length_eq_zero (by omega)
  exact ⟨v,w,run_append_owned_none (P:=P) w base t ty e i 3 ht hi _ _ _ hown,by rw [List.append_nil];exact hown,⟨rfl,rfl,rfl,Nat.le_refl _,fun _ _ _=>rfl⟩,.inl rfl⟩
 | some ad =>
  obtain ⟨v',w',hr,h2,h3,_,h5⟩:=run_append_own_at (P:=P) w base t ty e i z 3 bytes ht hi hz hsize hby hzs (by omega) v n xs hown ad m c news hl (hnews ad rfl) h1 h63 hbytes hbase
  exact ⟨v',w',hr,h2,h3,h5⟩
theorem wpList_append_opt3 {P:Program} {w:World} {ops:Array Oper} {rest:List Oper} {o:Oper} {a:Act} {Q:Exit → Act → World → Prop} (hgd:o.guard = none) (s x:Operand) (t:TypeId)
  (ho:o.op = .call { callee:=.builtin .append,args:=#[s,x],argTypes:=#[t,t] })
  (base:Nat) (e:TypeId) (i:TypeInfo) (z:Value) (bytes:Nat) (ht:P.underlying t = some (.slice e)) (hi:P.info? e = some i) (hz:i.zero = some z)
  (hsize:i.size = 3) (hby:i.bytes = bytes) (hzs:z.cells.size = 3) (v:Value) (n:Nat) (xs:List Value) (hs:a.eval s = v) (hown:w.ownsRow base e 3 v n xs)
  (A:Option Addr) (m c:Nat) (news:List Value) (hx:a.eval x = .slice A m c) (hl:news.length = m * 3) (hA:A = none → m = 0 ∧ c = 0) (hnews:∀ ad,A = some ad → ∀ j u,news[j]? = some u → w.cell? (ad.add j) = some u) (h1:∀ u ∈ news,u.oneCell' = true)
  (h63:n + m ≤ maxLen) (hbytes:(n + m) * bytes ≤ 140737488355328) (hbase:base ≤ w.heap.size)
  (h:∀ v' w',w'.ownsRow base e 3 v' (n + m) (xs ++ news) → w.grownBy w' v.ownBlock → (v'.ownBlock = v.ownBlock ∨ v'.ownBlock = some w.heap.size) → wpList P ops Q rest (a.put o.dst v') w') :
  wpList P ops Q (o :: rest) a w:=by
 refine wpList_plain hgd fun K hK=>?_
 obtain ⟨v',w',hr,h2,h3,h5⟩:=run_append_opt3 (P:=P) w base t o.type e i z bytes ht hi hz hsize hby hzs v n xs hown A m c news hl hA hnews h1 h63 hbytes hbase
 unfold Oper.wp execOp
 simp only [ho,resolve,invoke,builtin,Sem.run_bind,Sem.run_pure,Result.andThen_ok,List.map_toArray,List.map_cons,List.map_nil,hs,hx,hr]
 exact hK _ _ (h v' w' h2 h3 h5)
theorem new_cells (w:World) (x:Vr) (t:TypeId):∀ j u,(vcs x)[j]? = some u → (w.alloc (.cells (vcs x).toArray t)).cell? ((⟨w.heap.size,0,none⟩:Addr).add j) = some u:=fun j u hj=>by
 rw [addr_head]
 exact blk_cell (blk1 w _).2 (by rw [List.getElem?_toArray];exact hj)
theorem vrs_own {w:World} {H n:Nat} {v:Value} {e:TypeId} {l:List Vr} (h:w.ownsRow H e 3 v n (vrV l)) (hl:n = l.length):∃ (A:Option Addr) (c:Nat),v = .slice A n c ∧ VrsAt w A l ∧ n ≤ c ∧ c ≤ maxLen ∧ (A = none → n = 0 ∧ c = 0):=by
 rcases h.2 with ⟨rfl,rfl⟩ | ⟨g,cap,cur,rfl,_,hg,h1,h2,hsz,htk⟩
 ·exact ⟨none,0,rfl,fun hp=>by omega,Nat.le_refl _,Nat.zero_le _,fun _=>⟨rfl,rfl⟩⟩
 ·refine ⟨_,cap,rfl,fun _=>⟨_,rfl,(Array.getElem?_eq_some_iff.1 hg).1,fun i hi=>?_⟩,h1,h2,fun e=>by cases e⟩
  obtain ⟨x0,x1,x2⟩:=vrV_at l i hi
  have hlen:(vrV l).length = n * 3:=by rw [vrV_len,hl]
  have hc:∀ j u,(vrV l)[j]? = some u → w.cell? ((⟨g,0,none⟩:Addr).add j) = some u:=fun j u hu=>by
   rw [addr_head]
   refine blk_cell hg ?_
   have hj:=(List.getElem?_eq_some_iff.1 hu).1
   rw [← htk,List.getElem?_take_of_lt (by omega)] at hu
   rw [← Array.getElem?_toList];exact hu
  exact ⟨hc _ _ x0,hc _ _ x1,hc _ _ x2⟩
theorem below_drew (B:Nat) (W:World) (n:Nat):Below B W (W.drewN n):=⟨rfl,rfl,rfl,Nat.le_refl _,fun _ _=>rfl⟩
def prevT (l:List Vr) (j:Nat):Option Int:=match j with | 0=>none | k + 1=>(l[k]?).map (·.ts)
theorem chk_step {l:List Vr} {j:Nat} (h:j < l.length):chkL (prevT l j) (l.drop j) j = if bad (prevT l j) l[j] = 0 then chkL (prevT l (j + 1)) (l.drop (j + 1)) (j + 1) else ((j:Int),bad (prevT l j) l[j]):=by
 rw [List.drop_eq_getElem_cons h]
 show (if bad (prevT l j) l[j] = 0 then chkL (some l[j].ts) (l.drop (j + 1)) (j + 1) else _) = _
 have:prevT l (j + 1) = some l[j].ts:=by show (l[j]?).map _ = _;rw [List.getElem?_eq_getElem h];rfl
 rw [this]
theorem bad_1 {p:Option Int} {x:Vr} (h:x.ts < 1 ∨ 1125899906842624 < x.ts):bad p x = 1:=by unfold bad;rw [if_pos h]
theorem bad_2 {p:Option Int} {x:Vr} (h1:¬ x.ts < 1) (h1':¬ 1125899906842624 < x.ts) (h2:2052 < x.shard.size):bad p x = 2:=by unfold bad;rw [if_neg (by omega),if_pos h2]
theorem bad_4 {p:Option Int} {x:Vr} (h1:¬ x.ts < 1) (h1':¬ 1125899906842624 < x.ts) (h2:¬ 2052 < x.shard.size) (h3:x.dead = true ∧ x.shard ≠ ⟨#[]⟩):bad p x = 4:=by unfold bad;rw [if_neg (by omega),if_neg h2,if_pos h3]
theorem bad_go {p:Option Int} {t:Int} {s:ByteArray} {d:Bool} (h:¬ t < 1 ∧ ¬ 1125899906842624 < t ∧ ¬ 2052 < s.size ∧ ¬ (d = true ∧ s ≠ ⟨#[]⟩)) (h4:∀ q,p = some q → q < t):bad p ⟨t,s,d⟩ = 0:=bad_ok.2 ⟨⟨by simp only;omega,by simp only;omega,by simp only;omega,h.2.2.2⟩,h4⟩
theorem low_at {l:List Vr} {t:Int}:∀ {n:Nat},n ≤ l.length → (∀ i (h:i < l.length),i < n → l[i].ts ≤ t) → (∀ h:n < l.length,t < l[n].ts) → lowL l t = l.take n:=by
 induction l with
 | nil=>intro n _ _ _;simp [lowL]
 | cons x r ih =>
  intro n hn h1 h2
  cases n with
  | zero =>
   have:=h2 (by simp)
   unfold lowL
   rw [List.takeWhile_cons_of_neg (by simp;exact this),List.take_zero]
  | succ k =>
   have hx:=h1 0 (by simp) (by omega)
   unfold lowL at ih ⊢
   rw [List.takeWhile_cons_of_pos (by simpa using hx),List.take_succ_cons,ih (n:=k) (by simpa using hn) (fun i h hi=>h1 (i + 1) (by simpa using h) (by omega)) (fun h=>h2 (by simpa using h))]
theorem place_at {l:List Vr} {t:Int} {n:Nat} (hn:n ≤ l.length) (h1:∀ i (h:i < l.length),i < n → l[i].ts ≤ t) (h2:∀ h:n < l.length,t < l[n].ts):placeN l t = n:=by
 unfold placeN
 rw [low_at hn h1 h2,List.length_take]
 omega
theorem lastT_at {l:List Vr} (h:0 < l.length):lastT l = (l[l.length - 1]'(by omega)).ts:=by
 unfold lastT
 rw [List.getLast?_eq_getElem?,List.getElem?_eq_getElem (by omega)]
theorem low_take (l:List Vr) (t:Int):lowL l t = l.take (placeN l t):=List.prefix_iff_eq_take.1 (List.takeWhile_prefix _)
theorem place_le (l:List Vr) (t:Int):placeN l t ≤ l.length:=(List.takeWhile_prefix _).length_le
theorem low_last {l:List Vr} {t:Int} {k:Nat} (h:placeN l t = k + 1):∃ hk:k < l.length,(lowL l t).getLast? = some l[k]:=by
 have hl:=place_le l t
 refine ⟨by omega,?_⟩
 rw [low_take,h,List.getLast?_eq_getElem?,List.length_take,List.getElem?_take,Nat.min_eq_left (by omega),if_pos (by omega),Nat.add_sub_cancel,List.getElem?_eq_getElem (by omega)]
theorem low_none {l:List Vr} {t:Int} (h:placeN l t = 0):lowL l t = []:=by rw [low_take,h,List.take_zero]
def set3 (W:World) (R:Nat) (v0 v1 v2:Value):World:=((W.setCell ⟨R,0,none⟩ v0).setCell ⟨R,1,none⟩ v1).setCell ⟨R,2,none⟩ v2
theorem set3_cel {W:World} {R:Nat} {t:TypeId} {a b c v0 v1 v2:Value} (h:Cel W R t [a,b,c]):Cel (set3 W R v0 v1 v2) R t [v0,v1,v2]:=((h.set (i:=0)).set (i:=1)).set (i:=2)
theorem set3_below {W:World} {R B:Nat} {w:World} {v0 v1 v2:Value} (h:Below B w W) (hR:B ≤ R):Below B w (set3 W R v0 v1 v2):=((h.setCell (p:=⟨R,0,none⟩) hR v0).setCell (p:=⟨R,1,none⟩) hR v1).setCell (p:=⟨R,2,none⟩) hR v2
theorem go_zero {l:List Vr} {t:Int} (h:placeN l t = 0):goN l t = 0:=by unfold goN;rw [low_none h];rfl
theorem go_succ {l:List Vr} {t:Int} {k:Nat} (h:placeN l t = k + 1) (hk:k < l.length):goN l t = if l[k].dead then k + 1 else k:=by
 obtain ⟨hk',hl⟩:=low_last h
 unfold goN
 rw [hl,h]
 rfl
theorem VrsAt.drop {w:World} {ad:Addr} {l:List Vr} (h:VrsAt w (some ad) l) (n:Nat):VrsAt w (some (ad.add (n * 3))) (l.drop n):=fun hp=>by
 rw [List.length_drop] at hp
 obtain ⟨a',e,h2,h3⟩:=h (by omega)
 obtain rfl:=Option.some.inj e
 refine ⟨_,rfl,by rw [st_block];exact h2,fun i hi=>?_⟩
 rw [List.length_drop] at hi
 have:=h3 (n + i) (by omega)
 rw [List.getElem_drop,Go.Deep.add_add,Go.Deep.add_add,Go.Deep.add_add]
 rw [show n * 3 + i * 3 = (n + i) * 3 by omega,show n * 3 + (i * 3 + 1) = (n + i) * 3 + 1 by omega,show n * 3 + (i * 3 + 2) = (n + i) * 3 + 2 by omega]
 exact this
theorem drop_off (w:World) (ad:Addr) (l:List Vr) (n:Nat) (h:VrsAt w (some ad) l):VrsAt w (some (ad.add (n * 3))) (l.drop n):=h.drop n
theorem drop_none {w:World} {A:Option Addr} {l:List Vr} {n:Nat} (h:l.length ≤ n):VrsAt w A (l.drop n):=fun hp=>by rw [List.length_drop] at hp;omega
theorem VrsAt.take {w:World} {A:Option Addr} {l:List Vr} (h:VrsAt w A l) (n:Nat):VrsAt w A (l.take n):=fun hp=>by
 rw [List.length_take] at hp
 obtain ⟨ad,e,h2,h3⟩:=h (by omega)
 refine ⟨ad,e,h2,fun i hi=>?_⟩
 rw [List.length_take] at hi
 rw [List.getElem_take]
 exact h3 i (by omega)
theorem slice_from (A:Option Addr) (m c n:Nat) (hn:n ≤ m) (hc:m ≤ c) (hnil:A = none → m = 0 ∧ c = 0):∃ (A':Option Addr) (c':Nat),
  (∀ W,(Instr.slice 92 (.slice A m c) (some (.int .i64 (n:Int))) none none).run Tryz.prog W = .ok (.slice A' (m - n) c') W) ∧
  (∀ W (l:List Vr),l.length = m → VrsAt W A l → VrsAt W A' (l.drop n)) ∧ (A' = none → m - n = 0 ∧ c' = 0) ∧ m - n ≤ c' ∧ c' ≤ c:=by
 obtain ⟨i1,hi',hz0',hz1',hz2'⟩:=info_parts Tryz.infoVer
 refine ⟨if c = n then A else A.map (·.add (n * 3)),c - n,fun W=>?_,fun W l hl h=>?_,fun h=>?_,by omega,by omega⟩
 ·have e:=run_slice_l (P:=Tryz.prog) W 92 A m c (by kernel_rfl) .i64 (n:Int) (by omega) (by omega)
  rw [e,show Tryz.prog.elem 92 = 77 by kernel_rfl]
  simp [sizeOf,typeInfo,hi',hz1',sliced]
 ·by_cases e:c = n
  ·exact drop_none (by omega)
  ·rw [if_neg e]
   cases A with
   | none=>exact drop_none (by have:=(hnil rfl).1;omega)
   | some ad=>exact drop_off W ad l n h
 ·by_cases e:c = n
  ·rw [if_pos e] at h;have:=hnil h;omega
  ·rw [if_neg e] at h
   cases A with
   | none=>have:=hnil rfl;omega
   | some ad=>simp at h
theorem slice_to (A:Option Addr) (m c n:Nat) (hn:n ≤ c):∀ W,(Instr.slice 92 (.slice A m c) none (some (.int .i64 (n:Int))) none).run Tryz.prog W = .ok (.slice A n c) W:=fun W=>by
 obtain ⟨i1,hi',hz0',hz1',hz2'⟩:=info_parts Tryz.infoVer
 have e:=run_slice_h (P:=Tryz.prog) W 92 A m c (by kernel_rfl) .i64 (n:Int) (by omega) (by omega)
 rw [e,show Tryz.prog.elem 92 = 77 by kernel_rfl]
 have ha:∀ a:Addr,a.add 0 = a:=fun a=>by unfold Addr.add;rw [if_pos rfl]
 by_cases h:c = 0
 ·simp [sizeOf,typeInfo,hi',sliced,h]
 ·cases A with
  | none=>simp [sizeOf,typeInfo,hi',sliced]
  | some a=>simp [sizeOf,typeInfo,hi',sliced,ha]
theorem own_base {w:World} {b b':Nat} {e:TypeId} {k:Nat} {v:Value} {n:Nat} {xs:List Value} (h:w.ownsRow b e k v n xs) (hb:b' ≤ b):w.ownsRow b' e k v n xs:=by
 obtain ⟨h1,h2⟩:=h
 refine ⟨h1,?_⟩
 rcases h2 with h2 | ⟨g,cap,cur,h2,h3,h4⟩
 ·exact .inl h2
 ·exact .inr ⟨g,cap,cur,h2,Nat.le_trans hb h3,h4⟩
def RowAns (w:World) (r:List Vr × Int) (e:Ending) (w':World):Prop :=
 ∃ v:Value,e = .returned (.tuple #[v,.int .i64 r.2]) ∧ w'.ownsRow w.heap.size 77 3 v r.1.length (vrV r.1) ∧ Below w.heap.size w w'
theorem one_at (W:World) (x:Vr):VrsAt (W.alloc (.cells (vcs x).toArray 77)) (some ⟨W.heap.size,0,none⟩) [x]:=fun _=>by
 refine ⟨_,rfl,by simp,fun i hi=>?_⟩
 obtain rfl:i = 0:=by simpa using hi
 have h:=new_cells W x 77
 exact ⟨h 0 _ rfl,h 1 _ rfl,h 2 _ rfl⟩
theorem row_ans_none {w W:World} {r:List Vr × Int} {e:Int} (h:r = ([],e)) (hb:Below w.heap.size w W):RowAns w r (.returned (.tuple #[.slice none 0 0,.int .i64 e])) W:=by
 subst h
 exact ⟨_,rfl,World.ownsRow_nil _ _ _ _,hb⟩
end Ch
end Go.Proofs.YtbkanoblcojdfaaGreat
namespace Go.Proofs.YtbkanoblcojdfaaGreat
namespace Rc
open Go.RowKit Bk Lt
attribute [local go_sem ↓] Go.wp_at_zero Go.wp_at_succ
attribute [local go_sem] floatUpon pick
end Rc
end Go.Proofs.YtbkanoblcojdfaaGreat
namespace Go.Proofs.YtbkanoblcojdfaaGreat
namespace Tr
open Go.ChangeShapes Go.WideShapes Go.ChangeAt Go.RowKit Go.Joins Go.Deep Bk Lt Rc
structure RI where
 l:Rec
 A:Option Addr
 B:Option Addr
 c:Nat
 d:Nat
instance:Inhabited RI:=⟨⟨noRec,none,none,0,0⟩⟩
def rcs (x:RI):List Value:=[.int .i64 x.l.kind,.int .i64 x.l.txn,.int .i64 x.l.ts,.int .i64 x.l.coord,.string x.l.key,.string x.l.text,.bool x.l.dead,.slice x.A x.l.keys.length x.c,.slice x.B x.l.ws.length x.d]
def RecsAt (w:World) (A:Option Addr) (L:List RI):Prop :=
 0 < L.length → ∃ ad,A = some ad ∧ ad.block < w.heap.size ∧ ∀ i (h:i < L.length) (j:Nat) (v:Value),(rcs L[i])[j]? = some v → w.cell? (ad.add (i * 9 + j)) = some v
def RecsOf (w:World) (v:Value) (L:List RI):Prop :=
 ∃ (A:Option Addr) (c:Nat),v = .slice A L.length c ∧ RecsAt w A L ∧ L.length * 16 ≤ reachBytes ∧ (∀ x ∈ L,RecVal w x.A x.B x.c x.d x.l)
section
variable {H:Type} {enc:TypeId × Value → H} {W:World}
theorem weights_at {e t:TypeId} {d:DataW H} {ds sp:List (DataW H)} (ht:Tryz.prog.underlying t = some (.slice e)) (hm:d ∈ ds) (hwt:∀ k ∈ (DataW.slice ds sp).weights Tryz.prog t,k ≤ reachBytes):∀ k ∈ d.weights Tryz.prog e,k ≤ reachBytes:=fun k hk=>hwt k (by
 simp only [DataW.weights,ht,List.mem_cons,List.mem_append]
 refine .inr (.inl ?_)
 have:∀ (l:List (DataW H)),d ∈ l → k ∈ DataW.weightsAll Tryz.prog e l:=by
  intro l
  induction l with
  | nil=>intro h;simp at h
  | cons x r ih =>
   intro h
   show k ∈ x.weights Tryz.prog e ++ DataW.weightsAll Tryz.prog e r
   rw [List.mem_append]
   rcases List.mem_cons.1 h with rfl | h
   ·exact .inl hk
   ·exact .inr (ih h)
 exact this _ hm)
theorem field_recs {t:TypeId} {v:Value} {fuel:Nat} {y:DataW H × List MemPlace} (ht:Tryz.prog.underlying t = some (.slice 37)) (ce:Tryz.prog.cellsOf 37 = 9) (hb16:16 ≤ Tryz.prog.bytesOf 37)
  (hf:DataW.trod enc Tryz.prog W 0 (fun _=>true) true fuel t [v] = some y) (hwt:∀ k ∈ y.1.weights Tryz.prog t,k ≤ reachBytes) (hl:∀ x ∈ y.2,x.block < W.heap.size) :
  ∃ L,RecsOf W v L:=by
 rcases open_slice ht hf with ⟨hcs,_⟩ | ⟨a,len,cap,m,n,D,Pl,hcs,_,hl',hm,hmm,hx,hall⟩
 ·obtain rfl:v = .slice none 0 0:=by simpa using hcs
  exact ⟨[],none,0,rfl,fun h=>absurd h (by simp),by simp,by simp⟩
 ·obtain rfl:v = .slice (some a) len cap:=by simpa using hcs
  subst hx
  simp only [if_true] at hmm
  subst hmm
  have each:∀ i,i < len → ∃ q:RI,(∀ (j:Nat) (v:Value),(rcs q)[j]? = some v → W.cell? (a.add (i * 9 + j)) = some v) ∧ RecVal W q.A q.B q.c q.d q.l:=by
   intro i hi
   obtain ⟨cs',h1,h2⟩:=hall i (by omega)
   rw [ce] at h1
   obtain ⟨_,hlen,hcell⟩:=World.cells?_some h1
   have hwi:∀ k ∈ (D i).weights Tryz.prog 37,k ≤ reachBytes:=weights_at ht (List.mem_map.2 ⟨i,List.mem_range.2 hi,rfl⟩) hwt
   obtain ⟨xs,k,_,hxy,_,hxl,hff⟩:=DataW.trod_struct Tryz.underlying37 h2
   simp only [Prod.mk.injEq] at hxy
   rw [hxy.1] at hwi
   have hpl:∀ y ∈ xs,∀ x ∈ y.2,x.block < W.heap.size:=fun y hy x hx=>hl x (by
    refine List.mem_append_right _ (List.mem_flatMap.2 ⟨i,List.mem_range.2 (by omega),?_⟩)
    rw [hxy.2]
    exact List.mem_flatMap.2 ⟨y,hy,hx⟩)
   match xs,hxl,cs',hlen with
   | [y0,y1,y2,y3,y4,y5,y6,y7,y8],_,[v0,v1,v2,v3,v4,v5,v6,v7,v8],_ =>
    have g0:=hff 0 _ rfl
    have g1:=hff 1 _ rfl
    have g2:=hff 2 _ rfl
    have g3:=hff 3 _ rfl
    have g4:=hff 4 _ rfl
    have g5:=hff 5 _ rfl
    have g6:=hff 6 _ rfl
    have g7:=hff 7 _ rfl
    have g8:=hff 8 _ rfl
    simp at g0 g1 g2 g3 g4 g5 g6 g7 g8
    obtain ⟨kind,rfl,r0⟩:=field_int Tryz.underlying3 g0
    obtain ⟨txn,rfl,r1⟩:=field_int Tryz.underlying3 g1
    obtain ⟨ts',rfl,r2⟩:=field_int Tryz.underlying3 g2
    obtain ⟨coord,rfl,r3⟩:=field_int Tryz.underlying3 g3
    obtain ⟨key,rfl,r4⟩:=field_text Tryz.underlying9 g4 (agg_weights (i:=4) Tryz.underlying37 rfl rfl hwi)
    obtain ⟨text,rfl,r5⟩:=field_text Tryz.underlying9 g5 (agg_weights (i:=5) Tryz.underlying37 rfl rfl hwi)
    obtain ⟨dead,rfl⟩:=field_bool Tryz.underlying4 g6
    obtain ⟨A,c,K,rfl,a1,a2,a3,a4,a5,a6⟩:=field_texts Tryz.underlying23 Tryz.underlying9 (by kernel_rfl) (by kernel_rfl) g7 (agg_weights (i:=7) Tryz.underlying37 rfl rfl hwi) (hpl y7 (by simp))
    obtain ⟨B,d,M,rfl,b1,b2,b3,b4,b5,b6⟩:=field_writes40 Tryz.underlying35 Tryz.underlying45 (by kernel_rfl) (by kernel_rfl) Tryz.underlying9 Tryz.underlying9 Tryz.underlying4 (of_decide_eq_true (by kernel_rfl)) g8 (agg_weights (i:=8) Tryz.underlying37 rfl rfl hwi) (hpl y8 (by simp))
    refine ⟨⟨⟨kind,txn,ts',coord,key,text,dead,K,M⟩,A,B,c,d⟩,fun j v hv=>?_,⟨a1,b1,⟨⟨r0,r1,r2,r3,r4,r5,a2,b2,a5,b5⟩,a3,b3,a4,b4⟩,a6,b6⟩⟩
    have hj:j < 9:=(List.getElem?_eq_some_iff.1 hv).1
    have e:=hcell j hj
    rw [Lt.add_add] at e
    rw [e]
    exact hv
  obtain ⟨q,hq⟩:=choose_lt each
  have hL:((List.range len).map q).length = len:=by simp
  have hat:∀ i (h:i < ((List.range len).map q).length),((List.range len).map q)[i] = q i:=fun i h=>by simp
  have hs:=hwt ((((List.range len).map D).length + ((List.range (m - len)).map fun j=>D (len + j)).length) * Tryz.prog.bytesOf 37) (by simp [DataW.weights,ht])
  refine ⟨(List.range len).map q,some a,m,by rw [hL],fun hpos=>⟨a,rfl,?_,fun i hi j v hv=>?_⟩,?_,fun x hx=>?_⟩
  ·obtain ⟨b,off,spot⟩:=a
   rw [hL] at hpos
   exact hl (.cell b off) (List.mem_append_left _ (MemPlace.mem_row.2 ⟨0,by rw [ce];omega,by simp⟩))
  ·rw [hat i hi] at hv
   exact (hq i (by rw [hL] at hi;exact hi)).1 j v hv
  ·rw [hL]
   refine Nat.le_trans (Nat.mul_le_mul ?_ hb16) hs
   rw [List.length_map,List.length_range]
   omega
  ·obtain ⟨i,hi,rfl⟩:=List.mem_map.1 hx
   exact (hq i (List.mem_range.1 hi)).2
theorem open_recs {base:Nat} {v:Value} {d:DataW H} {p:List MemPlace} {ts:List TypeId} {ds:List (DataW H)} {j:Nat}
  (hsz:(DataW.weightsEach Tryz.prog ts ds).all (· ≤ reachBytes) = true) (hj:ts[j]? = some 22) (hd:ds[j]? = some d)
  (hv:Value.okWide Tryz.prog W .any base 22 v) (h:DataW.Trod enc Tryz.prog W 0 (fun _=>true) true 22 v d p) (hl:∀ x ∈ p,x.block < W.heap.size):∃ L,RecsOf W v L:=by
 obtain ⟨a0,len,cap,rfl⟩:=okWide_slice Tryz.underlying22 hv
 obtain ⟨fuel,hf⟩:=h
 exact field_recs Tryz.underlying22 (by kernel_rfl) (of_decide_eq_true (by kernel_rfl)) hf (arg_weights hsz hj hd) hl
end
theorem Tryz.infoRec:(Tryz.prog.info? 37).map (fun i=>(i.zero.map (·.cells.size),i.size,i.bytes)) = some (some 9,9,120):=by kernel_rfl
theorem info_rec:∃ i z,Tryz.prog.info? 37 = some i ∧ i.zero = some z ∧ z.cells.size = 9 ∧ i.size = 9 ∧ i.bytes = 120:=by
 have h:=Tryz.infoRec
 cases hi:Tryz.prog.info? 37 with
 | none=>rw [hi] at h;cases h
 | some i =>
  rw [hi] at h
  simp only [Option.map_some,Option.some.injEq,Prod.mk.injEq] at h
  obtain ⟨h1,h2,h3⟩:=h
  cases hz:i.zero with
  | none=>rw [hz] at h1;cases h1
  | some z =>
   rw [hz] at h1
   simp only [Option.map_some,Option.some.injEq] at h1
   exact ⟨i,z,rfl,hz,h1,h2,h3⟩
theorem flat_len (K:List RI):(K.flatMap rcs).length = K.length * 9:=by
 induction K with
 | nil=>rfl
 | cons x r ih=>rw [List.flatMap_cons,List.length_append,ih,List.length_cons];show 9 + _ = _;omega
theorem flat_at:∀ {K:List RI} {i:Nat} (h:i < K.length) {j:Nat} (_:j < 9),(K.flatMap rcs)[i * 9 + j]? = (rcs K[i])[j]?
 | [],_,h,_,_=>absurd h (by simp)
 | x :: r,0,_,j,hj=>by
  rw [List.flatMap_cons,List.getElem?_append_left (by show _ < 9;omega),Nat.zero_mul,Nat.zero_add];rfl
 | x :: r,i + 1,h,j,hj=>by
  have h9:(rcs x).length = 9:=rfl
  rw [List.flatMap_cons,List.getElem?_append_right (by rw [h9];omega),h9,show (i + 1) * 9 + j - 9 = i * 9 + j by omega,flat_at (K:=r) (by simpa using h) hj]
  rfl
theorem one_cells (x:RI):∀ u ∈ rcs x,u.oneCell' = true:=fun u hu=>by
 unfold rcs at hu
 simp only [List.mem_cons,List.not_mem_nil,or_false] at hu
 rcases hu with rfl | rfl | rfl | rfl | rfl | rfl | rfl | rfl | rfl <;> rfl
end Tr
end Go.Proofs.YtbkanoblcojdfaaGreat
namespace Go.Proofs.YtbkanoblcojdfaaGreat
namespace Sh
open Go.RowKit Bk Ch
structure Away (F:Nat → Prop) (w w':World):Prop where
 size:w.heap.size ≤ w'.heap.size
 block:∀ k,k < w.heap.size → ¬ F k → w'.heap[k]? = w.heap[k]?
theorem Away.refl (F:Nat → Prop) (w:World):Away F w w:=⟨Nat.le_refl _,fun _ _ _=>rfl⟩
theorem Away.of {F:Nat → Prop} {w w':World} (h:Below w.heap.size w w'):Away F w w':=⟨h.size,fun k hk _=>h.block k hk⟩
theorem Away.trans {F:Nat → Prop} {a b c:World} (h:Away F a b) (k:Away F b c):Away F a c :=
 ⟨Nat.le_trans h.size k.size,fun i hi hn=>(k.block i (Nat.lt_of_lt_of_le hi h.size) hn).trans (h.block i hi hn)⟩
theorem Away.cell {F:Nat → Prop} {w w':World} (h:Away F w w') (a:Addr) (ha:a.block < w.heap.size) (hF:¬ F a.block):w'.cell? a = w.cell? a:=by
 unfold World.cell?
 rw [h.block a.block ha hF]
def RowF (W:World) (F:Nat → Prop) (A:Option Addr) (cs:List Value):Prop :=
 0 < cs.length → ∃ ad,A = some ad ∧ ad.block < W.heap.size ∧ ¬ F ad.block ∧ ∀ (j:Nat) (v:Value),cs[j]? = some v → W.cell? (ad.add j) = some v
theorem RowF.away {W W':World} {F:Nat → Prop} {A:Option Addr} {cs:List Value} (h:RowF W F A cs) (k:Away F W W'):RowF W' F A cs:=fun hp=>by
 obtain ⟨ad,e,h1,h2,h3⟩:=h hp
 exact ⟨ad,e,Nat.lt_of_lt_of_le h1 k.size,h2,fun j v hv=>(k.cell _ (by rw [st_block];exact h1) (by rw [st_block];exact h2)).trans (h3 j v hv)⟩
theorem RowF.below {W W':World} {F:Nat → Prop} {A:Option Addr} {cs:List Value} (h:RowF W F A cs) (k:Below W.heap.size W W'):RowF W' F A cs:=h.away (Away.of k)
theorem RowF.turn {W:World} {F F':Nat → Prop} {A:Option Addr} {cs:List Value} (h:RowF W F A cs) (hF:∀ k,F' k → F k ∨ W.heap.size ≤ k):RowF W F' A cs:=fun hp=>by
 obtain ⟨ad,e,h1,h2,h3⟩:=h hp
 exact ⟨ad,e,h1,fun hf=>(hF _ hf).elim h2 (fun h=>by omega),h3⟩
theorem RowF.news {W:World} {F:Nat → Prop} {ad:Addr} {cs:List Value} (h:RowF W F (some ad) cs):∀ j u,cs[j]? = some u → W.cell? (ad.add j) = some u:=fun j u hu=>by
 obtain ⟨a',e,_,_,h3⟩:=h (Nat.lt_of_le_of_lt (Nat.zero_le _) (List.getElem?_eq_some_iff.1 hu).1)
 obtain rfl:=Option.some.inj e
 exact h3 j u hu
theorem own_rowF {W:World} {F:Nat → Prop} {H n sz:Nat} {v:Value} {e:TypeId} {cs:List Value} (h:W.ownsRow H e sz v n cs) (hl:cs.length = n * sz) (hF:∀ k,F k → k < H):∃ (A:Option Addr) (c:Nat),v = .slice A n c ∧ RowF W F A cs ∧ n ≤ c ∧ c ≤ maxLen ∧ (A = none → n = 0 ∧ c = 0):=by
 rcases h.2 with ⟨rfl,rfl⟩ | ⟨g,cap,cur,rfl,hH,hg,h1,h2,hsz,htk⟩
 ·exact ⟨none,0,rfl,fun hp=>by rw [hl] at hp;simp at hp,Nat.le_refl _,Nat.zero_le _,fun _=>⟨rfl,rfl⟩⟩
 ·refine ⟨_,cap,rfl,fun _=>⟨_,rfl,(Array.getElem?_eq_some_iff.1 hg).1,fun hf=>by have:=hF _ hf;simp only at this;omega,fun j u hu=>?_⟩,h1,h2,fun e=>by cases e⟩
  rw [addr_head]
  refine blk_cell hg ?_
  have hj:=(List.getElem?_eq_some_iff.1 hu).1
  rw [← htk,List.getElem?_take_of_lt (by omega)] at hu
  rw [← Array.getElem?_toList];exact hu
theorem flatN_len {α:Type} {f:α → List Value} {sz:Nat} (hf:∀ x,(f x).length = sz) (L:List α):(L.flatMap f).length = L.length * sz:=by
 induction L with
 | nil=>simp
 | cons x r ih=>rw [List.flatMap_cons,List.length_append,ih,hf,List.length_cons,Nat.succ_mul];omega
theorem flatN_at {α:Type} {f:α → List Value} {sz:Nat} (hf:∀ x,(f x).length = sz):∀ {L:List α} {i:Nat} (h:i < L.length) {j:Nat} (_:j < sz),(L.flatMap f)[i * sz + j]? = (f L[i])[j]?
 | [],_,h,_,_=>absurd h (by simp)
 | x :: r,0,_,j,hj=>by
  rw [List.flatMap_cons,List.getElem?_append_left (by rw [hf];omega),Nat.zero_mul,Nat.zero_add];rfl
 | x :: r,i + 1,h,j,hj=>by
  rw [List.flatMap_cons,List.getElem?_append_right (by rw [hf,Nat.succ_mul];omega),hf,show (i + 1) * sz + j - sz = i * sz + j by rw [Nat.succ_mul];omega,flatN_at hf (L:=r) (by simpa using h) hj]
  rfl
theorem flatN_drop {α:Type} {f:α → List Value} {sz:Nat} (hf:∀ x,(f x).length = sz):∀ (L:List α) (i:Nat),(L.flatMap f).drop (i * sz) = (L.drop i).flatMap f
 | [],i=>by simp
 | x :: r,0=>by simp
 | x :: r,i + 1=>by
  rw [List.flatMap_cons,List.drop_succ_cons,← flatN_drop hf r i,show (i + 1) * sz = (f x).length + i * sz by rw [hf,Nat.succ_mul];omega,List.drop_append,Nat.add_sub_cancel_left,List.drop_of_length_le (by omega),List.nil_append]
theorem RowF.at {α:Type} {f:α → List Value} {sz:Nat} {W:World} {F:Nat → Prop} {A:Option Addr} {L:List α} (h:RowF W F A (L.flatMap f)) (hf:∀ x,(f x).length = sz) (hz:0 < sz) {i:Nat} (hi:i < L.length):∃ ad,A = some ad ∧ ad.block < W.heap.size ∧ ¬ F ad.block ∧ ∀ j v,(f L[i])[j]? = some v → W.cell? (ad.add (i * sz + j)) = some v:=by
 obtain ⟨ad,e,h1,h2,h3⟩:=h (by rw [flatN_len hf];exact Nat.mul_pos (by omega) hz)
 exact ⟨ad,e,h1,h2,fun j v hv=>h3 _ _ (by
  have:=(List.getElem?_eq_some_iff.1 hv).1
  rw [hf] at this
  rw [flatN_at hf hi this];exact hv)⟩
theorem run_append_optN {P:Program} (w:World) (base:Nat) (t ty e:TypeId) (i:TypeInfo) (z:Value) (sz bytes:Nat) (ht:P.underlying t = some (.slice e)) (hi:P.info? e = some i) (hz:i.zero = some z)
  (hsize:i.size = sz) (hby:i.bytes = bytes) (hzs:z.cells.size = sz) (h0:0 < sz) (v:Value) (n:Nat) (xs:List Value) (hown:w.ownsRow base e sz v n xs)
  (A:Option Addr) (m c:Nat) (news:List Value) (hl:news.length = m * sz) (hA:A = none → m = 0 ∧ c = 0) (hnews:∀ ad,A = some ad → ∀ j u,news[j]? = some u → w.cell? (ad.add j) = some u) (h1:∀ u ∈ news,u.oneCell' = true)
  (h63:n + m ≤ maxLen) (hbytes:(n + m) * bytes ≤ 140737488355328) (hbase:base ≤ w.heap.size) :
  ∃ v' w',(Builtin.append_ #[t,t] ty #[v,.slice A m c]).run P w = .ok v' w' ∧ w'.ownsRow base e sz v' (n + m) (xs ++ news) ∧ w.grownBy w' v.ownBlock ∧ (v'.ownBlock = v.ownBlock ∨ v'.ownBlock = some w.heap.size):=by
 cases A with
 | none =>
  obtain ⟨rfl,rfl⟩:=hA rfl
  obtain rfl:news = []:=List.eq_nil_of_length_eq_zero (by omega)
  exact ⟨v,w,run_append_owned_none (P:=P) w base t ty e i sz ht hi _ _ _ hown,by rw [List.append_nil];exact hown,⟨rfl,rfl,rfl,Nat.le_refl _,fun _ _ _=>rfl⟩,.inl rfl⟩
 | some ad =>
  obtain ⟨v',w',hr,h2,h3,_,h5⟩:=run_append_own_at (P:=P) w base t ty e i z sz bytes ht hi hz hsize hby hzs h0 v n xs hown ad m c news hl (hnews ad rfl) h1 h63 hbytes hbase
  exact ⟨v',w',hr,h2,h3,h5⟩
theorem wpList_append_optN {P:Program} {w:World} {ops:Array Oper} {rest:List Oper} {o:Oper} {a:Act} {Q:Exit → Act → World → Prop} (hgd:o.guard = none) (s x:Operand) (t:TypeId)
  (ho:o.op = .call { callee:=.builtin .append,args:=#[s,x],argTypes:=#[t,t] })
  (base:Nat) (e:TypeId) (i:TypeInfo) (z:Value) (sz bytes:Nat) (ht:P.underlying t = some (.slice e)) (hi:P.info? e = some i) (hz:i.zero = some z)
  (hsize:i.size = sz) (hby:i.bytes = bytes) (hzs:z.cells.size = sz) (h0:0 < sz) (v:Value) (n:Nat) (xs:List Value) (hs:a.eval s = v) (hown:w.ownsRow base e sz v n xs)
  (A:Option Addr) (m c:Nat) (news:List Value) (hx:a.eval x = .slice A m c) (hl:news.length = m * sz) (hA:A = none → m = 0 ∧ c = 0) (hnews:∀ ad,A = some ad → ∀ j u,news[j]? = some u → w.cell? (ad.add j) = some u) (h1:∀ u ∈ news,u.oneCell' = true)
  (h63:n + m ≤ maxLen) (hbytes:(n + m) * bytes ≤ 140737488355328) (hbase:base ≤ w.heap.size)
  (h:∀ v' w',w'.ownsRow base e sz v' (n + m) (xs ++ news) → w.grownBy w' v.ownBlock → (v'.ownBlock = v.ownBlock ∨ v'.ownBlock = some w.heap.size) → wpList P ops Q rest (a.put o.dst v') w') :
  wpList P ops Q (o :: rest) a w:=by
 refine wpList_plain hgd fun K hK=>?_
 obtain ⟨v',w',hr,h2,h3,h5⟩:=run_append_optN (P:=P) w base t o.type e i z sz bytes ht hi hz hsize hby hzs h0 v n xs hown A m c news hl hA hnews h1 h63 hbytes hbase
 unfold Oper.wp execOp
 simp only [ho,resolve,invoke,builtin,Sem.run_bind,Sem.run_pure,Result.andThen_ok,List.map_toArray,List.map_cons,List.map_nil,hs,hx,hr]
 exact hK _ _ (h v' w' h2 h3 h5)
theorem rgrow2 {W W':World} {e e':TypeId} {H H' s s' n n':Nat} {v v':Value} {xs xs':List Value} (h:W.ownsRow H e s v n xs) (h':W.ownsRow H' e' s' v' n' xs') (hne:e ≠ e') (hg:W.grownBy W' v'.ownBlock):W'.ownsRow H e s v n xs:=by
 rcases h with ⟨hl,h0 | ⟨i,cap,cur,hv,hb,hgt,rest⟩⟩
 ·exact ⟨hl,.inl h0⟩
 ·refine ⟨hl,.inr ⟨i,cap,cur,hv,hb,(hg.block i (Array.getElem?_eq_some_iff.1 hgt).1 (fun hi=>?_)).trans hgt,rest⟩⟩
  rcases h' with ⟨_,⟨hn,_⟩ | ⟨i',cap',cur',hv',_,hgt',_⟩⟩
  ·rw [hn] at hi;cases hi
  ·rw [hv'] at hi
   obtain rfl:i = i':=by simpa [Value.ownBlock] using hi
   rw [hgt] at hgt'
   simp only [Option.some.injEq,Obj.cells.injEq] at hgt'
   exact hne hgt'.2.1
theorem own_row_at {W:World} {F:Nat → Prop} {H n sz c:Nat} {A:Option Addr} {e:TypeId} {cs:List Value} (h:W.ownsRow H e sz (.slice A n c) n cs) (hl:cs.length = n * sz) (hF:∀ k,F k → k < H):RowF W F A cs ∧ n ≤ c ∧ c ≤ maxLen ∧ (A = none → n = 0 ∧ c = 0):=by
 obtain ⟨A',c',e1,h1⟩:=own_rowF h hl hF
 simp only [Value.slice.injEq] at e1
 obtain ⟨rfl,-,rfl⟩:=e1
 exact h1
end Sh
end Go.Proofs.YtbkanoblcojdfaaGreat
