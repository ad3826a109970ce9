/- Parts of the proof, joined: RdLaw, RdIn, SuMath2, RdIn2, RdIn3, RdIdle; their conditions stand with each. -/
import Derived.Test.YtmidncclndongaaGreatC6
import Derived.Test.YtmidncclndongaaGreatC9
import Derived.Test.YtmidncclndongaaGreatC10
import Derived.Test.YtmidncclndongaaGreatC11

set_option maxRecDepth 20000
set_option maxHeartbeats 8000000
namespace Go.Proofs.YtmidncclndongaaGreat
namespace Rd
open Go.RowKit Sc Bk
abbrev RepT:=World → (Nat → Prop) → Nat → Dev → Prop
abbrev LRepT:=World → (Nat → Prop) → Nat → Nat → Nat → Lg → Prop
structure LgIn (D:Dev) (l:Lg):Prop where
 ok:LgOk D l
 c1:1 ≤ l.cnt
 cnt:l.cnt ≤ 4611686018427388000
 bs:l.bs = frs l.ts 0 l.mn
 small:∀ t ∈ l.ts,t.size ≤ 4096
 st:storedL D l.ar l.bs.length = l.bs
 hd:l.cnt ≤ 4611686018427387904 → hdsP D 2 = some (l.cnt,l.ar,l.bs.length)
theorem all_split (ts:List ByteArray) (m:Nat):allF ts = frs ts 0 m ++ frs ts m ts.length:=by
 unfold allF frs
 rw [List.take_length,List.drop_zero,List.drop_zero,← List.flatMap_append,List.take_append_drop]
structure DevF (fRd fWr fFl fFu fCr:FuncId) (Rep:RepT):Prop where
 lt:∀ {W F g D},Rep W F g D → ∀ k,F k → k < W.heap.size
 ok:∀ {W F g D},Rep W F g D → DevOk D
 kept:∀ {W W' F g D},Rep W F g D → (∀ k,F k → W'.heap[k]? = W.heap[k]?) → Rep W' F g D
 read:∀ {F g D} (i:Int) (w:World),Rep w F g D → -9223372036854775808 ≤ i ∧ i ≤ 9223372036854775807 → Calls Tryz.prog fRd #[.pointer (some ⟨g,0,none⟩),.int .i64 i] w fun e w'=>e = .returned (.tuple #[.string (rdV D i).1,.int .i64 (rdV D i).2]) ∧ ∃ F',Rep w' F' g D ∧ Fr F F' w w'
 write:∀ {F g D} (i:Int) (t:ByteArray) (w:World),Rep w F g D → -9223372036854775808 ≤ i ∧ i ≤ 9223372036854775807 → t.size ≤ reachBytes → Calls Tryz.prog fWr #[.pointer (some ⟨g,0,none⟩),.int .i64 i,.string t] w fun e w'=>e = .returned (.int .i64 (wrD D i t).2) ∧ ∃ F',Rep w' F' g (wrD D i t).1 ∧ Fr F F' w w'
 flush:∀ {F g D} (w:World),Rep w F g D → Calls Tryz.prog fFl #[.pointer (some ⟨g,0,none⟩)] w fun e w'=>e = .returned (.int .i64 (flD D).2) ∧ ∃ F',Rep w' F' g (flD D).1 ∧ Fr F F' w w'
 fuse:∀ {F g D} (n:Int) (w:World),Rep w F g D → -9223372036854775808 ≤ n ∧ n ≤ 9223372036854775807 → Calls Tryz.prog fFu #[.pointer (some ⟨g,0,none⟩),.int .i64 n] w fun e w'=>e = .returned (.int .i64 (fuD D n).2) ∧ ∃ F',Rep w' F' g (fuD D n).1 ∧ Fr F F' w w'
 crash:∀ {F g D} (A:Option Addr) (c:Nat) (ps:List Int) (w:World),Rep w F g D → IntsAt w A ps → (0 < ps.length → ∀ a,A = some a → ¬ F a.block) → ps.length * 8 ≤ reachBytes → (∀ p ∈ ps,-9223372036854775808 ≤ p ∧ p ≤ 9223372036854775807) → Calls Tryz.prog fCr #[.pointer (some ⟨g,0,none⟩),.slice A ps.length c] w fun e w'=>e = .returned (.tuple #[]) ∧ ∃ F',Rep w' F' g (crD D ps) ∧ Fr F F' w w'
structure LogF (fOp fAp fSy fRm fRs:FuncId) (Rep:RepT) (LRep:LRepT):Prop where
 lt:∀ {W F p g n l},LRep W F p g n l → ∀ k,F k → k < W.heap.size
 kept:∀ {W W' F p g n l},LRep W F p g n l → (∀ k,F k → W'.heap[k]? = W.heap[k]?) → LRep W' F p g n l
 opn:∀ {F g D} (w:World),Rep w F g D → Calls Tryz.prog fOp #[.pointer (some ⟨g,0,none⟩)] w fun e w'=>∃ F',Rep w' F' g (openP D).1 ∧
  match (openP D).2.1 with
  | none=>e = .returned (.tuple #[.pointer none,.int .i64 (openP D).2.2]) ∧ Fr F F' w w'
  | some l=>∃ p L,e = .returned (.tuple #[.pointer (some ⟨p,0,none⟩),.int .i64 (openP D).2.2]) ∧ LRep w' L p g (openP D).1.on.length l ∧ (∀ k,L k → ¬ F' k) ∧ Fr F (fun k=>F' k ∨ L k) w w'
 app:∀ {F L g p D l} (t:ByteArray) (w:World),Rep w F g D → LRep w L p g D.on.length l → (∀ k,L k → ¬ F k) → LgIn D l → D.down = false → t.size ≤ reachBytes →
  Calls Tryz.prog fAp #[.pointer (some ⟨p,0,none⟩),.string t] w fun e w'=>e = .returned (.int .i64 (appendP D l t).2) ∧ ∃ F' L',Rep w' F' g D ∧ LRep w' L' p g D.on.length (appendP D l t).1 ∧ (∀ k,L' k → ¬ F' k) ∧ Fr (fun k=>F k ∨ L k) (fun k=>F' k ∨ L' k) w w'
 syn:∀ {F L g p D l} (w:World),Rep w F g D → LRep w L p g D.on.length l → (∀ k,L k → ¬ F k) → LgIn D l → D.down = false →
  Calls Tryz.prog fSy #[.pointer (some ⟨p,0,none⟩)] w fun e w'=>e = .returned (.int .i64 (syncP D l).2.2) ∧ ∃ F' L',Rep w' F' g (syncP D l).1 ∧ LRep w' L' p g (syncP D l).1.on.length (syncP D l).2.1 ∧ (∀ k,L' k → ¬ F' k) ∧ Fr (fun k=>F k ∨ L k) (fun k=>F' k ∨ L' k) w w'
 room:∀ {F L g p D l} (w:World),Rep w F g D → LRep w L p g D.on.length l → (∀ k,L k → ¬ F k) → LgIn D l → D.down = false →
  Calls Tryz.prog fRm #[.pointer (some ⟨p,0,none⟩)] w fun e w'=>e = .returned (.int .i64 (roomN D l:Int)) ∧ ∃ F' L',Rep w' F' g D ∧ LRep w' L' p g D.on.length l ∧ (∀ k,L' k → ¬ F' k) ∧ Fr (fun k=>F k ∨ L k) (fun k=>F' k ∨ L' k) w w'
 rst:∀ {F L g p D l} (B:Option Addr) (cB:Nat) (ts:List ByteArray) (w:World),Rep w F g D → LRep w L p g D.on.length l → (∀ k,L k → ¬ F k) → LgIn D l → D.down = false →
  StrsAt w B ts → (B = none → cB = 0) → (0 < ts.length → ∀ x,B = some x → x.block < w.heap.size ∧ ¬ F x.block ∧ ¬ L x.block) → ts.length * 16 ≤ reachBytes → (∀ t ∈ ts,t.size ≤ reachBytes) → (allF ts).length ≤ 140737488355328 →
  Calls Tryz.prog fRs #[.pointer (some ⟨p,0,none⟩),.slice B ts.length cB] w fun e w'=>e = .returned (.int .i64 (restartP D l ts).2.2) ∧ ∃ F' L',Rep w' F' g (restartP D l ts).1 ∧ LRep w' L' p g (restartP D l ts).1.on.length (restartP D l ts).2.1 ∧ (∀ k,L' k → ¬ F' k) ∧ Fr (fun k=>F k ∨ L k) (fun k=>F' k ∨ L' k) w w'
def Side (Rep:RepT) (LRep:LRepT) (W:World) (F:Nat → Prop) (g:Nat) (D:Dev):Option (Nat × Lg) → Prop
 | none=>Rep W F g D
 | some (p,l)=>∃ Fd Fl:Nat → Prop,F = (fun k=>Fd k ∨ Fl k) ∧ Rep W Fd g D ∧ LRep W Fl p g D.on.length l ∧ (∀ k,Fl k → ¬ Fd k)
theorem fuD_len (D:Dev) (n:Int):(fuD D n).1.on.length = D.on.length:=by
 unfold fuD
 split
 ·rfl
 split
 ·rfl
 ·rfl
section
variable {f1 f2 f3 f4 f5 f6 f7 f8 f9 f10:FuncId} {Rep:RepT} {LRep:LRepT} {W W':World} {F G:Nat → Prop} {g:Nat} {D:Dev} {o:Option (Nat × Lg)}
theorem Side.lt (HD:DevF f1 f2 f3 f4 f5 Rep) (HL:LogF f6 f7 f8 f9 f10 Rep LRep) (h:Side Rep LRep W F g D o):∀ k,F k → k < W.heap.size:=fun k hk=>by
 cases o with
 | none=>exact HD.lt h k hk
 | some pl =>
  obtain ⟨Fd,Fl,rfl,h1,h2,_⟩:=h
  exact hk.elim (HD.lt h1 k) (HL.lt h2 k)
theorem Side.ok (HD:DevF f1 f2 f3 f4 f5 Rep) (h:Side Rep LRep W F g D o):DevOk D:=by
 cases o with
 | none=>exact HD.ok h
 | some pl=>obtain ⟨Fd,Fl,rfl,h1,_⟩:=h;exact HD.ok h1
theorem Side.kept (HD:DevF f1 f2 f3 f4 f5 Rep) (HL:LogF f6 f7 f8 f9 f10 Rep LRep) (h:Side Rep LRep W F g D o) (hk:∀ k,F k → W'.heap[k]? = W.heap[k]?):Side Rep LRep W' F g D o:=by
 cases o with
 | none=>exact HD.kept h hk
 | some pl =>
  obtain ⟨Fd,Fl,rfl,h1,h2,h3⟩:=h
  exact ⟨Fd,Fl,rfl,HD.kept h1 (fun k hF=>hk k (.inl hF)),HL.kept h2 (fun k hF=>hk k (.inr hF)),h3⟩
theorem side_dev (_HD:DevF f1 f2 f3 f4 f5 Rep) (HL:LogF f6 f7 f8 f9 f10 Rep LRep) {Fd Fl Fd':Nat → Prop} {p:Nat} {l:Lg} {D':Dev} (_h1:Rep W Fd g D) (h2:LRep W Fl p g D.on.length l) (h3:∀ k,Fl k → ¬ Fd k) (hn:D'.on.length = D.on.length)
  (q1:Rep W' Fd' g D') (q2:Fr Fd Fd' W W'):Side Rep LRep W' (fun k=>Fd' k ∨ Fl k) g D' (some (p,l)) ∧ Fr (fun k=>Fd k ∨ Fl k) (fun k=>Fd' k ∨ Fl k) W W':=by
 refine ⟨⟨Fd',Fl,rfl,q1,?_,fun k hk hf=>(q2.foot k hf).elim (h3 k hk) (fun hs=>by have:=HL.lt h2 k hk;omega)⟩,?_⟩
 ·rw [hn]
  exact HL.kept h2 (fun k hk=>q2.block k (HL.lt h2 k hk) (h3 k hk))
 ·exact ⟨q2.os,q2.tape,q2.output,q2.size,fun i hi hn=>q2.block i hi (fun hf=>hn (.inl hf)),fun k hk=>hk.elim (fun hf=>(q2.foot k hf).elim (fun hq=>.inl (.inl hq)) .inr) (fun hl=>.inl (.inr hl))⟩
theorem fr_wide {Fd Fd':Nat → Prop} (hs:∀ k,Fd k → F k) (q2:Fr Fd Fd' W W'):Fr F Fd' W W' :=
 ⟨q2.os,q2.tape,q2.output,q2.size,fun i hi hn=>q2.block i hi (fun hf=>hn (hs i hf)),fun k hk=>(q2.foot k hk).elim (fun hq=>.inl (hs k hq)) .inr⟩
theorem Side.dev (h:Side Rep LRep W F g D o):∃ Fd:Nat → Prop,(∀ k,Fd k → F k) ∧ Rep W Fd g D:=by
 cases o with
 | none=>exact ⟨F,fun _ h=>h,h⟩
 | some pl=>obtain ⟨Fd,Fl,rfl,h1,_⟩:=h;exact ⟨Fd,fun _ h=>.inl h,h1⟩
theorem Side.read (HD:DevF f1 f2 f3 f4 f5 Rep) (HL:LogF f6 f7 f8 f9 f10 Rep LRep) (h:Side Rep LRep W F g D o) (i:Int) (hi:-9223372036854775808 ≤ i ∧ i ≤ 9223372036854775807) :
  Calls Tryz.prog f1 #[.pointer (some ⟨g,0,none⟩),.int .i64 i] W fun e w'=>e = .returned (.tuple #[.string (rdV D i).1,.int .i64 (rdV D i).2]) ∧ ∃ F',Side Rep LRep w' F' g D o ∧ Fr F F' W w':=by
 cases o with
 | none=>exact HD.read i W h hi
 | some pl =>
  obtain ⟨p,l⟩:=pl
  obtain ⟨Fd,Fl,rfl,h1,h2,h3⟩:=h
  refine (HD.read i W h1 hi).mono ?_
  rintro e w' ⟨rfl,Fd',q1,q2⟩
  have:=side_dev HD HL h1 h2 h3 rfl q1 q2
  exact ⟨rfl,_,this.1,this.2⟩
theorem Side.fuse (HD:DevF f1 f2 f3 f4 f5 Rep) (HL:LogF f6 f7 f8 f9 f10 Rep LRep) (h:Side Rep LRep W F g D o) (n:Int) (hi:-9223372036854775808 ≤ n ∧ n ≤ 9223372036854775807) :
  Calls Tryz.prog f4 #[.pointer (some ⟨g,0,none⟩),.int .i64 n] W fun e w'=>e = .returned (.int .i64 (fuD D n).2) ∧ ∃ F',Side Rep LRep w' F' g (fuD D n).1 o ∧ Fr F F' W w':=by
 cases o with
 | none=>exact HD.fuse n W h hi
 | some pl =>
  obtain ⟨p,l⟩:=pl
  obtain ⟨Fd,Fl,rfl,h1,h2,h3⟩:=h
  refine (HD.fuse n W h1 hi).mono ?_
  rintro e w' ⟨rfl,Fd',q1,q2⟩
  have:=side_dev HD HL h1 h2 h3 (fuD_len D n) q1 q2
  exact ⟨rfl,_,this.1,this.2⟩
theorem Side.crash (HD:DevF f1 f2 f3 f4 f5 Rep) (h:Side Rep LRep W F g D o) (A:Option Addr) (c:Nat) (ps:List Int) (hp:IntsAt W A ps) (hd:0 < ps.length → ∀ a,A = some a → ¬ F a.block) (hl:ps.length * 8 ≤ reachBytes) (hr:∀ p ∈ ps,-9223372036854775808 ≤ p ∧ p ≤ 9223372036854775807) :
  Calls Tryz.prog f5 #[.pointer (some ⟨g,0,none⟩),.slice A ps.length c] W fun e w'=>e = .returned (.tuple #[]) ∧ ∃ F',Side Rep LRep w' F' g (crD D ps) none ∧ Fr F F' W w':=by
 obtain ⟨Fd,hs,h1⟩:=h.dev
 refine (HD.crash A c ps W h1 hp (fun h0 a ha hf=>hd h0 a ha (hs _ hf)) hl hr).mono ?_
 rintro e w' ⟨rfl,Fd',q1,q2⟩
 exact ⟨rfl,Fd',q1,fr_wide hs q2⟩
def ptrV:Option (Nat × Lg) → Value
 | none=>.pointer none
 | some (p,_)=>.pointer (some ⟨p,0,none⟩)
theorem Side.opn (HL:LogF f6 f7 f8 f9 f10 Rep LRep) (h:Side Rep LRep W F g D o) :
  Calls Tryz.prog f6 #[.pointer (some ⟨g,0,none⟩)] W fun e w'=>∃ o',e = .returned (.tuple #[ptrV o',.int .i64 (openP D).2.2]) ∧ o'.map (·.2) = (openP D).2.1 ∧ ∃ F',Side Rep LRep w' F' g (openP D).1 o' ∧ Fr F F' W w':=by
 obtain ⟨Fd,hs,h1⟩:=h.dev
 refine (HL.opn W h1).mono ?_
 rintro e w' ⟨Fd',q1,q2⟩
 cases hv:(openP D).2.1 with
 | none =>
  rw [hv] at q2
  obtain ⟨rfl,q3⟩:=q2
  exact ⟨none,rfl,rfl,Fd',q1,fr_wide hs q3⟩
 | some l =>
  rw [hv] at q2
  obtain ⟨p,L,rfl,q3,q4,q5⟩:=q2
  exact ⟨some (p,l),rfl,rfl,_,⟨Fd',L,rfl,q1,q3,q4⟩,fr_wide hs q5⟩
section
variable {p:Nat} {l:Lg} (HL:LogF f6 f7 f8 f9 f10 Rep LRep) (h:Side Rep LRep W F g D (some (p,l))) (hi:LgIn D l) (hu:D.down = false)
include HL h hi hu
theorem Side.app (t:ByteArray) (ht:t.size ≤ reachBytes) :
  Calls Tryz.prog f7 #[.pointer (some ⟨p,0,none⟩),.string t] W fun e w'=>e = .returned (.int .i64 (appendP D l t).2) ∧ ∃ F',Side Rep LRep w' F' g D (some (p,(appendP D l t).1)) ∧ Fr F F' W w':=by
 obtain ⟨Fd,Fl,rfl,h1,h2,h3⟩:=h
 refine (HL.app t W h1 h2 h3 hi hu ht).mono ?_
 rintro e w' ⟨rfl,F',L',q1,q2,q3,q4⟩
 exact ⟨rfl,_,⟨F',L',rfl,q1,q2,q3⟩,q4⟩
theorem Side.syn :
  Calls Tryz.prog f8 #[.pointer (some ⟨p,0,none⟩)] W fun e w'=>e = .returned (.int .i64 (syncP D l).2.2) ∧ ∃ F',Side Rep LRep w' F' g (syncP D l).1 (some (p,(syncP D l).2.1)) ∧ Fr F F' W w':=by
 obtain ⟨Fd,Fl,rfl,h1,h2,h3⟩:=h
 refine (HL.syn W h1 h2 h3 hi hu).mono ?_
 rintro e w' ⟨rfl,F',L',q1,q2,q3,q4⟩
 exact ⟨rfl,_,⟨F',L',rfl,q1,q2,q3⟩,q4⟩
theorem Side.rst (B:Option Addr) (cB:Nat) (ts:List ByteArray) (hB:StrsAt W B ts) (hBn:B = none → cB = 0) (hBo:0 < ts.length → ∀ x,B = some x → x.block < W.heap.size ∧ ¬ F x.block) (hn:ts.length * 16 ≤ reachBytes) (hs:∀ t ∈ ts,t.size ≤ reachBytes) (hq:(allF ts).length ≤ 140737488355328) :
  Calls Tryz.prog f10 #[.pointer (some ⟨p,0,none⟩),.slice B ts.length cB] W fun e w'=>e = .returned (.int .i64 (restartP D l ts).2.2) ∧ ∃ F',Side Rep LRep w' F' g (restartP D l ts).1 (some (p,(restartP D l ts).2.1)) ∧ Fr F F' W w':=by
 obtain ⟨Fd,Fl,rfl,h1,h2,h3⟩:=h
 refine (HL.rst B cB ts W h1 h2 h3 hi hu hB hBn (fun hp x hx=>⟨(hBo hp x hx).1,fun hf=>(hBo hp x hx).2 (.inl hf),fun hf=>(hBo hp x hx).2 (.inr hf)⟩) hn hs hq).mono ?_
 rintro e w' ⟨rfl,F',L',q1,q2,q3,q4⟩
 exact ⟨rfl,_,⟨F',L',rfl,q1,q2,q3⟩,q4⟩
end
end
theorem cat_congr {D D':Dev} {a b:Nat}:∀ {i:Nat},(∀ k,k < i → flushF D' (areaAt D' a + k) = flushF D (areaAt D b + k)) → catS D' a i = catS D b i
 | 0,_=>rfl
 | i + 1,h=>by rw [catS_succ,catS_succ,cat_congr (i:=i) (fun k hk=>h k (by omega)),h i (by omega)]
theorem cat_block {D:Dev} (hok:DevOk D) (h:4 ≤ D.on.length) {a:Nat} (ha:a ≤ 1):∀ {m i:Nat},i < m → m ≤ areaN D / 64 → ((catS D a m).drop (64 * i)).take 64 = (flushF D (areaAt D a + i)).data.toList
 | 0,i,hi,_=>by omega
 | m + 1,i,hi,hm=>by
  have hl:=catS_len hok h ha m (by omega)
  have h64:(flushF D (areaAt D a + m)).data.toList.length = 64:=by rw [Array.length_toList];exact flush64 hok (area_fit h ha (by omega))
  rw [catS_succ]
  by_cases e:i = m
  ·subst e
   rw [List.drop_append_of_le_length (by omega),List.drop_of_length_le (by omega),List.nil_append,List.take_of_length_le (by omega)]
  ·rw [List.drop_append_of_le_length (by omega),List.take_append_of_le_length (by rw [List.length_drop];omega)]
   exact cat_block hok h ha (by omega) (by omega)
theorem stored_len {D:Dev} (hok:DevOk D) (h:4 ≤ D.on.length) {a n:Nat} (ha:a ≤ 1) (hn:n ≤ areaN D):(storedL D a n).length = n:=by
 have hd:areaN D / 64 * 64 = areaN D:=by unfold areaN;omega
 unfold storedL
 rw [List.length_take,catS_len hok h ha _ (by omega)]
 omega
theorem blk_take {all:List UInt8} {i:Nat} (_h:64 * i < all.length):(blkB all i).data.toList.take (all.length - 64 * i) = (all.drop (64 * i)).take 64:=by
 have hl:=rowB_len (all:=all) (i:=i) (Nat.le_refl _)
 show (rowB all i (limB all i)).take (all.length - 64 * i) = _
 unfold rowB
 have hd:(all.drop (64 * i)).length = all.length - 64 * i:=List.length_drop
 unfold limB
 by_cases h2:64 ≤ all.length - 64 * i
 ·rw [Nat.min_eq_left h2,Nat.sub_self,List.replicate_zero,List.append_nil,List.take_of_length_le (by rw [List.length_take];omega)]
 ·rw [Nat.min_eq_right (by omega),List.take_append_of_le_length (by rw [List.length_take];omega),List.take_take,Nat.min_self,List.take_of_length_le (by omega),List.take_of_length_le (by omega)]
theorem settle_stored {D D':Dev} (hok:DevOk D) (hok':DevOk D') (h4:4 ≤ D.on.length) (hlen:D'.on.length = D.on.length) {a q:Nat} (ha:a ≤ 1) (hq:q < 2) {H:ByteArray} {old more:List UInt8} (hz:(old ++ more).length ≤ areaN D)
  (hst:storedL D a old.length = old)
  (hv:∀ j,j < D.on.length → flushF D' j = if j = q then H else if areaAt D a + old.length / 64 ≤ j ∧ j < areaAt D a + old.length / 64 + manyW old more then blkB (old ++ more) (j - areaAt D a) else flushF D j) :
  storedL D' a (old ++ more).length = old ++ more:=by
 have hN:=areaN_on hlen
 have hA:=areaAt_on hlen a
 have hd:areaN D / 64 * 64 = areaN D:=by unfold areaN;omega
 have h2:2 ≤ areaAt D a:=by unfold areaAt;omega
 have hfit:∀ k,k < areaN D / 64 → areaAt D a + k < D.on.length:=fun k hk=>area_fit h4 ha hk
 by_cases hm:more = []
 ·subst hm
  rw [List.append_nil] at *
  unfold storedL at hst ⊢
  rw [cat_congr (D:=D) (b:=a) (fun k hk=>?_)]
  ·exact hst
  ·rw [hA,hv _ (hfit k (by omega)),if_neg (by omega),if_neg]
   unfold manyW
   rw [if_pos rfl]
   omega
 have hmw:manyW old more = ((old ++ more).length + 63) / 64 - old.length / 64:=by unfold manyW;rw [if_neg hm]
 have hlm:old.length ≤ (old ++ more).length:=by rw [List.length_append];omega
 have hmp:1 ≤ more.length:=by
  cases more with
  | nil=>exact absurd rfl hm
  | cons x xs=>simp
 have hal:(old ++ more).length = old.length + more.length:=List.length_append
 have key:∀ i,i ≤ ((old ++ more).length + 63) / 64 → (catS D' a i).take (old ++ more).length = (old ++ more).take (64 * i):=by
  intro i
  induction i with
  | zero=>intro _;simp [catS]
  | succ i ih =>
   intro hi
   have ih:=ih (by omega)
   have hlc:=catS_len hok' (by omega) ha i (by rw [hN];omega)
   have hlt:64 * i < (old ++ more).length:=by omega
   rw [catS_succ,List.take_append,hlc]
   rw [ih]
   have e2:(old ++ more).take (64 * (i + 1)) = (old ++ more).take (64 * i) ++ ((old ++ more).drop (64 * i)).take 64:=by
    rw [show 64 * (i + 1) = 64 * i + 64 by omega,List.take_add]
   rw [e2]
   congr 1
   rw [hA,hv _ (hfit i (by omega)),if_neg (by omega)]
   by_cases hf:old.length / 64 ≤ i
   ·rw [if_pos (by omega),Nat.add_sub_cancel_left]
    exact blk_take hlt
   ·rw [if_neg (by omega)]
    have hblk:=cat_block hok h4 ha (m:=(old.length + 63) / 64) (i:=i) (by omega) (by omega)
    have h64:(flushF D (areaAt D a + i)).data.toList.length = 64:=by rw [Array.length_toList];exact flush64 hok (hfit i (by omega))
    rw [List.take_of_length_le (by omega),← hblk]
    rw [List.drop_append_of_le_length (by omega),List.take_append_of_le_length (by rw [List.length_drop];omega)]
    conv=>rhs;rw [← hst]
    unfold storedL
    rw [List.drop_take,List.take_take,Nat.min_eq_left (by omega)]
 have hk:=key (((old ++ more).length + 63) / 64) (Nat.le_refl _)
 unfold storedL
 rw [hk,List.take_of_length_le (by omega)]
theorem hds_none {D:Dev}:∀ {i:Nat},hdsP D i = none → ∀ j,j < i → ¬ okH (areaN D) (flushF D j).data.toList
 | 0,_,_,_=>by omega
 | i + 1,e,j,hj=>by
  unfold hdsP at e
  split at e
  ·cases e
  next hc =>
   by_cases hji:j = i
   ·subst hji
    intro ho
    exact hc ⟨ho,fun h' e'=>by rw [e] at e';cases e'⟩
   ·exact hds_none e j (by omega)
theorem hds_max {D:Dev}:∀ {i:Nat} {h:Nat × Nat × Nat},hdsP D i = some h → ∀ j,j < i → okH (areaN D) (flushF D j).data.toList → cOf (flushF D j).data.toList ≤ h.1
 | 0,_,e,_,_,_=>by cases e
 | i + 1,h,e,j,hj,ho=>by
  unfold hdsP at e
  split at e
  next hc =>
   cases e
   by_cases hji:j = i
   ·subst hji;exact Nat.le_refl _
   ·cases hp:hdsP D i with
    | none=>exact absurd ho (hds_none hp j (by omega))
    | some h'=>exact Nat.le_trans (hds_max hp j (by omega) ho) (Nat.le_of_lt (hc.2 h' hp))
  next hc =>
   by_cases hji:j = i
   ·subst hji
    have:¬ ∀ h',hdsP D j = some h' → h'.1 < cOf (flushF D j).data.toList:=fun hall=>hc ⟨ho,hall⟩
    rw [e] at this
    refine Nat.le_of_not_lt fun hlt=>this fun h' e'=>?_
    cases e';exact hlt
   ·exact hds_max e j (by omega) ho
theorem hds_new {D':Dev} {q c a n:Nat} (hq:q < 2) (hab:areaN D' < 256 ^ 8) (hc1:1 ≤ c) (hc:c ≤ 4611686018427387904) (ha:a ≤ 1) (hn:n ≤ areaN D') (hv:flushF D' q = headB c a n)
  (ho:∀ j,j < 2 → j ≠ q → okH (areaN D') (flushF D' j).data.toList → cOf (flushF D' j).data.toList < c):hdsP D' 2 = some (c,a,n):=by
 have hL:(headB c a n).data.toList = headL c a n:=by unfold headB;simp
 have hok:okH (areaN D') (flushF D' q).data.toList:=by rw [hv,hL];exact ok_head hc1 hc ha hn hab
 have e1:cOf (flushF D' q).data.toList = c:=by rw [hv,hL];exact c_head a n (by omega)
 have e2:aOf (flushF D' q).data.toList = a:=by rw [hv,hL];exact a_head (by omega)
 have e3:lOf (flushF D' q).data.toList = n:=by rw [hv,hL];exact l_head c a (by omega)
 have hs:∀ i,hdsP D' (i + 1) = if okH (areaN D') (flushF D' i).data.toList ∧ (∀ h,hdsP D' i = some h → h.1 < cOf (flushF D' i).data.toList) then some (cOf (flushF D' i).data.toList,aOf (flushF D' i).data.toList,lOf (flushF D' i).data.toList) else hdsP D' i:=fun _=>rfl
 have h0:hdsP D' 0 = none:=rfl
 rcases (show q = 0 ∨ q = 1 by omega) with rfl | rfl
 ·have h1:hdsP D' 1 = some (c,a,n):=by
   rw [hs 0,if_pos ⟨hok,fun h e=>by rw [h0] at e;cases e⟩,e1,e2,e3]
  rw [hs 1,if_neg,h1]
  rintro ⟨g1,g2⟩
  have:=g2 _ h1
  have:=ho 1 (by omega) (by omega) g1
  omega
 ·rw [hs 1,if_pos,e1,e2,e3]
  refine ⟨hok,fun h e=>?_⟩
  rw [e1]
  rw [hs 0] at e
  split at e
  next hc0 =>
   cases e
   exact ho 0 (by omega) (by omega) hc0.1
  ·rw [h0] at e;cases e
end Rd
end Go.Proofs.YtmidncclndongaaGreat
namespace Go.Proofs.YtmidncclndongaaGreat
namespace Su
open Go.RowKit Bk
theorem take2_frame (t:List UInt8) (n:Nat) (h:2 ≤ n) (r:List UInt8):((frameL t ++ r).take n).take 2 = le 2 t.length:=by
 rw [List.take_take,Nat.min_eq_left h]
 unfold frameL
 rw [List.append_assoc,List.append_assoc,List.take_append_of_le_length (by rw [le_length];omega),List.take_of_length_le (by rw [le_length];omega)]
theorem num_frame (t:List UInt8) (ht:t.length ≤ 4096):num (le 2 t.length) = t.length:=num_le 2 _ (by show _ < 65536;omega)
theorem restR_frame (t r:List UInt8) (ht:t.length ≤ 4096):restR (frameL t ++ r) = .ok t:=by
 have hl:(frameL t ++ r).length = t.length + 6 + r.length:=by rw [List.length_append,frameL_len]
 have h2:=take2_frame t (frameL t ++ r).length (by omega) r
 rw [List.take_of_length_le (Nat.le_refl _)] at h2
 have h3:(frameL t ++ r).take (t.length + 6) = frameL t:=by
  rw [List.take_append_of_le_length (by rw [frameL_len];omega),List.take_of_length_le (by rw [frameL_len];omega)]
 have h4:((frameL t ++ r).drop 2).take t.length = t:=by
  unfold frameL
  rw [List.append_assoc,List.append_assoc,List.drop_append_of_le_length (by rw [le_length];omega),List.drop_eq_nil_of_le (by rw [le_length];omega),List.nil_append,List.take_append_of_le_length (Nat.le_refl _),List.take_of_length_le (Nat.le_refl _)]
 unfold restR
 rw [if_neg (by omega),h2,num_frame t ht,if_neg (by omega),if_neg (by omega),h4,if_pos h3]
def framesL (l:List (List UInt8)):List UInt8:=l.flatMap frameL
theorem framesL_cons (t:List UInt8) (l:List (List UInt8)):framesL (t :: l) = frameL t ++ framesL l:=rfl
theorem walkR_frames:∀ (l:List (List UInt8)) (f a:Nat),(∀ t ∈ l,t.length ≤ 4096) → (framesL l).length ≤ f → walkR f (framesL l) a = (l.map (fun t=>⟨t.toArray⟩),a + (framesL l).length,0)
 | [],f,a,_,_=>by
  show walkR f [] a = _
  rw [walkR_nil];rfl
 | t :: l,f,a,hl,hf=>by
  have ht:=hl t (List.mem_cons_self ..)
  rw [framesL_cons,List.length_append,frameL_len] at hf
  obtain ⟨f,rfl⟩:∃ k,f = k + 1:=⟨f - 1,by omega⟩
  have hr:=restR_frame t (framesL l) ht
  rw [framesL_cons,walkR_ok (by intro h;have:=congrArg List.length h;rw [List.length_append,frameL_len] at this;simp at this) hr]
  rw [List.drop_append_of_le_length (by rw [frameL_len];omega),List.drop_eq_nil_of_le (by rw [frameL_len];omega),List.nil_append,walkR_frames l f _ (fun x hx=>hl x (List.mem_cons_of_mem _ hx)) (by omega),List.length_append,frameL_len]
  simp only [List.map_cons]
  congr 2
  omega
end Su
end Go.Proofs.YtmidncclndongaaGreat
namespace Go.Proofs.YtmidncclndongaaGreat
namespace Rd
open Go.RowKit Sc Bk
theorem frs_all (ts:List ByteArray) (n:Nat):frs ts 0 n = (ts.take n).flatMap fun s=>Su.frameL s.data.toList:=by
 unfold frs;rw [List.drop_zero]
theorem frs_join (ts:List ByteArray):∀ {a b:Nat},a ≤ b → b ≤ ts.length → frs ts 0 a ++ frs ts a b = frs ts 0 b
 | a,0,h,_=>by
  obtain rfl:a = 0:=by omega
  rw [frs_same];rfl
 | a,b + 1,h,hb=>by
  rcases Nat.eq_or_lt_of_le h with e | e
  ·rw [← e,frs_same,List.append_nil]
  ·rw [frs_succ (show a ≤ b by omega) (by omega),frs_succ (Nat.zero_le b) (by omega),← List.append_assoc,frs_join ts (a:=a) (b:=b) (by omega) (by omega)]
theorem walk_ok:∀ (f:Nat) (r:List UInt8) (a:Nat),r.length ≤ f → (Su.walkR f r a).2.2 = 0 → r = (Su.walkR f r a).1.flatMap (fun s=>Su.frameL s.data.toList) ∧ ∀ t ∈ (Su.walkR f r a).1,t.size ≤ 4096
 | 0,r,a,h,_=>by
  obtain rfl:r = []:=List.eq_nil_of_length_eq_zero (by omega)
  exact ⟨rfl,fun t ht=>by cases ht⟩
 | f + 1,r,a,h,h0=>by
  by_cases hr:r = []
  ·subst hr
   rw [Su.walkR_nil]
   exact ⟨rfl,fun t ht=>by cases ht⟩
  ·cases he:Su.restR r with
   | error e =>
    rw [Su.walkR_err hr he] at h0
    have:=Su.restR_err he
    have h00:e = 0:=h0
    omega
   | ok t =>
    obtain ⟨h1,h2,h3⟩:=Su.restR_ok he
    rw [Su.walkR_ok hr he] at h0 ⊢
    have ih:=walk_ok f (r.drop (t.length + 6)) (a + t.length + 6) (by rw [List.length_drop];omega) h0
    refine ⟨?_,fun x hx=>?_⟩
    ·rw [List.flatMap_cons,← ih.1]
     have:(⟨t.toArray⟩:ByteArray).data.toList = t:=by simp
     rw [this,← h3,List.take_append_drop]
    ·rcases List.mem_cons.1 hx with rfl | hx
     ·show t.toArray.size ≤ 4096
      rw [List.size_toArray];exact h1
     ·exact ih.2 x hx
theorem all_ok {L:List UInt8} (h:(Su.allR ⟨L.toArray⟩).2.2 = 0):L = frs (Su.allR ⟨L.toArray⟩).1 0 (Su.allR ⟨L.toArray⟩).1.length ∧ ∀ t ∈ (Su.allR ⟨L.toArray⟩).1,t.size ≤ 4096:=by
 have hd:(⟨L.toArray⟩:ByteArray).data.toList = L:=by simp
 unfold Su.allR at h ⊢
 rw [hd] at h ⊢
 have:=walk_ok (⟨L.toArray⟩:ByteArray).size L 0 (by rw [text_size];exact Nat.le_refl _) h
 refine ⟨?_,this.2⟩
 rw [frs_all,List.take_length]
 exact this.1
theorem all_back {ts:List ByteArray} {n:Nat} (h:∀ t ∈ ts,t.size ≤ 4096):(Su.allR ⟨(frs ts 0 n).toArray⟩).1 = ts.take n ∧ (Su.allR ⟨(frs ts 0 n).toArray⟩).2.2 = 0:=by
 have hd:(⟨(frs ts 0 n).toArray⟩:ByteArray).data.toList = frs ts 0 n:=by simp
 have e:frs ts 0 n = Su.framesL ((ts.take n).map fun s=>s.data.toList):=by
  rw [frs_all]
  unfold Su.framesL
  rw [List.flatMap_map]
 unfold Su.allR
 rw [hd,e,Su.walkR_frames _ _ _ (fun t ht=>by
  obtain ⟨s,hs,rfl⟩:=List.mem_map.1 ht
  have:=h s (List.mem_of_mem_take hs)
  rw [Array.length_toList];exact this) (by rw [text_size];exact Nat.le_refl _)]
 refine ⟨?_,rfl⟩
 rw [List.map_map]
 conv=>rhs;rw [← List.map_id (ts.take n)]
 exact List.map_congr_left fun s _=>by
  cases s
  simp
theorem room_small {D:Dev} (hok:DevOk D):areaN D ≤ 65536:=by have:=hok.max;unfold areaN;omega
theorem many_small {D:Dev} (hok:DevOk D) {ts:List ByteArray} {mn:Nat} {bs wt:List UInt8} (hm:mn ≤ ts.length) (hb:bs = frs ts 0 mn) (hw:wt = frs ts mn ts.length) (hr:bs.length + wt.length ≤ areaN D):ts.length ≤ 1000000:=by
 have h1:=frames_ge ts 0 mn (Nat.zero_le _) hm
 have h2:=frames_ge ts mn ts.length hm (Nat.le_refl _)
 have h3:=room_small hok
 rw [← hb] at h1
 rw [← hw] at h2
 omega
section
variable {D:Dev} {l:Lg}
theorem LgIn.seen {D':Dev} (h:LgIn D l) (hlen:D'.on.length = D.on.length) (hv:∀ j,j < D.on.length → flushF D' j = flushF D j):LgIn D' l:=by
 have hN:=areaN_on hlen
 have hA:=areaAt_on hlen l.ar
 have h4:=h.ok.dev
 have hs:∀ i,i ≤ 2 → hdsP D' i = hdsP D i:=by
  intro i
  induction i with
  | zero=>intro _;rfl
  | succ i ih =>
   intro hi
   show (if okH (areaN D') _ ∧ _ then _ else _) = (if okH (areaN D) _ ∧ _ then _ else _)
   rw [hN,hv i (by omega),ih (by omega)]
 refine ⟨⟨by omega,h.ok.ar,h.ok.mn,by rw [hN];exact h.ok.room,h.ok.many⟩,h.c1,h.cnt,h.bs,h.small,?_,fun hc=>?_⟩
 ·have hst:=h.st
  unfold storedL at hst ⊢
  rw [cat_congr (D:=D) (b:=l.ar) (fun k hk=>?_)]
  ·exact hst
  ·have hd:areaN D / 64 * 64 = areaN D:=by unfold areaN;omega
   have hrm:=h.ok.room
   rw [hA]
   exact hv _ (area_fit h4 h.ok.ar (by omega))
 ·rw [hs 2 (Nat.le_refl _)];exact h.hd hc
theorem fuse_seen (D:Dev) (n:Int):∀ j,flushF (fuD D n).1 j = flushF D j:=fun j=>by
 unfold fuD
 split
 ·rfl
 split
 ·rfl
 ·rfl
theorem app_in (hok:DevOk D) (h:LgIn D l) (t:ByteArray):LgIn D (appendP D l t).1:=by
 unfold appendP
 split
 ·exact h
 split
 ·exact h
 next h1 h2 =>
  have hw:=wait_snoc (l:=l) h.ok.mn t
  have hfl:(Su.frameL t.data.toList).length = t.size + 6:=by rw [Su.frameL_len];rfl
  have hroom:l.bs.length + (waitL ⟨l.cnt,l.ar,l.bs,l.ts ++ [t],l.mn⟩).length ≤ areaN D:=by
   rw [hw,List.length_append,hfl]
   unfold roomN at h2
   omega
  have hbs:l.bs = frs (l.ts ++ [t]) 0 l.mn:=by
   rw [h.bs,frs_all,frs_all,List.take_append_of_le_length h.ok.mn]
  have hmn:l.mn ≤ (l.ts ++ [t]).length:=by rw [List.length_append];have:=h.ok.mn;omega
  refine ⟨⟨h.ok.dev,h.ok.ar,hmn,hroom,many_small hok hmn hbs rfl hroom⟩,h.c1,h.cnt,hbs,fun x hx=>?_,h.st,h.hd⟩
  rcases List.mem_append.1 hx with hx | hx
  ·exact h.small x hx
  ·rw [List.mem_singleton] at hx;subst hx;omega
theorem settle_in (hok:DevOk D) (h:LgIn D l) (hu:D.down = false) {a mn:Nat} {old more:List UInt8} {ts:List ByteArray} (ha:a ≤ 1) (hz:(old ++ more).length ≤ areaN D) (hst:storedL D a old.length = old) (hc:l.cnt < 4611686018427388000)
  (hbs:old ++ more = frs ts 0 mn) (hmn:mn = ts.length) (hsm:∀ t ∈ ts,t.size ≤ 4096) :
  ((settleP D l.cnt a old more).2 = 0 ∧ (settleP D l.cnt a old more).1.down = false ∧ Sc.Clean (settleP D l.cnt a old more).1 ∧ LgIn (settleP D l.cnt a old more).1 ⟨l.cnt + 1,a,old ++ more,ts,mn⟩) ∨ ((settleP D l.cnt a old more).2 = 90 ∧ (settleP D l.cnt a old more).1.down = true):=by
 have h4:=h.ok.dev
 have hab:=room_small hok
 rcases settle_view hok hu h4 l.cnt a old more ha hz with ⟨p1,p2,p3,p4⟩ | p
 case inr=>exact .inr p
 left
 have hlen:=settle_len D l.cnt a old more
 have hok':DevOk (settleP D l.cnt a old more).1:=by
  unfold settleP
  have:∀ {r:Dev × Int} {f:Dev → Dev × Int},DevOk r.1 → (∀ E,DevOk E → DevOk (f E).1) → DevOk (andD r f).1:=fun hr hf=>by
   unfold andD
   split
   ·exact hf _ hr
   ·exact hr
  refine this (wrs_ok _ _ _ _ _ hok) fun D1 h1=>this ?_ fun D2 h2=>this (wrD_ok h2 _ _) fun D3 h3=>flD_ok h3
  split
  ·exact h1
  ·exact flD_ok h1
 generalize (settleP D l.cnt a old more).1 = D' at p2 p3 p4 hlen hok' ⊢
 have hN:=areaN_on hlen
 have hq:(l.cnt + 1) % 2 < 2:=Nat.mod_lt _ (by omega)
 have hz2:(old ++ more).length ≤ areaN D':=by rw [hN];exact hz
 have hw0:waitL ⟨l.cnt + 1,a,old ++ more,ts,mn⟩ = []:=by unfold waitL;rw [hmn];exact frs_same _ _
 have hroom:(old ++ more).length + (waitL ⟨l.cnt + 1,a,old ++ more,ts,mn⟩).length ≤ areaN D':=by rw [hw0];simpa using hz2
 refine ⟨p1,p2,p3,⟨⟨by omega,ha,by rw [hmn];exact Nat.le_refl _,hroom,many_small hok' (by rw [hmn];exact Nat.le_refl _) hbs rfl hroom⟩,by show 1 ≤ l.cnt + 1;omega,by show l.cnt + 1 ≤ _;omega,hbs,hsm,?_,fun hc2=>?_⟩⟩
 ·exact settle_stored hok hok' h4 hlen ha hq hz hst p4
 ·have hd:=h.hd (by show l.cnt ≤ 4611686018427387904;have:l.cnt + 1 ≤ 4611686018427387904:=hc2;omega)
  refine hds_new (c:=l.cnt + 1) hq (by rw [hN];exact Nat.lt_of_le_of_lt hab (by decide)) (by omega) hc2 ha hz2 (by rw [p4 _ (by omega),if_pos rfl]) fun j hj hjq ho=>?_
  have hA2:2 ≤ areaAt D a:=by unfold areaAt;omega
  rw [p4 j (by omega),if_neg hjq,if_neg (by omega)] at ho ⊢
  rw [hN] at ho
  have:=hds_max hd j hj ho
  show _ < l.cnt + 1
  have e:(l.cnt,l.ar,l.bs.length).1 = l.cnt:=rfl
  omega
theorem sync_in (hok:DevOk D) (h:LgIn D l) (hu:D.down = false) (hc:l.cnt < 4611686018427388000) :
  ((syncP D l).2.2 = 0 ∧ (syncP D l).1.down = false ∧ LgIn (syncP D l).1 (syncP D l).2.1 ∧ (syncP D l).2.1.cnt ≤ l.cnt + 1) ∨ ((syncP D l).2.2 = 90 ∧ (syncP D l).1.down = true):=by
 unfold syncP
 split
 ·exact .inl ⟨rfl,hu,h,Nat.le_succ _⟩
 next hm =>
  have hj:l.bs ++ waitL l = frs l.ts 0 l.ts.length:=by rw [h.bs];exact frs_join l.ts h.ok.mn (Nat.le_refl _)
  rcases settle_in hok h hu h.ok.ar (by rw [List.length_append];exact h.ok.room) h.st hc hj rfl h.small with ⟨p1,p2,_,p4⟩ | ⟨p1,p2⟩
  ·left
   rw [if_pos p1]
   exact ⟨rfl,p2,p4,Nat.le_refl _⟩
  ·right
   rw [if_neg (by rw [p1];decide)]
   exact ⟨p1,p2⟩
theorem rst_in (hok:DevOk D) (h:LgIn D l) (hu:D.down = false) (hc:l.cnt < 4611686018427388000) (ts:List ByteArray) :
  ((restartP D l ts).1.down = false ∧ LgIn (restartP D l ts).1 (restartP D l ts).2.1 ∧ (restartP D l ts).2.1.cnt ≤ l.cnt + 1) ∨ ((restartP D l ts).2.2 = 90 ∧ (restartP D l ts).1.down = true):=by
 unfold restartP
 split
 ·exact .inl ⟨hu,h,Nat.le_succ _⟩
 next hsm =>
 split
 ·exact .inl ⟨hu,h,Nat.le_succ _⟩
 next hz =>
  have hsm':∀ t ∈ ts,t.size ≤ 4096:=fun t ht=>Nat.le_of_not_lt fun hlt=>hsm ⟨t,ht,hlt⟩
  have har:=h.ok.ar
  rcases settle_in hok h hu (a:=1 - l.ar) (old:=[]) (more:=allF ts) (ts:=ts) (mn:=ts.length) (by omega) (by rw [List.nil_append];omega) (by unfold storedL;simp) hc rfl rfl hsm' with ⟨p1,p2,_,p4⟩ | ⟨p1,p2⟩
  ·left
   rw [if_pos p1]
   exact ⟨p2,p4,Nat.le_refl _⟩
  ·right
   rw [if_neg (by rw [p1];decide)]
   exact ⟨p1,p2⟩
end
section
variable {D:Dev} {l:Lg}
theorem first_in (hok:DevOk D) (hu:D.down = false) (h4:4 ≤ D.on.length) (hn:hdsP D 2 = none) :
  ((andD (wrD D 1 (headB 1 0 0)) flD).2 = 0 ∧ (andD (wrD D 1 (headB 1 0 0)) flD).1.down = false ∧ Sc.Clean (andD (wrD D 1 (headB 1 0 0)) flD).1 ∧ LgIn (andD (wrD D 1 (headB 1 0 0)) flD).1 ⟨1,0,[],[],0⟩) ∨
  ((andD (wrD D 1 (headB 1 0 0)) flD).2 = 90 ∧ (andD (wrD D 1 (headB 1 0 0)) flD).1.down = true):=by
 have hw:=wr_view hok hu (k:=1) (by omega) (headB_size 1 0 0)
 have hc1:((1:Nat):Int) = 1:=rfl
 rw [hc1] at hw
 have hl1:(wrD D 1 (headB 1 0 0)).1.on.length = D.on.length:=by rw [wrD_on]
 have ho1:=wrD_ok hok 1 (headB 1 0 0)
 unfold andD
 rcases hw with ⟨p1,p2,p3⟩ | ⟨p1,p2⟩
 case inr =>
  right
  rw [if_neg (by rw [p1];decide)]
  exact ⟨p1,p2⟩
 rw [if_pos p1]
 generalize (wrD D 1 (headB 1 0 0)).1 = D1 at p2 p3 hl1 ho1
 have hl2:=(flD_len D1).trans hl1
 have ho2:=flD_ok ho1
 rcases fl_view ho1 p2 with ⟨q1,q2,q3,q4⟩ | q
 case inr=>exact .inr q
 left
 generalize (flD D1).1 = D2 at q2 q3 q4 hl2 ho2 ⊢
 have hN:=areaN_on hl2
 have hab:=room_small hok
 have hv:∀ j,j < D.on.length → flushF D2 j = if j = 1 then headB 1 0 0 else flushF D j:=fun j hj=>by rw [q4 j (by omega),p3 j]
 refine ⟨q1,q2,q3,⟨⟨by omega,Nat.zero_le _,Nat.zero_le _,?_,Nat.zero_le _⟩,Nat.le_refl _,by show 1 ≤ _;omega,rfl,(fun t ht=>by cases ht),(by unfold storedL;simp),fun _=>?_⟩⟩
 ·show 0 + (waitL ⟨1,0,[],[],0⟩).length ≤ _
  have:waitL ⟨1,0,[],[],0⟩ = []:=frs_same _ _
  rw [this]
  simp
 ·refine hds_new (q:=1) (c:=1) (by omega) (by rw [hN];exact Nat.lt_of_le_of_lt hab (by decide)) (by omega) (by omega) (Nat.zero_le 1) (Nat.zero_le _) (by rw [hv 1 (by omega),if_pos rfl];rfl) fun j hj hjq ho=>?_
  rw [hv j (by omega),if_neg hjq,hN] at ho
  exact absurd ho (hds_none hn j hj)
theorem open_in (hok:DevOk D) (h:(openP D).2.1 = some l):LgIn (openP D).1 l ∧ l.cnt ≤ 4611686018427387904 ∧ (openP D).1.down = false ∧ (openP D).2.2 = 0:=by
 unfold openP at h ⊢
 by_cases h4:D.on.length < 4
 ·rw [if_pos h4] at h;cases h
 rw [if_neg h4] at h ⊢
 by_cases hd:D.down = true
 ·rw [if_pos hd] at h;cases h
 rw [if_neg hd] at h ⊢
 have hu:D.down = false:=by simpa using hd
 cases hh:hdsP D 2 with
 | none =>
  rw [hh] at h
  simp only at h ⊢
  rcases first_in hok hu (by omega) hh with ⟨p1,p2,_,p4⟩ | ⟨p1,p2⟩
  ·rw [if_pos p1] at h ⊢
   cases h
   exact ⟨p4,by show 1 ≤ _;omega,p2,rfl⟩
  ·rw [if_neg (by rw [p1];decide)] at h
   cases h
 | some x =>
  obtain ⟨c,a,n⟩:=x
  rw [hh] at h
  simp only at h ⊢
  obtain ⟨q1,q2,q3,q4⟩:=hds_ok hh
  simp only at q1 q2 q3 q4
  by_cases he:(Su.allR ⟨(storedL D a n).toArray⟩).2.2 = 0
  ·rw [if_pos he] at h ⊢
   cases h
   have hlen:=stored_len hok (by omega) q3 q4
   obtain ⟨r1,r2⟩:=all_ok he
   have hw0:waitL ⟨c,a,storedL D a n,(Su.allR ⟨(storedL D a n).toArray⟩).1,(Su.allR ⟨(storedL D a n).toArray⟩).1.length⟩ = []:=frs_same _ _
   have hroom:(storedL D a n).length + (waitL ⟨c,a,storedL D a n,(Su.allR ⟨(storedL D a n).toArray⟩).1,(Su.allR ⟨(storedL D a n).toArray⟩).1.length⟩).length ≤ areaN D:=by rw [hw0,hlen];simpa using q4
   refine ⟨⟨⟨by show 4 ≤ D.on.length;omega,q3,Nat.le_refl _,hroom,many_small hok (Nat.le_refl _) r1 rfl hroom⟩,q1,by show c ≤ _;omega,r1,r2,?_,fun _=>?_⟩,q2,hu,rfl⟩
   ·show storedL D a (storedL D a n).length = storedL D a n
    rw [hlen]
   ·show hdsP D 2 = some (c,a,(storedL D a n).length)
    rw [hh,hlen]
  ·rw [if_neg he] at h;cases h
theorem open_no (h:(openP D).2.1 = none):(openP D).2.2 ≠ 0:=by
 unfold openP at h ⊢
 by_cases h4:D.on.length < 4
 ·rw [if_pos h4]
  show (4:Int) ≠ 0
  decide
 rw [if_neg h4] at h ⊢
 by_cases hd:D.down = true
 ·rw [if_pos hd]
  show (90:Int) ≠ 0
  decide
 rw [if_neg hd] at h ⊢
 cases hh:hdsP D 2 with
 | none =>
  rw [hh] at h
  simp only at h ⊢
  by_cases he:(andD (wrD D 1 (headB 1 0 0)) flD).2 = 0
  ·rw [if_pos he] at h;cases h
  ·rw [if_neg he];exact he
 | some x =>
  obtain ⟨c,a,n⟩:=x
  rw [hh] at h
  simp only at h ⊢
  by_cases he:(Su.allR ⟨(storedL D a n).toArray⟩).2.2 = 0
  ·rw [if_pos he] at h;cases h
  ·rw [if_neg he]
   show (101:Int) ≠ 0
   decide
theorem reopen (h:LgIn D l) (hu:D.down = false) (hc:l.cnt ≤ 4611686018427387904):openP D = (D,some ⟨l.cnt,l.ar,l.bs,l.ts.take l.mn,l.mn⟩,0):=by
 have h4:=h.ok.dev
 have hb:=all_back (n:=l.mn) h.small
 rw [← h.bs] at hb
 unfold openP
 rw [if_neg (by omega),if_neg (by rw [hu];simp),h.hd hc]
 simp only
 rw [h.st,if_pos hb.2,hb.1,List.length_take,Nat.min_eq_left h.ok.mn]
theorem reopen_crash (hok:DevOk D) (h:LgIn D l) (hcl:Sc.Clean D) (hc:l.cnt ≤ 4611686018427387904) (ps:List Int):openP (crD D ps) = (crD D ps,some ⟨l.cnt,l.ar,l.bs,l.ts.take l.mn,l.mn⟩,0) :=
 reopen (h.seen (cr_len D ps) fun _ hj=>cr_view hok.len hcl ps hj) rfl hc
theorem zero_head:∀ ab,¬ okH ab zero64.data.toList:=fun ab h=>by
 have:cOf zero64.data.toList = 0:=by decide
 have h1:=h.1
 omega
theorem new_view {n j:Nat} (h:j < n):flushF (new0 n) j = zero64:=by
 unfold flushF new0
 simp only [List.getD_eq_getElem?_getD,List.getElem?_replicate,if_pos h,Option.getD_some,if_true]
theorem new_heads {n:Nat} (h:4 ≤ n):hdsP (new0 n) 2 = none:=by
 have hs:∀ i,i ≤ 2 → hdsP (new0 n) i = none:=by
  intro i
  induction i with
  | zero=>intro _;rfl
  | succ i ih =>
   intro hi
   show (if okH _ _ ∧ _ then _ else _) = _
   rw [if_neg,ih (by omega)]
   rintro ⟨g,_⟩
   rw [new_view (by omega)] at g
   exact zero_head _ g
 exact hs 2 (Nat.le_refl _)
end
section
variable {D:Dev} {l:Lg}
theorem wrD_idle {D:Dev} (h:Idle D) (_hok:DevOk D) {k:Nat} (hk:k < D.on.length) {t:ByteArray} (ht:t.size = 64):(wrD D (k:Int) t).2 = 0 ∧ Idle (wrD D (k:Int) t).1:=by
 rw [wr_idle h hk ht]
 exact ⟨rfl,rfl,rfl⟩
theorem flD_idle {D:Dev} (h:Idle D):(flD D).2 = 0 ∧ Idle (flD D).1:=by
 rw [fl_idle h]
 exact ⟨rfl,rfl,rfl⟩
theorem wrs_idle {base:Nat} {all:List UInt8}:∀ {n i:Nat} {D:Dev},Idle D → DevOk D → base + i + n ≤ D.on.length → (wrs base all i n D).2 = 0 ∧ Idle (wrs base all i n D).1
 | 0,_,_,h,_,_=>⟨rfl,h⟩
 | n + 1,i,D,h,hok,hl=>by
  have hw:=wrD_idle h hok (k:=base + i) (by omega) (blkB_size all i)
  have e:wrs base all i (n + 1) D = if (wrD D ((base + i:Nat):Int) (blkB all i)).2 = 0 then wrs base all (i + 1) n (wrD D ((base + i:Nat):Int) (blkB all i)).1 else wrD D ((base + i:Nat):Int) (blkB all i):=rfl
  rw [e,if_pos hw.1]
  exact wrs_idle hw.2 (wrD_ok hok _ _) (by rw [wrD_on];omega)
theorem and_idle {r:Dev × Int} {f:Dev → Dev × Int} (h:r.2 = 0 ∧ Idle r.1) (hf:∀ D,D = r.1 → Idle D → (f D).2 = 0 ∧ Idle (f D).1):(andD r f).2 = 0 ∧ Idle (andD r f).1:=by
 unfold andD
 rw [if_pos h.1]
 exact hf _ rfl h.2
theorem settle_idle (hi:Idle D) (hok:DevOk D) (h4:4 ≤ D.on.length) (cnt a:Nat) (old more:List UInt8) (ha:a ≤ 1) (hz:(old ++ more).length ≤ areaN D):(settleP D cnt a old more).2 = 0 ∧ Idle (settleP D cnt a old more).1:=by
 have hml:=many_le hz
 have hfit:areaAt D a + areaN D / 64 ≤ D.on.length:=by
  unfold areaAt areaN
  rw [Nat.mul_div_cancel _ (by omega)]
  have:a = 0 ∨ a = 1:=by omega
  rcases this with rfl | rfl <;> omega
 have hq:(cnt + 1) % 2 < 2:=Nat.mod_lt _ (by omega)
 unfold settleP
 refine and_idle (wrs_idle hi hok (by omega)) fun D1 e1 i1=>and_idle ?_ fun D2 e2 i2=>and_idle ?_ fun D3 _ i3=>flD_idle i3
 ·split
  ·exact ⟨rfl,i1⟩
  ·exact flD_idle i1
 ·have hl1:D1.on.length = D.on.length:=by rw [e1];exact wrs_len _ _ _ _ _
  have ho1:DevOk D1:=by rw [e1];exact wrs_ok _ _ _ _ _ hok
  have hl2:D2.on.length = D.on.length:=by
   rw [e2]
   split
   ·exact hl1
   ·rw [flD_len];exact hl1
  have ho2:DevOk D2:=by
   rw [e2]
   split
   ·exact ho1
   ·exact flD_ok ho1
  exact wrD_idle i2 ho2 (by omega) (headB_size _ _ _)
theorem sync_idle (hi:Idle D) (hok:DevOk D) (h:LgIn D l) (hc:l.cnt < 4611686018427388000) (hm:l.mn ≠ l.ts.length) :
  ∃ D2,syncP D l = (D2,⟨l.cnt + 1,l.ar,l.bs ++ waitL l,l.ts,l.ts.length⟩,0) ∧ Idle D2 ∧ Sc.Clean D2 ∧ DevOk D2 ∧ D2.on.length = D.on.length ∧ LgIn D2 ⟨l.cnt + 1,l.ar,l.bs ++ waitL l,l.ts,l.ts.length⟩:=by
 have hz:(l.bs ++ waitL l).length ≤ areaN D:=by rw [List.length_append];exact h.ok.room
 obtain ⟨p1,p2⟩:=settle_idle hi hok h.ok.dev l.cnt l.ar l.bs (waitL l) h.ok.ar hz
 have hj:l.bs ++ waitL l = frs l.ts 0 l.ts.length:=by rw [h.bs];exact frs_join l.ts h.ok.mn (Nat.le_refl _)
 rcases settle_in hok h hi.2 h.ok.ar hz h.st hc hj rfl h.small with ⟨q1,q2,q3,q4⟩ | ⟨q1,_⟩
 case inr=>rw [p1] at q1;cases q1
 refine ⟨_,?_,p2,q3,settle_ok hok _ _ _ _,settle_len _ _ _ _ _,q4⟩
 unfold syncP
 rw [if_neg hm,if_pos p1]
where
 settle_ok {D:Dev} (hok:DevOk D) (cnt a:Nat) (old more:List UInt8):DevOk (settleP D cnt a old more).1:=by
  have:∀ {r:Dev × Int} {f:Dev → Dev × Int},DevOk r.1 → (∀ E,DevOk E → DevOk (f E).1) → DevOk (andD r f).1:=fun hr hf=>by
   unfold andD
   split
   ·exact hf _ hr
   ·exact hr
  unfold settleP
  refine this (wrs_ok _ _ _ _ _ hok) fun D1 h1=>this ?_ fun D2 h2=>this (wrD_ok h2 _ _) fun D3 h3=>flD_ok h3
  split
  ·exact h1
  ·exact flD_ok h1
theorem rst_idle (hi:Idle D) (hok:DevOk D) (h:LgIn D l) (hc:l.cnt < 4611686018427388000) (ts:List ByteArray) (hs:∀ t ∈ ts,t.size ≤ 4096) (hz:(allF ts).length ≤ areaN D) :
  ∃ D2,restartP D l ts = (D2,⟨l.cnt + 1,1 - l.ar,allF ts,ts,ts.length⟩,0) ∧ Idle D2 ∧ Sc.Clean D2 ∧ DevOk D2 ∧ D2.on.length = D.on.length ∧ LgIn D2 ⟨l.cnt + 1,1 - l.ar,allF ts,ts,ts.length⟩:=by
 have har:=h.ok.ar
 have hz':([] ++ allF ts).length ≤ areaN D:=by rw [List.nil_append];exact hz
 obtain ⟨p1,p2⟩:=settle_idle hi hok h.ok.dev l.cnt (1 - l.ar) [] (allF ts) (by omega) hz'
 rcases settle_in hok h hi.2 (a:=1 - l.ar) (old:=[]) (more:=allF ts) (ts:=ts) (mn:=ts.length) (by omega) hz' (by unfold storedL;simp) hc rfl rfl hs with ⟨q1,q2,q3,q4⟩ | ⟨q1,_⟩
 case inr=>rw [p1] at q1;cases q1
 refine ⟨_,?_,p2,q3,sync_idle.settle_ok hok _ _ _ _,settle_len _ _ _ _ _,q4⟩
 unfold restartP
 rw [if_neg (by rintro ⟨t,h1,h2⟩;have:=hs t h1;omega),if_neg (by omega),if_pos p1]
theorem app_fits {t:ByteArray} (h1:t.size ≤ 4096) (h2:t.size + 6 ≤ roomN D l):appendP D l t = (⟨l.cnt,l.ar,l.bs,l.ts ++ [t],l.mn⟩,0):=by
 unfold appendP
 rw [if_neg (by omega),if_neg (by omega)]
theorem fresh_open {n:Nat} (h4:4 ≤ n) (hm:n ≤ 2048):∃ D1,openP (new0 n) = (D1,some ⟨1,0,[],[],0⟩,0) ∧ Idle D1 ∧ Sc.Clean D1 ∧ DevOk D1 ∧ D1.on.length = n ∧ LgIn D1 ⟨1,0,[],[],0⟩:=by
 have hok:=new0_ok (show 1 ≤ n by omega) hm
 have hl:(new0 n).on.length = n:=by simp [new0]
 have hid:=new0_idle n
 have hh:=new_heads h4
 have hi:(andD (wrD (new0 n) 1 (headB 1 0 0)) flD).2 = 0 ∧ Idle (andD (wrD (new0 n) 1 (headB 1 0 0)) flD).1 :=
  and_idle (wrD_idle (k:=1) hid hok (by omega) (headB_size _ _ _)) fun D1 _ i1=>flD_idle i1
 rcases first_in hok hid.2 (by omega) hh with ⟨p1,p2,p3,p4⟩ | ⟨p1,_⟩
 case inr=>rw [hi.1] at p1;cases p1
 refine ⟨_,?_,hi.2,p3,?_,?_,p4⟩
 ·unfold openP
  rw [if_neg (by omega),if_neg (by rw [hid.2];simp),hh]
  simp only
  rw [if_pos p1]
 ·unfold andD
  split
  ·exact flD_ok (wrD_ok hok _ _)
  ·exact wrD_ok hok _ _
 ·refine (and_len (n:=n) ?_ fun D h=>?_)
  ·rw [wrD_on];exact hl
  ·rw [flD_len];exact h
end
end Rd
end Go.Proofs.YtmidncclndongaaGreat
