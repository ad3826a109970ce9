/- Parts of the proof, joined: ShL1, ShL2, ShL3, ShL4, ShL5; their conditions stand with each. -/
import Derived.Lib.Bytealg
import Derived.Test.YtlfkhlfkckfbpaaGreatC3
import Derived.Test.YtlfkhlfkckfbpaaGreatC4
import Derived.Test.YtlfkhlfkckfbpaaGreatC26

set_option maxRecDepth 20000
set_option maxHeartbeats 8000000
namespace Go.Proofs.YtlfkhlfkckfbpaaGreat
namespace Sh
open Go.RowKit Bk Ch Lt Rc Tr
noncomputable def strQ:KeyT Tryz.prog 9 ByteArray:=strT Tryz.underlying9
noncomputable def intQ:KeyT Tryz.prog 3 Int:=intT Tryz.underlying3
theorem strQ_ok {s:ByteArray} (h:s.size ≤ maxLen):strQ.ok s:=h
theorem intQ_ok {x:Int} (h1:-9223372036854775808 ≤ x) (h2:x ≤ 9223372036854775807):intQ.ok x:=WalkArith.wf_i64 ⟨h1,h2⟩
def kp (x:KI):ByteArray × Value:=(x.k.name,.slice x.A x.k.l.length x.c)
def pp (x:RI):Int × Value:=(x.l.txn,.agg (rcs x).toArray)
def Mu (g bc bp:Nat) (v:Value):Nat → Prop:=fun k=>k = g ∨ k = bc ∨ k = bp ∨ v.ownBlock = some k
structure LAt (W:World) (F:Nat → Prop) (g bc bp:Nat) (v:Value) (K:List KI) (P:List RI) (s:Shf):Prop where
 cel:Cel W g 112 [.map (some bc),.map (some bp),v,.int .i64 s.over]
 mc:MapIs strQ W bc (K.map kp)
 mp:MapIs intQ W bp (P.map pp)
 re:W.ownsRow 0 135 2 v s.e.length (s.e.flatMap ecs)
 en:s.e = [] → v = .slice none 0 0
 kv:∀ x ∈ K,KVal W (Mu g bc bp v) x
 pv:∀ x ∈ P,PVal W (Mu g bc bp v) x
 ek:K.map (·.k) = s.k
 ep:P.map (·.l) = s.p
 bd:bc ≠ bp
 fm:∀ k,Mu g bc bp v k → F k
 fk:∀ x ∈ K,0 < x.k.l.length → ∀ ad,x.A = some ad → F ad.block
 fp:∀ x ∈ P,(0 < x.l.keys.length → ∀ ad,x.A = some ad → F ad.block) ∧ (0 < x.l.ws.length → ∀ ad,x.B = some ad → F ad.block)
 fl:∀ k,F k → k < W.heap.size
def LRep (W:World) (F:Nat → Prop) (g:Nat) (s:Shf):Prop:=∃ bc bp v K P,LAt W F g bc bp v K P s
section
variable {W W':World} {F:Nat → Prop} {g bc bp:Nat} {v:Value} {K:List KI} {P:List RI} {s:Shf}
theorem rowF_in {A:Option Addr} {cs:List Value} {M:Nat → Prop} (h:RowF W M A cs) (hF:0 < cs.length → ∀ ad,A = some ad → F ad.block) (hs:W.heap.size ≤ W'.heap.size) (hk:∀ k,F k → W'.heap[k]? = W.heap[k]?):RowF W' M A cs:=fun hp=>by
 obtain ⟨ad,e,h1,h2,h3⟩:=h hp
 refine ⟨ad,e,Nat.lt_of_lt_of_le h1 hs,h2,fun j u hu=>?_⟩
 rw [← h3 j u hu]
 unfold World.cell?
 rw [st_block,hk _ (hF hp ad e)]
theorem kval_in {x:KI} {M:Nat → Prop} (h:KVal W M x) (hF:0 < x.k.l.length → ∀ ad,x.A = some ad → F ad.block) (hs:W.heap.size ≤ W'.heap.size) (hk:∀ k,F k → W'.heap[k]? = W.heap[k]?):KVal W' M x :=
 ⟨rowF_in h.row (fun hp=>hF (by rw [vrV_len] at hp;omega)) hs hk,h.nil,h.le,h.cap⟩
theorem cell_in (hk:∀ k,F k → W'.heap[k]? = W.heap[k]?) {a:Addr} (ha:F a.block):W'.cell? a = W.cell? a:=by unfold World.cell?;rw [hk _ ha]
theorem strs_in {A:Option Addr} {l:List ByteArray} (h:StrsAt W A l) (hF:0 < l.length → ∀ ad,A = some ad → F ad.block) (hs:W.heap.size ≤ W'.heap.size) (hk:∀ k,F k → W'.heap[k]? = W.heap[k]?):StrsAt W' A l:=fun hp=>by
 obtain ⟨ad,e,h1,h2⟩:=h hp
 have hn:=hF hp ad e
 exact ⟨ad,e,Nat.lt_of_lt_of_le h1 hs,fun i hi=>(cell_in hk (by rw [st_block];exact hn)).trans (h2 i hi)⟩
theorem wrs_in {A:Option Addr} {l:List Wr} (h:WrsAt W A l) (hF:0 < l.length → ∀ ad,A = some ad → F ad.block) (hs:W.heap.size ≤ W'.heap.size) (hk:∀ k,F k → W'.heap[k]? = W.heap[k]?):WrsAt W' A l:=fun hp=>by
 obtain ⟨ad,e,h1,h2⟩:=h hp
 have hn:=hF hp ad e
 exact ⟨ad,e,Nat.lt_of_lt_of_le h1 hs,fun i hi=>⟨(cell_in hk (by rw [st_block];exact hn)).trans (h2 i hi).1,(cell_in hk (by rw [st_block];exact hn)).trans (h2 i hi).2.1,(cell_in hk (by rw [st_block];exact hn)).trans (h2 i hi).2.2⟩⟩
theorem pval_in {x:RI} {M:Nat → Prop} (h:PVal W M x) (hF:(0 < x.l.keys.length → ∀ ad,x.A = some ad → F ad.block) ∧ (0 < x.l.ws.length → ∀ ad,x.B = some ad → F ad.block)) (hs:W.heap.size ≤ W'.heap.size) (hk:∀ k,F k → W'.heap[k]? = W.heap[k]?):PVal W' M x :=
 ⟨⟨strs_in h.val.ks hF.1 hs hk,wrs_in h.val.ws hF.2 hs hk,h.val.rng,h.val.kn,h.val.wn⟩,h.ka,h.wa⟩
theorem row_in {e:TypeId} {n:Nat} {cs:List Value} (h:W.ownsRow 0 e 2 v n cs) (hF:∀ k,v.ownBlock = some k → W'.heap[k]? = W.heap[k]?):W'.ownsRow 0 e 2 v n cs:=by
 rcases h with ⟨hl,h0 | ⟨i,cap,cur,hv,hb,hgt,rest⟩⟩
 ·exact ⟨hl,.inl h0⟩
 ·exact ⟨hl,.inr ⟨i,cap,cur,hv,hb,(hF i (by rw [hv];rfl)).trans hgt,rest⟩⟩
theorem LAt.kept (h:LAt W F g bc bp v K P s) (hs:W.heap.size ≤ W'.heap.size) (hk:∀ k,F k → W'.heap[k]? = W.heap[k]?):LAt W' F g bc bp v K P s :=
 ⟨(hk g (h.fm g (.inl rfl))).trans h.cel,h.mc.kept (hk bc (h.fm bc (.inr (.inl rfl)))),h.mp.kept (hk bp (h.fm bp (.inr (.inr (.inl rfl))))),
  row_in h.re (fun k hv=>hk k (h.fm k (.inr (.inr (.inr hv))))),h.en,fun x hx=>kval_in (h.kv x hx) (h.fk x hx) hs hk,fun x hx=>pval_in (h.pv x hx) (h.fp x hx) hs hk,
  h.ek,h.ep,h.bd,h.fm,h.fk,h.fp,fun k hf=>Nat.lt_of_lt_of_le (h.fl k hf) hs⟩
theorem LAt.below (h:LAt W F g bc bp v K P s) (hb:Below W.heap.size W W'):LAt W' F g bc bp v K P s:=h.kept hb.size (fun k hf=>hb.block k (h.fl k hf))
theorem LRep.kept (h:LRep W F g s) (hs:W.heap.size ≤ W'.heap.size) (hk:∀ k,F k → W'.heap[k]? = W.heap[k]?):LRep W' F g s:=by
 obtain ⟨bc,bp,v,K,P,h⟩:=h
 exact ⟨bc,bp,v,K,P,h.kept hs hk⟩
theorem LRep.below (h:LRep W F g s) (hb:Below W.heap.size W W'):LRep W' F g s:=by
 obtain ⟨bc,bp,v,K,P,h⟩:=h
 exact ⟨bc,bp,v,K,P,h.below hb⟩
theorem LRep.lt (h:LRep W F g s):∀ k,F k → k < W.heap.size:=by
 obtain ⟨bc,bp,v,K,P,h⟩:=h
 exact h.fl
theorem LAt.klen (h:LAt W F g bc bp v K P s):K.length = s.k.length:=by rw [← h.ek,List.length_map]
theorem LAt.plen (h:LAt W F g bc bp v K P s):P.length = s.p.length:=by rw [← h.ep,List.length_map]
theorem LAt.key_in (h:LAt W F g bc bp v K P s) {key:ByteArray} {k:Kc} (hf:findK s.k key = some k):∃ x ∈ K,x.k = k ∧ (key,Value.slice x.A x.k.l.length x.c) ∈ K.map kp:=by
 obtain ⟨h1,h2⟩:=find_mem hf
 rw [← h.ek] at h1
 obtain ⟨x,hx,rfl⟩:=List.mem_map.1 h1
 exact ⟨x,hx,rfl,List.mem_map.2 ⟨x,hx,by unfold kp;rw [h2]⟩⟩
theorem LAt.key_out (h:LAt W F g bc bp v K P s) {key:ByteArray} (hf:findK s.k key = none):key ∉ (K.map kp).map (·.1):=fun hc=>by
 obtain ⟨q,hq,e⟩:=List.mem_map.1 hc
 obtain ⟨x,hx,rfl⟩:=List.mem_map.1 hq
 unfold findK at hf
 rw [List.find?_eq_none] at hf
 have:=hf x.k (by rw [← h.ek];exact List.mem_map_of_mem hx)
 simp only [decide_eq_true_eq] at this
 exact this e
theorem Tryz.zeroRow:∀ W:World,(zeroValue 35).run Tryz.prog W = .ok (.slice none 0 0) W:=fun W=>by kernel_rfl
theorem LAt.chain (h:LAt W F g bc bp v K P s) {key:ByteArray} (hk:key.size ≤ maxLen):∃ x:KI,x.k.l = chainK s.k key ∧ KVal W (Mu g bc bp v) x ∧ (0 < x.k.l.length → ∀ ad,x.A = some ad → F ad.block) ∧
  ∀ V:World,LAt V F g bc bp v K P s → (Instr.lookup 108 (.map (some bc)) (.string key) false).run Tryz.prog V = .ok (.slice x.A x.k.l.length x.c) V:=by
 cases hf:findK s.k key with
 | none =>
  refine ⟨⟨⟨key,[]⟩,none,0⟩,by unfold chainK;rw [hf],⟨fun hp=>absurd hp (by simp [vrV]),fun _=>⟨rfl,rfl⟩,Nat.le_refl _,Nat.zero_le _⟩,fun hp=>absurd hp (by simp),fun V hV=>?_⟩
  exact hV.mc.look_no Tryz.underlying108 (Tryz.zeroRow V) (x:=key) (strQ_ok hk) (hV.key_out hf)
 | some k =>
  obtain ⟨x,hx,rfl,hm⟩:=h.key_in hf
  refine ⟨x,by unfold chainK;rw [hf],h.kv x hx,h.fk x hx,fun V hV=>?_⟩
  exact hV.mc.look Tryz.underlying108 (Tryz.zeroRow V) (x:=key) hm
end
end Sh
end Go.Proofs.YtlfkhlfkckfbpaaGreat
namespace Go.Proofs.YtlfkhlfkckfbpaaGreat
namespace Sh
open Go.RowKit Bk Ch Lt Rc Tr
attribute [local go_sem ↓] Go.wp_at_zero Go.wp_at_succ
attribute [local go_sem] floatUpon pick
structure MidK (l:List ByteArray) (key:ByteArray) (i j:Nat):Prop where
 le:i ≤ j
 ln:j ≤ l.length
 low:∀ k (h:k < l.length),k < i → ltK l[k] key = true
 high:∀ k (h:k < l.length),j ≤ k → ltK l[k] key = false
theorem MidK.start (l:List ByteArray) (key:ByteArray):MidK l key 0 l.length:=⟨Nat.zero_le _,Nat.le_refl _,fun _ _ h=>absurd h (by omega),fun _ h1 h2=>absurd h1 (by omega)⟩
theorem rise_lt {l:List ByteArray} (hr:l.Pairwise (fun x y=>ltK x y = true)) {key:ByteArray} {i j:Nat} (hj:j < l.length) (hij:i ≤ j) (h:ltK l[j] key = true):ltK (l[i]'(by omega)) key = true:=by
 rcases Nat.eq_or_lt_of_le hij with e | e
 ·subst e;exact h
 ·exact lt_trans (List.pairwise_iff_getElem.1 hr i j (by omega) hj e) h
theorem MidK.left {l:List ByteArray} {key:ByteArray} {i j m:Nat} (h:MidK l key i j) (hr:l.Pairwise (fun x y=>ltK x y = true)) (hm:m < l.length) (hmj:m < j) (ht:ltK l[m] key = true):MidK l key (m + 1) j :=
 ⟨by omega,h.ln,fun k _ hkm=>rise_lt hr hm (by omega) ht,h.high⟩
theorem MidK.right {l:List ByteArray} {key:ByteArray} {i j m:Nat} (h:MidK l key i j) (hr:l.Pairwise (fun x y=>ltK x y = true)) (hm:m < l.length) (him:i ≤ m) (ht:ltK l[m] key = false):MidK l key i m :=
 ⟨him,by omega,h.low,fun k hk hkm=>by
  cases hc:ltK l[k] key with
  | false=>rfl
  | true=>rw [rise_lt hr hk hkm hc] at ht;cases ht⟩
theorem MidK.out {l:List ByteArray} {key:ByteArray} {i:Nat} (h:MidK l key i i) (hn:¬ i < l.length):l.any (fun y=>decide (y = key)) = false:=by
 rw [List.any_eq_false]
 intro y hy
 obtain ⟨k,hk,rfl⟩:=List.getElem_of_mem hy
 simp only [decide_eq_true_eq]
 exact fun e=>lt_ne (h.low k hk (by omega)) e
theorem MidK.hit {l:List ByteArray} {key:ByteArray} {i:Nat} (h:MidK l key i i) (hr:l.Pairwise (fun x y=>ltK x y = true)) (hi:i < l.length):l.any (fun y=>decide (y = key)) = decide (l[i] = key):=by
 by_cases e:l[i] = key
 ·rw [decide_eq_true e]
  exact List.any_eq_true.2 ⟨_,List.getElem_mem hi,by simp [e]⟩
 ·rw [decide_eq_false e,List.any_eq_false]
  intro y hy
  obtain ⟨k,hk,rfl⟩:=List.getElem_of_mem hy
  simp only [decide_eq_true_eq]
  intro ek
  rcases Nat.lt_trichotomy k i with h1 | h1 | h1
  ·exact lt_ne (h.low k hk h1) ek
  ·subst h1;exact e ek
  ·have h2:=List.pairwise_iff_getElem.1 hr i k hi hk h1
   rw [ek] at h2
   rw [h.high i hi (Nat.le_refl _)] at h2
   cases h2
theorem cmp_lt:∀ a b:List UInt8,Go.Lib.compareBytes a b < 0 ↔ Op.bytesLess a b = true
 | [],[]=>by simp [Go.Lib.compareBytes,Op.bytesLess]
 | [],_ :: _=>by simp [Go.Lib.compareBytes,Op.bytesLess]
 | _ :: _,[]=>by simp [Go.Lib.compareBytes,Op.bytesLess]
 | a :: x,b :: y=>by
  unfold Go.Lib.compareBytes Op.bytesLess
  simp only [Bool.or_eq_true,Bool.and_eq_true,decide_eq_true_eq,beq_iff_eq]
  by_cases h1:a < b
  ·rw [if_pos h1]
   exact ⟨fun _=>.inl h1,fun _=>by decide⟩
  ·rw [if_neg h1]
   by_cases h2:b < a
   ·rw [if_pos h2]
    refine ⟨fun h=>absurd h (by decide),fun h=>?_⟩
    rcases h with h | ⟨rfl,_⟩
    ·exact absurd h h1
    ·exact absurd h2 h1
   ·rw [if_neg h2]
    have e:a = b:=UInt8.le_antisymm (UInt8.not_lt.1 h2) (UInt8.not_lt.1 h1)
    rw [cmp_lt x y]
    exact ⟨fun h=>.inr ⟨e,h⟩,fun h=>h.elim (fun h=>absurd h h1) (fun h=>h.2)⟩
theorem cmp_zero:∀ a b:List UInt8,Go.Lib.compareBytes a b = 0 ↔ a = b
 | [],[]=>by simp [Go.Lib.compareBytes]
 | [],_ :: _=>by simp [Go.Lib.compareBytes]
 | _ :: _,[]=>by simp [Go.Lib.compareBytes]
 | a :: x,b :: y=>by
  unfold Go.Lib.compareBytes
  by_cases h1:a < b
  ·rw [if_pos h1]
   refine ⟨fun h=>absurd h (by decide),fun h=>?_⟩
   obtain ⟨rfl,_⟩:=List.cons.inj h
   exact absurd h1 (UInt8.lt_irrefl _)
  ·rw [if_neg h1]
   by_cases h2:b < a
   ·rw [if_pos h2]
    refine ⟨fun h=>absurd h (by decide),fun h=>?_⟩
    obtain ⟨rfl,_⟩:=List.cons.inj h
    exact absurd h2 (UInt8.lt_irrefl _)
   ·rw [if_neg h2]
    have e:a = b:=UInt8.le_antisymm (UInt8.not_lt.1 h2) (UInt8.not_lt.1 h1)
    rw [cmp_zero x y]
    exact ⟨fun h=>by rw [e,h],fun h=>(List.cons.inj h).2⟩
def cmpK (a b:ByteArray):Int:=Go.Lib.compareBytes a.data.toList b.data.toList
theorem cmpK_lt (a b:ByteArray):decide (cmpK a b < 0) = ltK a b:=by
 unfold cmpK ltK
 have h:=cmp_lt a.data.toList b.data.toList
 rw [← ByteArray.toList_eq,← ByteArray.toList_eq] at h
 rw [ByteArray.toList_eq,ByteArray.toList_eq] at h ⊢
 cases hc:Op.bytesLess a.data.toList b.data.toList with
 | true=>exact decide_eq_true (h.2 hc)
 | false=>exact decide_eq_false (fun h2=>by have:=h.1 h2;rw [hc] at this;cases this)
theorem cmpK_zero (a b:ByteArray):cmpK a b = 0 ↔ a = b:=by
 unfold cmpK
 rw [cmp_zero]
 constructor
 ·intro h
  cases a;cases b
  congr 1
  exact Array.toList_inj.1 h
 ·rintro rfl;rfl
theorem isNaN1_any (s:ByteArray) (w:World):Calls Tryz.prog 195 #[.string s] w fun e w'=>e = .returned (.bool false) ∧ w' = w:=by
 go_enter Tryz.func195,Tryz.ntmps195
 go_wp2_with fail
 go_ret
 exact ⟨rfl,rfl⟩
theorem isNaN2_any (s:ByteArray) (w:World):Calls Tryz.prog 164 #[.string s] w fun e w'=>e = .returned (.bool false) ∧ w' = w:=by
 go_enter Tryz.func164,Tryz.ntmps164
 go_wp2_with fail
 go_ret
 exact ⟨rfl,rfl⟩
theorem less_any (a b:ByteArray) (w:World):Calls Tryz.prog 163 #[.string a,.string b] w fun e w'=>e = .returned (.bool (ltK a b)) ∧ w' = w:=by
 have H1:=Lib.hid (isNaN1_any a w)
 have H2:=Lib.hid (isNaN1_any b w)
 go_enter Tryz.func163,Tryz.ntmps163
 go_wp2_with fail
 refine H1.out.mono ?_
 rintro e1 w1 ⟨rfl,rfl⟩
 go_wp2_with fail
 go_ret
 exact ⟨rfl,rfl⟩
set_option maxRecDepth 100000 in
theorem compare_any (a b:ByteArray) (w:World):Calls Tryz.prog 108 #[.string a,.string b] w fun e w'=>e = .returned (.int .i64 (cmpK a b)) ∧ w' = w:=by
 have H2:=Lib.hid (show Calls Tryz.prog 162 #[.string a,.string b] w fun e w'=>e = .returned (.int .i64 (cmpK a b)) ∧ w' = w by
  go_enter Tryz.func162,Tryz.ntmps162
  go_wp2
  rw [run_callFunc_extern Tryz.func194 (by kernel_rfl) (by kernel_rfl) (by kernel_rfl) (e:=Extern.BytealgCompare.compare) (by kernel_rfl),Lib.run_compareString]
  simp only [Result.andThen]
  rw [Oper.upon_value]
  go_wp2
  go_ret
  exact ⟨rfl,rfl⟩)
 go_enter Tryz.func108,Tryz.ntmps108
 go_wp2_with fail
 refine H2.out.mono ?_
 rintro e1 w1 ⟨rfl,rfl⟩
 go_wp2_with fail
 go_ret
 exact ⟨rfl,rfl⟩
theorem wrs_at {W:World} {B:Option Addr} {ws:List Wr} (h:WrsAt W B ws) {i:Nat} (hi:i < ws.length):∃ ad,B = some ad ∧ W.cell? (ad.add (i * 3)) = some (.string ws[i].key) ∧ W.cell? ⟨(ad.add (i * 3)).block,(ad.add (i * 3)).off + 1,none⟩ = some (.string ws[i].shard) ∧ W.cell? ⟨(ad.add (i * 3)).block,(ad.add (i * 3)).off + 2,none⟩ = some (.bool ws[i].dead):=by
 obtain ⟨ad,e,_,h2⟩:=h (by omega)
 obtain ⟨x0,x1,x2⟩:=h2 i hi
 exact ⟨ad,e,x0,by rw [Ch.add_field _ _ _ (by omega)];exact x1,by rw [Ch.add_field _ _ _ (by omega)];exact x2⟩
theorem writes1_any (k t:ByteArray) (d:Bool) (key:ByteArray) (w:World):Calls Tryz.prog 107 #[.agg #[.string k,.string t,.bool d],.string key] w fun e w'=>e = .returned (.int .i64 (cmpK k key)) ∧ Below w.heap.size w w':=by
 have H:=Lib.hid (fun W=>compare_any k key W)
 go_enter Tryz.func107,Tryz.ntmps107
 go_wp2_with fail
 refine (H.out _).mono ?_
 rintro e1 w1 ⟨rfl,rfl⟩
 go_wp2_with fail
 go_ret
 exact ⟨rfl,(Below.refl _ _).alloc (Nat.le_refl _) _⟩
theorem bsearch_any (A:Option Addr) (c:Nat) (l:List ByteArray) (key:ByteArray) (w:World) (hA:StrsAt w A l) (hr:l.Pairwise (fun x y=>ltK x y = true)) (hn:l.length ≤ 1024) :
  Calls Tryz.prog 109 #[.slice A l.length c,.string key] w fun e w'=>(∃ n:Int,e = .returned (.tuple #[.int .i64 n,.bool (l.any fun y=>decide (y = key))])) ∧ w' = w:=by
 have HL:=Lib.hid (fun x W=>less_any x key W)
 have HN:=Lib.hid (fun x W=>isNaN2_any x W)
 have HA:=Lib.hid hA
 have HR:=Lib.hid hr
 have hlen:(l.length:Int) ≤ 1024:=by omega
 clear hA hr hn
 go_enter Tryz.func109,Tryz.ntmps109
 go_wp2_with fail
 go_loopw [7,8] (fun iv jv wr=>∃ i j:Nat,iv = .int .i64 (i:Int) ∧ jv = .int .i64 (j:Int) ∧ Hid (MidK l key i j) ∧ wr = w) (fun iv jv _=>(RowKit.intOf jv).toNat - (RowKit.intOf iv).toNat)
 case atStart=>exact ⟨0,l.length,rfl,rfl,Lib.hid (MidK.start l key),rfl⟩
 case round =>
  obtain ⟨i,j,rfl,rfl,hm,rfl⟩:=hrel
  have hij:=hm.out.le
  have hjl:=hm.out.ln
  have pj:(j:Int) ≤ 1024:=by omega
  by_cases hlt:i < j
  ·have pij:(i:Int) < (j:Int):=by omega
   obtain ⟨m,hmm⟩:∃ m:Nat,(i + j) / 2 = m:=⟨_,rfl⟩
   have him:i ≤ m:=by omega
   have hmj:m < j:=by omega
   have hml:m < l.length:=by omega
   obtain ⟨ad,rfl,_,hcl⟩:=HA.out (by omega)
   have x0:=hcl m hml
   go_upto_region 5 with fail
   rw [show ((i:Int) + (j:Int)) / 2 = (m:Int) by omega]
   have pml:(m:Int) < (l.length:Int):=by omega
   have pm:(m:Int) ≤ 1024:=by omega
   cases ht:ltK l[m] key with
   | false =>
    have HM:=Lib.hid (hm.out.right HR.out hml him ht)
    have HLm:=Lib.hid (HL.out l[m])
    rw [ht] at HLm
    generalize l[m] = k at x0 HLm
    have HLt:=Lib.hid hmj
    clear hm ht hmm him hij hjl pij hcl hlt hmj HL HN
    go_wp2_with fail
    refine (HLm.out _).mono ?_
    rintro e2 w2 ⟨rfl,rfl⟩
    go_wp2_with fail
    go_roundw
    case rel=>exact ⟨i,m,rfl,rfl,HM,trivial⟩
    case measure=>simp [RowKit.intOf];have:=HM.out.le;have:=HLt.out;omega
   | true =>
    have HM:=Lib.hid (hm.out.left HR.out hml hmj ht)
    have HLm:=Lib.hid (HL.out l[m])
    rw [ht] at HLm
    generalize l[m] = k at x0 HLm
    have HMi:=Lib.hid him
    have HLt:=Lib.hid hlt
    clear hm ht hmm him hij hjl pij hcl hlt hmj HL HN
    go_wp2_with fail
    refine (HLm.out _).mono ?_
    rintro e2 w2 ⟨rfl,rfl⟩
    go_wp2_with fail
    go_roundw
    case rel=>exact ⟨m + 1,j,by go_num,rfl,HM,trivial⟩
    case measure=>simp [RowKit.intOf];have:=HMi.out;have:=HLt.out;omega
  ·obtain rfl:i = j:=by omega
   by_cases hi:i < l.length
   ·have hh:=hm.out.hit HR.out hi
    have pi:(i:Int) < (l.length:Int):=by omega
    obtain ⟨ad,rfl,_,hcl⟩:=HA.out (by omega)
    have x0:=hcl i hi
    by_cases e:l[i] = key
    ·rw [e] at x0 hh
     simp only [decide_true] at hh
     have HH:=Lib.hid hh
     have te:=text_eq key
     clear hm hh hcl e HL
     go_wp2_with fail
     go_ret2
     exact ⟨⟨(i:Int),by rw [HH.out];rfl⟩,rfl⟩
    ·rw [decide_eq_false e] at hh
     have HH:=Lib.hid hh
     have HNm:=Lib.hid (HN.out l[i])
     have te:=text_ne e
     generalize l[i] = k at x0 te HNm
     clear hm hh hcl e HL
     go_wp2_with fail
     refine (HNm.out _).mono ?_
     rintro e2 w2 ⟨rfl,rfl⟩
     go_wp2_with fail
     go_ret2
     exact ⟨⟨(i:Int),by rw [HH.out];rfl⟩,rfl⟩
   ·have HH:=Lib.hid (hm.out.out hi)
    have pi:¬ (i:Int) < (l.length:Int):=by omega
    clear hm HL HN
    go_wp2_with fail
    go_ret2
    exact ⟨⟨(i:Int),by rw [HH.out];rfl⟩,rfl⟩
theorem cmpB {k key:ByteArray} {b:Bool} (h:ltK k key = b):decide (cmpK k key < 0) = b:=by rw [cmpK_lt,h]
theorem bsearchF_any (A:Option Addr) (c:Nat) (l:List Wr) (key:ByteArray) (w:World) (hA:WrsAt w A l) (hr:(l.map (·.key)).Pairwise (fun x y=>ltK x y = true)) (hn:l.length ≤ 1024) :
  Calls Tryz.prog 106 #[.slice A l.length c,.string key,.func (.func 107) #[] #[]] w fun e w'=>(∃ n:Int,e = .returned (.tuple #[.int .i64 n,.bool ((l.map (·.key)).any fun y=>decide (y = key))])) ∧ Below w.heap.size w w':=by
 have HW:=Lib.hid (fun (x:Wr) W=>writes1_any x.key x.shard x.dead key W)
 have HA:=Lib.hid (fun W (hb:Below w.heap.size w W) i (hi:i < l.length)=>wrs_at (hA.below hb) hi)
 have HR:=Lib.hid hr
 have hlen:(l.length:Int) ≤ 1024:=by omega
 obtain ⟨ks,hks⟩:∃ ks,l.map (·.key) = ks:=⟨_,rfl⟩
 have HKl:=Lib.hid (show ks.length = l.length by rw [← hks,List.length_map])
 have HKg:=Lib.hid (show ∀ i (h1:i < ks.length) (h2:i < l.length),ks[i] = l[i].key from fun i h1 h2=>by simp only [← hks,List.getElem_map])
 rw [hks] at HR ⊢
 clear hA hr hn hks
 go_enter Tryz.func106,Tryz.ntmps106
 go_wp2_with fail
 go_loopw [9,10] (fun iv jv wr=>∃ i j:Nat,iv = .int .i64 (i:Int) ∧ jv = .int .i64 (j:Int) ∧ Hid (MidK ks key i j) ∧ Hid (Below w.heap.size w wr)) (fun iv jv _=>(RowKit.intOf jv).toNat - (RowKit.intOf iv).toNat)
 case atStart=>exact ⟨0,l.length,rfl,rfl,Lib.hid (by have:=MidK.start ks key;rwa [HKl.out] at this),Lib.hid (Below.refl _ _)⟩
 case round =>
  obtain ⟨i,j,rfl,rfl,hm,hb⟩:=hrel
  have hij:=hm.out.le
  have hjl:j ≤ l.length:=by rw [← HKl.out];exact hm.out.ln
  have pj:(j:Int) ≤ 1024:=by omega
  by_cases hlt:i < j
  ·have pij:(i:Int) < (j:Int):=by omega
   obtain ⟨m,hmm⟩:∃ m:Nat,(i + j) / 2 = m:=⟨_,rfl⟩
   have him:i ≤ m:=by omega
   have hmj:m < j:=by omega
   have hml:m < l.length:=by omega
   have hmk:m < ks.length:=by rw [HKl.out];exact hml
   obtain ⟨ad,rfl,x0,x1,x2⟩:=HA.out _ hb.out m hml
   have hkg:=HKg.out m hmk hml
   go_upto_region 5 with fail
   rw [show ((i:Int) + (j:Int)) / 2 = (m:Int) by omega]
   have pml:(m:Int) < (l.length:Int):=by omega
   have pm:(m:Int) ≤ 1024:=by omega
   cases ht:ltK ks[m] key with
   | false =>
    have HM:=Lib.hid (hm.out.right HR.out hmk him ht)
    have HLm:=Lib.hid (HW.out l[m])
    rw [hkg] at ht
    have hc:=cmpB ht
    simp only [decide_eq_false_iff_not] at hc
    generalize l[m] = k at x0 x1 x2 HLm hc
    obtain ⟨kk,kt,kd⟩:=k
    simp only at x0 x1 x2 HLm hc
    generalize cmpK kk key = cv at HLm hc
    have HLt:=Lib.hid hmj
    have HB:=hb
    clear hm ht hmm him hij hjl pij hlt hmj HW hkg hmk hb
    go_wp2_with fail
    refine (HLm.out _).mono ?_
    rintro e2 w2 ⟨rfl,hb2⟩
    have HB2:=Lib.hid (HB.out.trans (hb2.mono HB.out.size))
    clear hb2 HB HLm
    go_wp2_with fail
    go_roundw
    case rel=>exact ⟨i,m,rfl,rfl,HM,HB2⟩
    case measure=>simp [RowKit.intOf];have:=HM.out.le;have:=HLt.out;omega
   | true =>
    have HM:=Lib.hid (hm.out.left HR.out hmk hmj ht)
    have HLm:=Lib.hid (HW.out l[m])
    rw [hkg] at ht
    have hc:=cmpB ht
    simp only [decide_eq_true_eq] at hc
    generalize l[m] = k at x0 x1 x2 HLm hc
    obtain ⟨kk,kt,kd⟩:=k
    simp only at x0 x1 x2 HLm hc
    generalize cmpK kk key = cv at HLm hc
    have HMi:=Lib.hid him
    have HLt:=Lib.hid hlt
    have HB:=hb
    clear hm ht hmm him hij hjl pij hlt hmj HW hkg hmk hb
    go_wp2_with fail
    refine (HLm.out _).mono ?_
    rintro e2 w2 ⟨rfl,hb2⟩
    have HB2:=Lib.hid (HB.out.trans (hb2.mono HB.out.size))
    clear hb2 HB HLm
    go_wp2_with fail
    go_roundw
    case rel=>exact ⟨m + 1,j,by go_num,rfl,HM,HB2⟩
    case measure=>simp [RowKit.intOf];have:=HMi.out;have:=HLt.out;omega
  ·obtain rfl:i = j:=by omega
   by_cases hi:i < l.length
   ·have hik:i < ks.length:=by rw [HKl.out];exact hi
    have hh:=hm.out.hit HR.out hik
    have pi:(i:Int) < (l.length:Int):=by omega
    obtain ⟨ad,rfl,x0,x1,x2⟩:=HA.out _ hb.out i hi
    have HLm:=Lib.hid (HW.out l[i])
    have hz:=cmpK_zero l[i].key key
    rw [HKg.out i hik hi] at hh
    generalize l[i] = k at x0 x1 x2 HLm hh hz
    obtain ⟨kk,kt,kd⟩:=k
    simp only at x0 x1 x2 HLm hh hz
    have HB:=hb
    by_cases e:kk = key
    ·rw [decide_eq_true e] at hh
     have HH:=Lib.hid hh
     have hc:=hz.2 e
     generalize cmpK kk key = cv at HLm hc
     subst hc
     clear hm hh hz e hb HW hik
     go_wp2_with fail
     refine (HLm.out _).mono ?_
     rintro e2 w2 ⟨rfl,hb2⟩
     have HB2:=Lib.hid (HB.out.trans (hb2.mono HB.out.size))
     clear hb2 HB HLm
     go_wp2_with fail
     go_ret2
     exact ⟨⟨(i:Int),by rw [HH.out];rfl⟩,HB2.out⟩
    ·rw [decide_eq_false e] at hh
     have HH:=Lib.hid hh
     have hc:(cmpK kk key == 0) = false:=by rw [beq_eq_false_iff_ne];exact fun h=>e (hz.1 h)
     generalize cmpK kk key = cv at HLm hc
     clear hm hh hz e hb HW hik
     go_wp2_with fail
     refine (HLm.out _).mono ?_
     rintro e2 w2 ⟨rfl,hb2⟩
     have HB2:=Lib.hid (HB.out.trans (hb2.mono HB.out.size))
     clear hb2 HB HLm
     go_wp2_with fail
     go_ret2
     exact ⟨⟨(i:Int),by rw [HH.out];rfl⟩,HB2.out⟩
   ·have HH:=Lib.hid (hm.out.out (show ¬ i < ks.length by rw [HKl.out];exact hi))
    have pi:¬ (i:Int) < (l.length:Int):=by omega
    have HB:=hb
    clear hm HW hb
    go_wp2_with fail
    go_ret2
    exact ⟨⟨(i:Int),by rw [HH.out];rfl⟩,HB.out⟩
structure Ups (r:Rec):Prop where
 ks:r.keys.Pairwise (fun x y=>ltK x y = true)
 ws:(r.ws.map (·.key)).Pairwise (fun x y=>ltK x y = true)
 kl:r.keys.length ≤ 1024
 wl:r.ws.length ≤ 1024
theorem ups_of {r:Rec} (h:RecOk r) (hk:r.kind = 1):Ups r:=by
 obtain ⟨h1,h2,_⟩:=h.bounds
 obtain ⟨_,_,_,h3,_,_,h4⟩:=(kind_1 hk).1 h.2
 exact ⟨rises_ne h3,rises_ne h4,by omega,by omega⟩
theorem reads_any (x:RI) (key:ByteArray) (w:World) (hv:RecVal w x.A x.B x.c x.d x.l) (hu:Ups x.l) :
  Calls Tryz.prog 77 #[.agg (rcs x).toArray,.string key] w fun e w'=>e = .returned (.bool (x.l.keys.any fun y=>decide (y = key))) ∧ Below w.heap.size w w':=by
 have HC:=Lib.hid (fun W (hb:Below w.heap.size w W)=>bsearch_any x.A x.c x.l.keys key W (hv.ks.below hb) hu.ks hu.kl)
 obtain ⟨r,A,B,c,d⟩:=x
 show Calls _ _ #[.agg #[.int .i64 r.kind,.int .i64 r.txn,.int .i64 r.ts,.int .i64 r.coord,.string r.key,.string r.text,.bool r.dead,.slice A r.keys.length c,.slice B r.ws.length d],_] _ _
 simp only at HC
 have hB0:Below w.heap.size w (w.alloc (.cells #[.int .i64 r.kind,.int .i64 r.txn,.int .i64 r.ts,.int .i64 r.coord,.string r.key,.string r.text,.bool r.dead,.slice A r.keys.length c,.slice B r.ws.length d] 60)):=(Below.refl _ w).alloc (Nat.le_refl _) _
 have HB:=Lib.hid hB0
 clear hv hu hB0
 go_enter Tryz.func77,Tryz.ntmps77
 go_wp2_with fail
 refine (HC.out _ HB.out).mono ?_
 rintro e1 w1 ⟨⟨n,rfl⟩,rfl⟩
 go_wp2_with fail
 go_ret
 exact ⟨rfl,HB.out⟩
theorem writes_any (x:RI) (key:ByteArray) (w:World) (hv:RecVal w x.A x.B x.c x.d x.l) (hu:Ups x.l) :
  Calls Tryz.prog 76 #[.agg (rcs x).toArray,.string key] w fun e w'=>e = .returned (.bool (x.l.ws.any fun y=>decide (y.key = key))) ∧ Below w.heap.size w w':=by
 have HC:=Lib.hid (fun W (hb:Below w.heap.size w W)=>bsearchF_any x.B x.d x.l.ws key W (hv.ws.below hb) hu.ws hu.wl)
 have HE:=Lib.hid (show ((x.l.ws.map (·.key)).any fun y=>decide (y = key)) = (x.l.ws.any fun y=>decide (y.key = key)) by rw [List.any_map];rfl)
 rw [HE.out] at HC
 obtain ⟨r,A,B,c,d⟩:=x
 show Calls _ _ #[.agg #[.int .i64 r.kind,.int .i64 r.txn,.int .i64 r.ts,.int .i64 r.coord,.string r.key,.string r.text,.bool r.dead,.slice A r.keys.length c,.slice B r.ws.length d],_] _ _
 simp only at HC
 have hB0:Below w.heap.size w (w.alloc (.cells #[.int .i64 r.kind,.int .i64 r.txn,.int .i64 r.ts,.int .i64 r.coord,.string r.key,.string r.text,.bool r.dead,.slice A r.keys.length c,.slice B r.ws.length d] 60)):=(Below.refl _ w).alloc (Nat.le_refl _) _
 have HB:=Lib.hid hB0
 clear hv hu hB0 HE
 go_enter Tryz.func76,Tryz.ntmps76
 go_wp2_with fail
 refine (HC.out _ HB.out).mono ?_
 rintro e1 w1 ⟨⟨n,rfl⟩,hb⟩
 have HB2:=Lib.hid (HB.out.trans (hb.mono HB.out.size))
 clear hb
 go_wp2_with fail
 go_ret
 exact ⟨rfl,HB2.out⟩
theorem wpList_next_p {w:World} {ops:Array Oper} {rest:List Oper} {o:Oper} {a:Act} {K:Exit → Act → World → Prop} (hg:o.guard = none) (it:Operand) (hop:o.op = Op.next it false) (bp r:Nat) (P:List RI) (todo:List (Int × Value))
  (hit:a.eval it = .pointer (some ⟨r,0,none⟩)) (h:RangeIs intQ w bp r (P.map pp) todo)
  (hDone:todo = [] → wpList Tryz.prog ops K rest (a.put o.dst (.tuple #[.bool false])) w)
  (hMore:∀ (X:RI) (todo':List (Int × Value)) (w':World),X ∈ P → todo.Perm (pp X :: todo') → RangeIs intQ w' bp r (P.map pp) todo' → w'.rangeLeft bp r < w.rangeLeft bp r → w.grownBy w' (some r) → w'.heap.size = w.heap.size →
   (Instr.entry (.pointer (some ⟨r,0,none⟩))).run Tryz.prog w' = .ok (.tuple #[.int .i64 X.l.txn,.agg #[.int .i64 X.l.kind,.int .i64 X.l.txn,.int .i64 X.l.ts,.int .i64 X.l.coord,.string X.l.key,.string X.l.text,.bool X.l.dead,.slice X.A X.l.keys.length X.c,.slice X.B X.l.ws.length X.d]]) w' →
   wpList Tryz.prog ops K rest (a.put o.dst (.tuple #[.bool true,.int .i64 X.l.txn,.agg #[.int .i64 X.l.kind,.int .i64 X.l.txn,.int .i64 X.l.ts,.int .i64 X.l.coord,.string X.l.key,.string X.l.text,.bool X.l.dead,.slice X.A X.l.keys.length X.c,.slice X.B X.l.ws.length X.d]])) w') :
  wpList Tryz.prog ops K (o :: rest) a w:=by
 refine wpList_next_is intQ hg it hop bp r _ todo hit h hDone fun x v todo' w' hp _ hrg hlt hgr hsz hen=>?_
 have hm:(x,v) ∈ P.map pp:=h.sub _ (hp.mem_iff.2 (List.mem_cons_self ..))
 obtain ⟨X,hX,e⟩:=List.mem_map.1 hm
 unfold pp at e
 simp only [Prod.mk.injEq] at e
 obtain ⟨rfl,rfl⟩:=e
 exact hMore X todo' w' hX hp hrg hlt hgr hsz hen
theorem wpList_next_k {w:World} {ops:Array Oper} {rest:List Oper} {o:Oper} {a:Act} {Q:Exit → Act → World → Prop} (hg:o.guard = none) (it:Operand) (hop:o.op = Op.next it false) (bc r:Nat) (K:List KI) (todo:List (ByteArray × Value))
  (hit:a.eval it = .pointer (some ⟨r,0,none⟩)) (h:RangeIs strQ w bc r (K.map kp) todo)
  (hDone:todo = [] → wpList Tryz.prog ops Q rest (a.put o.dst (.tuple #[.bool false])) w)
  (hMore:∀ (X:KI) (todo':List (ByteArray × Value)) (w':World),X ∈ K → todo.Perm (kp X :: todo') → RangeIs strQ w' bc r (K.map kp) todo' → w'.rangeLeft bc r < w.rangeLeft bc r → w.grownBy w' (some r) → w'.heap.size = w.heap.size →
   (Instr.entry (.pointer (some ⟨r,0,none⟩))).run Tryz.prog w' = .ok (.tuple #[.string X.k.name,.slice X.A X.k.l.length X.c]) w' →
   wpList Tryz.prog ops Q rest (a.put o.dst (.tuple #[.bool true,.string X.k.name,.slice X.A X.k.l.length X.c])) w') :
  wpList Tryz.prog ops Q (o :: rest) a w:=by
 refine wpList_next_is strQ hg it hop bc r _ todo hit h hDone fun x v todo' w' hp _ hrg hlt hgr hsz hen=>?_
 have hm:(x,v) ∈ K.map kp:=h.sub _ (hp.mem_iff.2 (List.mem_cons_self ..))
 obtain ⟨X,hX,e⟩:=List.mem_map.1 hm
 unfold kp at e
 simp only [Prod.mk.injEq] at e
 obtain ⟨rfl,rfl⟩:=e
 exact hMore X todo' w' hX hp hrg hlt hgr hsz hen
theorem below_step {B r:Nat} {a w w':World} (h:Below B a w) (hB:B ≤ a.heap.size) (hg:w.grownBy w' (some r)) (hr:B ≤ r):Below B a w' :=
 h.grown hg (Nat.le_trans hB h.size) (fun k e=>by cases e;exact hr)
theorem heldR_eq (r:Rec) (key:ByteArray) (wb:Bool):heldR r key wb = ((r.ws.any fun y=>decide (y.key = key)) || (wb && r.keys.any fun y=>decide (y = key))):=rfl
theorem one_of {α β:Type} {f:α → β}:∀ {L:List α},(L.map f).Nodup → ∀ {x y:α},x ∈ L → y ∈ L → f x = f y → x = y
 | [],_,_,_,hx,_,_=>by cases hx
 | a :: r,h,x,y,hx,hy,e=>by
  rw [List.map_cons,List.nodup_cons] at h
  rcases List.mem_cons.1 hx with rfl | hx
  ·rcases List.mem_cons.1 hy with rfl | hy
   ·rfl
   ·exact absurd (List.mem_map.2 ⟨y,hy,e.symm⟩) h.1
  ·rcases List.mem_cons.1 hy with h0 | hy
   ·exact absurd (List.mem_map.2 ⟨x,hx,by rw [e,h0]⟩) h.1
   ·exact one_of h.2 hx hy e
theorem one_txn {P:List RI} (h:((P.map pp).map (·.1)).Nodup) {X Y:RI} (hX:X ∈ P) (hY:Y ∈ P) (e:X.l.txn = Y.l.txn):X = Y:=by
 rw [List.map_map] at h
 exact one_of h hX hY e
theorem one_key {K:List KI} (h:((K.map kp).map (·.1)).Nodup) {X Y:KI} (hX:X ∈ K) (hY:Y ∈ K) (e:X.k.name = Y.k.name):X = Y:=by
 rw [List.map_map] at h
 exact one_of h hX hY e
section
variable {W:World} {F:Nat → Prop} {g bc bp:Nat} {v:Value} {K:List KI} {P:List RI} {s:Shf}
theorem held_of (hep:P.map (·.l) = s.p) {X:RI} (hX:X ∈ P) {key:ByteArray} {wb:Bool} (h:heldR X.l key wb = true):heldB s key wb = true:=by
 unfold heldB
 exact List.any_eq_true.2 ⟨X.l,by rw [← hep];exact List.mem_map_of_mem hX,h⟩
theorem held_no (hep:P.map (·.l) = s.p) {key:ByteArray} {wb:Bool} (h:∀ X ∈ P,heldR X.l key wb = false):heldB s key wb = false:=by
 unfold heldB
 rw [List.any_eq_false]
 intro r hr
 rw [← hep] at hr
 obtain ⟨X,hX,rfl⟩:=List.mem_map.1 hr
 rw [h X hX]
 simp
theorem lheld_any (h:LAt W F g bc bp v K P s) (hs:ShOk s) (key:ByteArray) (wb:Bool) :
  Calls Tryz.prog 47 #[.pointer (some ⟨g,0,none⟩),.string key,.bool wb] W fun e w'=>e = .returned (.bool (heldB s key wb)) ∧ Below W.heap.size W w':=by
 have s1:=h.cel.cell (i:=1) rfl
 have hmp:=h.mp
 have HH:=Lib.hid (fun V (hb:Below W.heap.size W V)=>h.below hb)
 have HEp:=Lib.hid h.ep
 have HNd:=Lib.hid h.mp.nodup
 have HUp:=Lib.hid (show ∀ X ∈ P,Ups X.l from fun X hX=>by
  have:=hs.po X.l (by rw [← h.ep];exact List.mem_map_of_mem hX)
  exact ups_of this.1 this.2)
 clear h hs
 go_enter Tryz.func47,Tryz.ntmps47
 go_wp2_with (at_range;refine wpList_range_is intQ rfl _ 109 60 rfl Tryz.underlying109 bp _ rfl hmp ?_;intro w0 hrg0 hb0 hs0)
 go_frame
 have HR0:=Lib.hid hrg0
 have HB0:=Lib.hid hb0
 clear hrg0 hb0 hs0 s1 hmp
 obtain ⟨rr,hrr⟩:∃ rr,W.heap.size = rr:=⟨_,rfl⟩
 rw [hrr] at HR0 HB0 ⊢
 have HRR:=Lib.hid hrr
 go_loopw [14] (fun _ wr=>∃ todo,Hid (RangeIs intQ wr bp rr (P.map pp) todo) ∧ Hid (∀ X ∈ P,X.l.txn ∉ todo.map (·.1) → heldR X.l key wb = false) ∧ Hid (Below rr W wr)) (fun _ wr=>wr.rangeLeft bp rr)
 case atStart =>
  exact ⟨_,HR0,Lib.hid (fun X hX hn=>absurd (List.mem_map.2 ⟨pp X,List.mem_map_of_mem hX,rfl⟩) hn),HB0⟩
 case round =>
  obtain ⟨todo,hrg,hno,hb⟩:=hrel
  have hrg1:=hrg.out
  clear HR0 HB0
  go_wp2_with (at_next;refine wpList_next_p rfl _ rfl bp rr P todo rfl hrg1 ?_ ?_)
  ·intro h0
   subst h0
   have HF:=Lib.hid (held_no HEp.out (fun X hX=>hno.out X hX (by simp)))
   clear hrg1 hrg hno
   go_wp2_with fail
   go_ret
   exact ⟨by rw [HF.out];rfl,by rw [HRR.out];exact hb.out⟩
  ·intro X todo' w1 hX hp hrg2 hlt hgr hsz hen
   have hb1:Below rr W w1:=below_step hb.out (by rw [hrr];exact Nat.le_refl _) hgr (Nat.le_refl _)
   have HB1:=Lib.hid hb1
   have HRg:=Lib.hid hrg2
   have HLt:=Lib.hid hlt
   have hh:=heldR_eq X.l key wb
   have HNo:Hid (heldR X.l key wb = false → ∀ Y ∈ P,Y.l.txn ∉ todo'.map (·.1) → heldR Y.l key wb = false):=Lib.hid fun hf Y hY hn=>by
    by_cases e:Y.l.txn ∈ todo.map (·.1)
    ·have:=(hp.map (·.1)).mem_iff.1 e
     rw [List.map_cons,List.mem_cons] at this
     rcases this with e2 | e2
     ·rw [one_txn HNd.out hY hX e2];exact hf
     ·exact absurd e2 hn
    ·exact hno.out Y hY e
   have HY:Hid (heldR X.l key wb = true → heldB s key wb = true):=Lib.hid (held_of HEp.out hX)
   have HPv:=Lib.hid (fun V (hbv:Below rr W V)=>((HH.out V (by rw [hrr];exact hbv)).pv X hX).val)
   have HU:=Lib.hid (HUp.out X hX)
   obtain ⟨b1,hw1⟩:∃ b,(X.l.ws.any fun y=>decide (y.key = key)) = b:=⟨_,rfl⟩
   obtain ⟨b2,hw2⟩:∃ b,(X.l.keys.any fun y=>decide (y = key)) = b:=⟨_,rfl⟩
   rw [hw1,hw2] at hh
   have HWr:=Lib.hid (fun V (hbv:Below rr W V)=>writes_any X key V (HPv.out V hbv) HU.out)
   have HRd:=Lib.hid (fun V (hbv:Below rr W V)=>reads_any X key V (HPv.out V hbv) HU.out)
   rw [hw1] at HWr
   rw [hw2] at HRd
   obtain ⟨x,A,B,c,d⟩:=X
   simp only at hen HWr HRd hh HNo HY HPv HU ⊢
   have HWr2:Hid (∀ V,Below rr W V → Calls Tryz.prog 76 #[.agg #[.int .i64 x.kind,.int .i64 x.txn,.int .i64 x.ts,.int .i64 x.coord,.string x.key,.string x.text,.bool x.dead,.slice A x.keys.length c,.slice B x.ws.length d],.string key] V fun e w'=>e = .returned (.bool b1) ∧ Below V.heap.size V w'):=HWr
   have HRd2:Hid (∀ V,Below rr W V → Calls Tryz.prog 77 #[.agg #[.int .i64 x.kind,.int .i64 x.txn,.int .i64 x.ts,.int .i64 x.coord,.string x.key,.string x.text,.bool x.dead,.slice A x.keys.length c,.slice B x.ws.length d],.string key] V fun e w'=>e = .returned (.bool b2) ∧ Below V.heap.size V w'):=HRd
   have hC0:Cel (w1.alloc (.cells #[.int .i64 x.kind,.int .i64 x.txn,.int .i64 x.ts,.int .i64 x.coord,.string x.key,.string x.text,.bool x.dead,.slice A x.keys.length c,.slice B x.ws.length d] 60)) w1.heap.size 60 [.int .i64 x.kind,.int .i64 x.txn,.int .i64 x.ts,.int .i64 x.coord,.string x.key,.string x.text,.bool x.dead,.slice A x.keys.length c,.slice B x.ws.length d]:=(blk1 w1 _).2
   have hB0:Below w1.heap.size w1 (w1.alloc (.cells #[.int .i64 x.kind,.int .i64 x.txn,.int .i64 x.ts,.int .i64 x.coord,.string x.key,.string x.text,.bool x.dead,.slice A x.keys.length c,.slice B x.ws.length d] 60)):=(Below.refl _ w1).alloc (Nat.le_refl _) _
   have HB2:=Lib.hid (hb1.trans (hB0.mono (HRR.out ▸ hb1.size)))
   have HRg2:=Lib.hid (HRg.out.below hB0)
   have HLt2:Hid ((w1.alloc (.cells #[.int .i64 x.kind,.int .i64 x.txn,.int .i64 x.ts,.int .i64 x.coord,.string x.key,.string x.text,.bool x.dead,.slice A x.keys.length c,.slice B x.ws.length d] 60)).rangeLeft bp rr < wr.rangeLeft bp rr):=Lib.hid (by rw [rangeLeft_kept (hB0.block bp HRg.out.map.lt) (hB0.block rr HRg.out.lt)];exact hlt)
   have hC1:=hC0
   clear hw1 hw2 HWr HRd hb1 hrg2 hlt hgr hsz hp hX hrg hno hrg1 HPv HU hb hC0 hB0 HB1 HRg HLt
   go_upto_region 4 with fail
   generalize w1.alloc (.cells #[.int .i64 x.kind,.int .i64 x.txn,.int .i64 x.ts,.int .i64 x.coord,.string x.key,.string x.text,.bool x.dead,.slice A x.keys.length c,.slice B x.ws.length d] 60) = W1 at hC1 HB2 HRg2 HLt2 ⊢
   generalize w1.heap.size = vb at hC1 ⊢
   have q0:=hC1.cell (i:=0) rfl
   have q1:=hC1.cell (i:=1) rfl
   have q2:=hC1.cell (i:=2) rfl
   have q3:=hC1.cell (i:=3) rfl
   have q4:=hC1.cell (i:=4) rfl
   have q5:=hC1.cell (i:=5) rfl
   have q6:=hC1.cell (i:=6) rfl
   have q7:=hC1.cell (i:=7) rfl
   have q8:=hC1.cell (i:=8) rfl
   have HC1:=Lib.hid hC1
   clear hC1 hen
   go_wp2_with fail
   refine (HWr2.out _ HB2.out).mono ?_
   rintro e2 w2 ⟨rfl,hb2⟩
   have HB3:=Lib.hid (HB2.out.trans (hb2.mono (HRR.out ▸ HB2.out.size)))
   have HRg3:=Lib.hid (HRg2.out.below hb2)
   have HLt3:Hid (w2.rangeLeft bp rr < wr.rangeLeft bp rr):=Lib.hid (by rw [rangeLeft_kept (hb2.block bp HRg2.out.map.lt) (hb2.block rr HRg2.out.lt)];exact HLt2.out)
   have hC2:=HC1.out.below hb2
   clear hb2 HWr2 q0 q1 q2 q3 q4 q5 q6 q7 q8 HLt2 HRg2
   cases b1 with
   | true =>
    have HF:=Lib.hid (HY.out (by rw [hh];rfl))
    clear hh HY HNo hC2
    go_wp2_with fail
    go_ret
    exact ⟨by rw [HF.out];rfl,by rw [HRR.out];exact HB3.out⟩
   | false =>
    cases wb with
    | false =>
     have HN:=Lib.hid (HNo.out (by rw [hh];rfl))
     clear hh HY HNo hC2
     go_wp2_with fail
     go_roundw
     case rel=>exact ⟨todo',HRg3,HN,HB3⟩
     case measure=>exact HLt3.out
    | true =>
     have q0:=hC2.cell (i:=0) rfl
     have q1:=hC2.cell (i:=1) rfl
     have q2:=hC2.cell (i:=2) rfl
     have q3:=hC2.cell (i:=3) rfl
     have q4:=hC2.cell (i:=4) rfl
     have q5:=hC2.cell (i:=5) rfl
     have q6:=hC2.cell (i:=6) rfl
     have q7:=hC2.cell (i:=7) rfl
     have q8:=hC2.cell (i:=8) rfl
     have HH2:=Lib.hid hh
     clear hC2 hh
     go_wp2_with fail
     refine (HRd2.out _ HB3.out).mono ?_
     rintro e3 w3 ⟨rfl,hb3⟩
     have HB4:=Lib.hid (HB3.out.trans (hb3.mono (HRR.out ▸ HB3.out.size)))
     have HRg4:=Lib.hid (HRg3.out.below hb3)
     have HLt4:Hid (w3.rangeLeft bp rr < wr.rangeLeft bp rr):=Lib.hid (by rw [rangeLeft_kept (hb3.block bp HRg3.out.map.lt) (hb3.block rr HRg3.out.lt)];exact HLt3.out)
     clear hb3 HRd2 q0 q1 q2 q3 q4 q5 q6 q7 q8 HLt3 HRg3
     cases b2 with
     | true =>
      have HF:=Lib.hid (HY.out (by rw [HH2.out];rfl))
      clear HY HNo
      go_wp2_with fail
      go_ret
      exact ⟨by rw [HF.out];rfl,by rw [HRR.out];exact HB4.out⟩
     | false =>
      have HN:=Lib.hid (HNo.out (by rw [HH2.out];rfl))
      clear HY HNo
      go_wp2_with fail
      go_roundw
      case rel=>exact ⟨todo',HRg4,HN,HB4⟩
      case measure=>exact HLt4.out
end
section
variable {W:World} {F:Nat → Prop} {g bc bp:Nat} {v:Value} {K:List KI} {P:List RI} {s:Shf}
end
end Sh
end Go.Proofs.YtlfkhlfkckfbpaaGreat
