/- Records that are written to a log one by one; over what is asked of the log and of record; no condition but the range. -/
import Derived.Test.YtjehjbkcdpidbaaGreatTrRow
import Derived.Test.YtjehjbkcdpidbaaGreatTmMath
import Derived.Test.YtjehjbkcdpidbaaGreatTmStart
import Derived.Test.YtjehjbkcdpidbaaGreatRlAll
import Derived.Test.YtjehjbkcdpidbaaGreatB20
import Derived.Test.YtjehjbkcdpidbaaGreatB21
namespace Go.Proofs.YtjehjbkcdpidbaaGreat
namespace Tr
open Go.RowKit Bk Lt Rc Su Sc Rd

attribute [local go_sem ↓] Go.wp_at_zero Go.wp_at_succ
attribute [local go_sem] floatUpon pick

/-- a record's bytes -/
def rxL (x : RI) : List UInt8 := recL x.l
def rxB (x : RI) : ByteArray := ⟨(recL x.l).toArray⟩

/-- a record that is kept -/
structure Good (w : World) (x : RI) : Prop where
  ok : RecOk x.l
  len : (rxL x).length ≤ 4096
  val : RecVal w x.A x.B x.c x.d x.l

def frK (K : List RI) : List UInt8 := framesL (K.map rxL)

theorem frK_snoc (K : List RI) (x : RI) : frK (K ++ [x]) = frK K ++ frameL (rxL x) := by
  unfold frK
  rw [List.map_append]
  exact Tm.framesL_snoc _ _

theorem frK_len {K : List RI} (h : ∀ x ∈ K, (rxL x).length ≤ 4096) : (frK K).length ≤ 4102 * K.length := by
  induction K with
  | nil => exact Nat.zero_le _
  | cons x r ih =>
    have h1 := ih (fun y hy => h y (List.mem_cons_of_mem _ hy))
    have h2 := h x (List.mem_cons_self ..)
    unfold frK at h1 ⊢
    rw [List.map_cons, framesL_cons, List.length_append, frameL_len, List.length_cons]
    omega

theorem list_sumA (X Y : List UInt8) (h : X.length + Y.length ≤ 1000000000) (W : World) : (Op.stringOp .add ⟨X.toArray⟩ ⟨Y.toArray⟩).run Tryz.prog W = .ok (.string ⟨(X ++ Y).toArray⟩) W := by
  have h1 : (⟨X.toArray⟩ : ByteArray).size = X.length := text_size X
  have h2 : (⟨Y.toArray⟩ : ByteArray).size = Y.length := text_size Y
  rw [run_string_add_sum W _ _ (by omega), ByteArray.mk_append_mk]

theorem frame_B (l : List UInt8) : frameB ⟨l.toArray⟩ = ⟨(frameL l).toArray⟩ := by unfold frameB; simp

theorem own_form9 {e : TypeId} {H s : Nat} {v : Value} {k : Nat} {xs : List Value} {W : World} (h : W.ownsRow H e s v k xs) : ∃ (X : Option Addr) (c : Nat), v = .slice X k c ∧ k ≤ c := by
  rcases h with ⟨hl, ⟨hn, h0⟩ | ⟨i, cap, cur, hv, hb, hg, h1, rest⟩⟩
  · exact ⟨none, 0, by rw [hn, h0], by omega⟩
  · exact ⟨_, cap, hv, h1⟩

theorem rx_size {x : RI} (h : RecOk x.l) : (rxL x).length ≤ 5000000 := Pk.bytesL_le h.pack

section
variable {Rep : RepT} {LRep : LRepT} {w W W' : World} {F F' : Nat → Prop} {g p : Nat} {D D' : Dev} {l l' : Lg} {K : List RI} {tv kv : Value}

theorem rkept {e : TypeId} {H s n : Nat} {v : Value} {xs : List Value} (h : W.ownsRow H e s v n xs) (hf : Fr F F' W W') (hn : ∀ j, v.ownBlock = some j → ¬ F j) : W'.ownsRow H e s v n xs ∧ ∀ j, v.ownBlock = some j → ¬ F' j := by
  have hlt : ∀ j, v.ownBlock = some j → j < W.heap.size := fun j hj => (h.lt j hj).2
  refine ⟨?_, fun j hj hf' => (hf.foot j hf').elim (hn j hj) (fun hs => by have := hlt j hj; omega)⟩
  rcases h with ⟨hl, h0 | ⟨i, cap, cur, hv, hb, hg, rest⟩⟩
  · exact ⟨hl, .inl h0⟩
  · exact ⟨hl, .inr ⟨i, cap, cur, hv, hb, (hf.block i (Array.getElem?_eq_some_iff.1 hg).1 (hn i (by rw [hv]; rfl))).trans hg, rest⟩⟩

theorem rgrow {e e' : TypeId} {H H' s s' n n' : Nat} {v v' : Value} {xs xs' : List Value} (h : W.ownsRow H e s v n xs) (h' : W.ownsRow H' e' s' v' n' xs') (hne : e ≠ e') (hg : W.grownBy W' v'.ownBlock) : W'.ownsRow H e s v n xs := by
  rcases h with ⟨hl, h0 | ⟨i, cap, cur, hv, hb, hgt, rest⟩⟩
  · exact ⟨hl, .inl h0⟩
  · refine ⟨hl, .inr ⟨i, cap, cur, hv, hb, (hg.block i (Array.getElem?_eq_some_iff.1 hgt).1 (fun hi => ?_)).trans hgt, rest⟩⟩
    rcases h' with ⟨_, ⟨hn, _⟩ | ⟨i', cap', cur', hv', _, hgt', _⟩⟩
    · rw [hn] at hi; cases hi
    · rw [hv'] at hi
      obtain rfl : i = i' := by simpa [Value.ownBlock] using hi
      rw [hgt] at hgt'
      simp only [Option.some.injEq, Obj.cells.injEq] at hgt'
      exact hne hgt'.2.1

theorem one_grow {r : Option Nat} {f1 f2 f3 f4 f5 f6 f7 f8 f9 f10 : FuncId} {o : Option (Nat × Lg)} (HD : DevF f1 f2 f3 f4 f5 Rep) (HL : LogF f6 f7 f8 f9 f10 Rep LRep) (h : OneS Rep LRep w W F g D o) (hg : W.grownBy W' r) (hr : ∀ j, r = some j → ¬ F j ∧ w.heap.size ≤ j) : OneS Rep LRep w W' F g D o :=
  ⟨h.s.kept HD HL (fun k hk => hg.block k (h.s.lt HD HL k hk) (fun e => (hr k e.symm).1 hk)), h.bF, h.bel.grown hg h.bel.size (fun k hk => (hr k hk).2)⟩

/-- a device and a log, and two rows beside them -/
structure TrEnv (Rep : RepT) (LRep : LRepT) (w W : World) (F : Nat → Prop) (g : Nat) (D : Dev) (o : Option (Nat × Lg)) (K : List RI) (tv kv : Value) : Prop where
  o : OneS Rep LRep w W F g D o
  tr : W.ownsRow w.heap.size 9 1 tv K.length (strV (K.map rxB))
  kr : W.ownsRow w.heap.size 49 9 kv K.length (K.flatMap rcs)
  tn : ∀ j, tv.ownBlock = some j → ¬ F j
  kn : ∀ j, kv.ownBlock = some j → ¬ F j

/-- what the log says -/
structure TrLog (D : Dev) (l : Lg) (K : List RI) : Prop where
  idle : Idle D
  clean : Sc.Clean D
  ok : DevOk D
  len : D.on.length = 100
  lg : LgIn D l
  ts : l.ts = K.map rxB
  mn : l.mn = l.ts.length
  cnt : l.cnt ≤ 1 + K.length

variable {f1 f2 f3 f4 f5 f6 f7 f8 f9 f10 : FuncId} {o o' : Option (Nat × Lg)}

theorem TrEnv.step (HD : DevF f1 f2 f3 f4 f5 Rep) (HL : LogF f6 f7 f8 f9 f10 Rep LRep) (h : TrEnv Rep LRep w W F g D o K tv kv) (hb : Below W.heap.size W W') : TrEnv Rep LRep w W' F g D o K tv kv :=
  ⟨h.o.step HD HL hb, st_keep h.tr hb, st_keep h.kr hb, h.tn, h.kn⟩

theorem TrEnv.act (h : TrEnv Rep LRep w W F g D o K tv kv) (h1 : Side Rep LRep W' F' g D' o') (h2 : Fr F F' W W') : TrEnv Rep LRep w W' F' g D' o' K tv kv := by
  have a := rkept h.tr h2 h.tn
  have b := rkept h.kr h2 h.kn
  exact ⟨h.o.act h1 h2, a.1, b.1, a.2, b.2⟩

end

end Tr
end Go.Proofs.YtjehjbkcdpidbaaGreat
