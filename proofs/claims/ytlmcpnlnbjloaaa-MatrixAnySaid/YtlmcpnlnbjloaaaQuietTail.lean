/- A region that draws its order: a head that only reads and calls what only reads (and draws), and a tail in one forced order behind it: one walk in the order of the text serves every order. -/
import Derived.Test.YtlmcpnlnbjloaaaRows
import Derived.StillTail
import Derived.Deep.Quiet
import Derived.Deep.QuietTactic
namespace Go.Proofs.Ytlmcpnlnbjloaaa

section
variable {P : Program} {ops : Array Oper} {md : Region.Mode} {C : World → Prop}

/-- whatever order the head takes; when it has come up, L -/
def HeadQ (P : Program) (md : Region.Mode) (ops : Array Oper) (C : World → Prop) (n : Nat) (L : Array Bool → Act → Prop) : Nat → Array Bool → Act → Prop
  | 0, ls, a => L ls a
  | k + 1, ls, a => Region.ready md ops ls ≠ [] ∧ ∀ i ∈ Region.ready md ops ls, i < n ∧ qOp P ops C i (HeadQ P md ops C n L k (ls.setIfInBounds i true)) a

theorem HeadQ.any {n m : Nat} {L : Array Bool → Act → Prop} {Q : Exit → Act → World → Prop} (hL : ∀ ls a w, C w → L ls a → wpAny P md ops Q m ls a w) :
    ∀ (k : Nat) (ls : Array Bool) (a : Act) (w : World), C w → HeadQ P md ops C n L k ls a → wpAny P md ops Q (k + m) ls a w := by
  intro k
  induction k with
  | zero => intro ls a w hw h; rw [Nat.zero_add]; exact hL _ _ _ hw h
  | succ k ih =>
    intro ls a w hw h
    rw [Nat.succ_add]
    exact ⟨fun z => absurd z h.1, fun i hi => wpOp_of_qOp hw (fun a' w' hw' h' => ih _ a' w' hw' h') (h.2 i hi).2⟩

/-- one of the head's operations may be taken first -/
theorem HeadQ.take {n i : Nat} {o : Oper} {v : Value} {L : Array Bool → Act → Prop} (ho : ops[i]? = some o) (hsel : ∀ (j : Nat) (p : Oper) cs b, ops[j]? = some p → p.op ≠ .select cs b)
    (hs : Region.sinkB md ops n = true) (hc : Region.chainB md ops n = true) (hn : n < ops.size) (hin : i < n) (hL : ∀ ls a, L ls a → ∀ j ∈ Region.ready md ops ls, n ≤ j) :
    ∀ (k : Nat) (ls : Array Bool) (a : Act), HeadInv md ops n ls →
      (∀ j p, ops[j]? = some p → j ≠ i → ls.getD j true = false → (∀ e ∈ p.after, Region.binds md e = true → e.on ≠ i) → o.apart ops p = true) →
      i ∈ Region.ready md ops ls → YieldsIn P ops C o v a → HeadQ P md ops C n L k (ls.setIfInBounds i true) (a.put o.dst v) → HeadQ P md ops C n L (k + 1) ls a := by
  intro k
  induction k with
  | zero =>
    intro ls a inv _ hr hy H
    have hun := (mem_ready.1 hr).1
    refine ⟨List.ne_nil_of_mem hr, fun j hj => ?_⟩
    have hjn : j < n := Nat.lt_of_not_le fun z => absurd hj (tail_waits hs hc hn inv _ i rfl hin hun j z)
    by_cases e : j = i
    · subst e; exact ⟨hjn, hy.qOp ho H⟩
    · exact absurd (hL _ _ H j (ready_mono hj e)) (by omega)
  | succ k ih =>
    intro ls a inv hfree hr hy H
    have hun := (mem_ready.1 hr).1
    refine ⟨List.ne_nil_of_mem hr, fun j hj => ?_⟩
    have hjn : j < n := Nat.lt_of_not_le fun z => absurd hj (tail_waits hs hc hn inv _ i rfl hin hun j z)
    by_cases e : j = i
    · subst e; exact ⟨hjn, hy.qOp ho H⟩
    · refine ⟨hjn, ?_⟩
      obtain ⟨hjun, p, hp, hall⟩ := mem_ready.1 hj
      have hno : ∀ d ∈ p.after, Region.binds md d = true → d.on ≠ i := fun d hd hb z => by
        have h1 := hall d hd hb
        rw [z, getD_both hun] at h1
        cases h1
      refine qOp_mono (fun a' h => ih (ls.setIfInBounds j true) a' (inv.set hj hjn) (fun x q hq hxi hx hxn => hfree x q hq hxi ?_ hxn) (ready_mono hr (Ne.symm e)) h.1 ?_)
        (qOp_put hp (hfree j p hp e hjun hno) (fun cs b => hsel i o cs b ho) (fun cs b => hsel j p cs b hp) hy (H.2 j (ready_mono hj e)).2)
      · by_cases z : j = x
        · subst z; exact hjun
        · rw [getD_set_ne true z] at hx; exact hx
      · rw [Array.setIfInBounds_comm _ _ e]
        exact h.2

theorem HeadQ.lex {n m : Nat} {T : Act → Prop} (hsel : Region.noSelect ops = true) (hs : Region.sinkB md ops n = true) (hc : Region.chainB md ops n = true) (hn : n < ops.size) :
    ∀ (l : List Oper) (k : Nat) (ls : Array Bool) (a : Act), (∀ j, j < l.length → l[j]? = ops[k + j]?) → k + l.length = n → HeadInv md ops n ls → Region.lexHead md ops m l.length k ls = true → wpQuiet P ops C T l a →
      HeadQ P md ops C n (fun ls' a' => Region.seqB md ops m n ls' = true ∧ T a') l.length ls a := by
  intro l
  induction l with
  | nil =>
    intro k ls a _ hk _ hB h
    have e : k = n := by simpa using hk
    subst e
    exact ⟨by simpa [Region.lexHead] using hB, h⟩
  | cons o l ih =>
    intro k ls a hl hk inv hB h
    have h0 : ops[k]? = some o := by simpa using (hl 0 (by simp)).symm
    simp only [List.length_cons, Region.lexHead, Bool.and_eq_true] at hB
    obtain ⟨⟨hr, hf⟩, hB'⟩ := hB
    simp only [List.length_cons] at hk
    have hkn : k < n := by omega
    have hr' : k ∈ Region.ready md ops ls := by simpa using hr
    have hq : qOp P ops C k (wpQuiet P ops C T l) a := by unfold qOp; simp only [h0]; exact h
    obtain ⟨v, hy, hK⟩ := yieldsIn_of_qOp h0 hq
    exact HeadQ.take h0 (Region.noSelect_spec hsel) hs hc hn hkn (fun _ _ z => seqB_ready z.1) l.length ls a inv (Region.free_spec h0 hf) hr' hy
      (ih (k + 1) _ _ (fun j hj => by have := hl (j + 1) (by simp; omega); simpa [Nat.add_assoc, Nat.add_comm 1 j] using this) (by omega) (inv.set hr' hkn) hB' hK)

theorem wp_region_quiet_tail {id : Nat} {Q : Exit → Act → World → Prop} {a : Act} {w : World} {l : List Oper} (n : Nat) (hm : P.follows .mixedOrders = true) (hB : Region.lexTailB .any l.toArray n = true)
    (h : wpQuiet P l.toArray (fun w' => ∃ d, w' = w.drewN d) (fun a' => ∀ d, wpList P l.toArray Q (l.drop n) a' (w.drewN d)) (l.take n) a) : (Code.region id l.toArray true).wp P Q a w := by
  simp only [Region.lexTailB, Bool.and_eq_true, decide_eq_true_eq] at hB
  obtain ⟨⟨⟨⟨hsel, hn⟩, hs⟩, hc⟩, hlex⟩ := hB
  have hn' : n < l.length := by simpa using hn
  have ht : (l.take n).length = n := by simp; omega
  have hd : (l.drop n).length = l.toArray.size - n := by simp
  have inv : HeadInv .any l.toArray n (Array.replicate l.toArray.size false) :=
    ⟨by simp, fun _ _ _ z => (by rw [getD_replicate_false] at z; cases z), fun t _ z => getD_in (by simpa using z) (getD_replicate_false _ _)⟩
  have H := HeadQ.lex (md := .any) (m := l.toArray.size - n) hsel hs hc hn (l.take n) 0 _ a (fun j hj => by
    have hj' : j < n := by rw [ht] at hj; exact hj
    simp [hj']) (by simpa using ht) inv (by rw [ht]; exact hlex) h
  refine wp_region_any hm ?_
  have := HeadQ.any (Q := Q) (m := l.toArray.size - n) (fun ls a' w' hw' z => by
    obtain ⟨d, rfl⟩ := hw'
    have := wpAny_of_seq (md := .any) (Q' := Q) (l.drop n) n ls a' (w.drewN d) (fun j => by simp [List.getElem?_drop]) (by rw [hd]; exact z.1) (z.2 d)
    rwa [hd] at this) _ _ _ w.drew ⟨1, rfl⟩ H
  rw [ht, show n + (l.toArray.size - n) = l.toArray.size by omega] at this
  exact this
end

end Go.Proofs.Ytlmcpnlnbjloaaa
