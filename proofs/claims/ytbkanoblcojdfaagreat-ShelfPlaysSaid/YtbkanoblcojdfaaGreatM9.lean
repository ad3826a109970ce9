/- Parts of the proof, joined: ShMath5; their conditions stand with each. -/
import Derived.Test.YtbkanoblcojdfaaGreatM7

namespace Go.Proofs.YtbkanoblcojdfaaGreat
namespace Sh
open Ch Rc Lt
def vrW (ts : Int) (x : Wr) : Vr := ⟨ts, x.shard, x.dead⟩
structure MayW (ts : Int) (ws : List Wr) : Prop where
  ts : 1 ≤ ts ∧ ts ≤ 1125899906842624
  each : ∀ x ∈ ws, keyOk x.key ∧ wrOk x
  apart : ws.Pairwise (fun x y => x.key ≠ y.key)
theorem MayW.vr {ts : Int} {ws : List Wr} (h : MayW ts ws) {x : Wr} (hx : x ∈ ws) : vrOk (vrW ts x) := by
  have := (h.each x hx).2
  unfold wrOk at this
  exact ⟨h.ts.1, h.ts.2, this.1, this.2⟩
theorem add_is {l : List Vr} (h : ChOk l) {v : Vr} (hv : vrOk v) : addP l v = if v.ts ≤ lastT l then ([], 110) else if 1024 ≤ l.length then ([], 2) else (l ++ [v], 0) := by
  have h2 : (chkP [v]).2 = 0 := chk_ok.2 ⟨by simp, fun x hx => by rw [List.mem_singleton.1 hx]; exact hv, by simp⟩
  unfold addP
  rw [if_neg (by rw [chk_zero h]; simp), if_neg (by rw [h2]; simp)]
  by_cases h0 : v.ts ≤ lastT l
  · have hl : 0 < l.length := by
      cases l with
      | nil => have := hv.1; simp [lastT] at h0; omega
      | cons _ _ => simp
    rw [if_pos ⟨hl, h0⟩, if_pos h0]
  · rw [if_neg (fun hc => h0 hc.2), if_neg h0]
def writeP (s : Shf) (ts : Int) (ws : List Wr) : Shf × Int :=
  if ws.any (fun x => decide (ts ≤ lastT (chainK s.k x.key))) then (s, 110)
  else if longW s.k ws s.k.length then (s, 2)
  else (⟨addW ts ws s.k, s.p, s.e, s.over⟩, 0)
def newN (k : List Kc) (ws : List Wr) : Nat := (ws.filter (fun x => !hasK k x.key)).length
theorem longW_is {k : List Kc} : ∀ {ws : List Wr} {n : Nat}, n ≤ 1024 → longW k ws n = (ws.any (fun x => decide (1024 ≤ (chainK k x.key).length)) || decide (1024 < n + newN k ws))
  | [], n, h => by
    show false = (false || decide (1024 < n + 0))
    rw [decide_eq_false (by omega)]; rfl
  | x :: r, n, h => by
    have hn : newN k (x :: r) = (if hasK k x.key then 0 else 1) + newN k r := by
      unfold newN
      cases hh : hasK k x.key with
      | true => rw [List.filter_cons_of_neg (by simp [hh])]; simp
      | false => rw [List.filter_cons_of_pos (by simp [hh]), List.length_cons]; simp; omega
    unfold longW
    rw [List.any_cons, hn]
    by_cases h1 : (if hasK k x.key then n else n + 1) ≤ 1024
    · rw [longW_is h1]
      have h2 : ¬ 1024 < (if hasK k x.key then n else n + 1) := by omega
      rw [decide_eq_false h2]
      cases hasK k x.key
      · simp only [Bool.false_eq_true, if_false]
        rw [show n + 1 + newN k r = n + (1 + newN k r) by omega, Bool.or_false, Bool.or_assoc]
      · simp only [if_true]
        rw [Nat.zero_add, Bool.or_false, Bool.or_assoc]
    · have h2 : 1024 < (if hasK k x.key then n else n + 1) := by omega
      have h3 : 1024 < n + ((if hasK k x.key then 0 else 1) + newN k r) := by
        cases hh : hasK k x.key
        · rw [hh] at h2; simp at h2 ⊢; omega
        · rw [hh] at h2; simp at h2; omega
      rw [decide_eq_true h2, decide_eq_true h3]
      simp
theorem chain_none {k : List Kc} (hz : ∀ x ∈ k, x.l ≠ []) {key : ByteArray} : chainK k key = [] ↔ hasK k key = false := by
  unfold chainK hasK
  cases hf : findK k key with
  | none => simp
  | some x => simp [hz x (find_mem hf).1]
theorem ver_write {s : Shf} (hs : ShOk s) {key : ByteArray} {v : Vr} (hv : vrOk v) : verP s key v = writeP s v.ts [⟨key, v.shard, v.dead⟩] := by
  have hc := hs.kok.chain key
  have ha := add_is hc hv
  have hl := hs.kl
  have e1 : ([⟨key, v.shard, v.dead⟩] : List Wr).any (fun x => decide (v.ts ≤ lastT (chainK s.k x.key))) = decide (v.ts ≤ lastT (chainK s.k key)) := by simp
  have e2 : ([⟨key, v.shard, v.dead⟩] : List Wr).any (fun x => decide (1024 ≤ (chainK s.k x.key).length)) = decide (1024 ≤ (chainK s.k key).length) := by simp
  unfold verP writeP
  rw [longW_is hs.kl, e1, e2]
  by_cases h1 : v.ts ≤ lastT (chainK s.k key)
  · rw [if_pos h1] at ha
    rw [ha, if_pos (by simp), decide_eq_true h1, if_pos rfl]
  · rw [if_neg h1] at ha
    rw [decide_eq_false h1]
    by_cases h2 : 1024 ≤ (chainK s.k key).length
    · rw [if_pos h2] at ha
      rw [ha, if_pos (by simp), if_neg (by simp), decide_eq_true h2, if_pos (by simp)]
    · rw [if_neg h2] at ha
      rw [ha, if_neg (by simp), decide_eq_false h2, Bool.false_or, if_neg (c := false = true) (by simp)]
      cases hh : hasK s.k key with
      | true =>
        have e : newN s.k [⟨key, v.shard, v.dead⟩] = 0 := by unfold newN; simp [hh]
        rw [e, if_neg (by simp), if_neg (by simp; omega)]
        rfl
      | false =>
        have e : newN s.k [⟨key, v.shard, v.dead⟩] = 1 := by unfold newN; simp [hh]
        rw [e]
        by_cases h3 : 1024 ≤ s.k.length
        · rw [if_pos ⟨rfl, h3⟩, if_pos (by simp; omega)]
        · rw [if_neg (fun hx => h3 hx.2), if_neg (by simp; omega)]
          rfl
theorem do_write {s : Shf} {txn ts : Int} (h1 : ¬ 1 < (stateP s txn).1) {r : Rec} (hp : prepOf s.p txn = some r) (ht : 0 < ts) : doP s txn ts = if (writeP s ts r.ws).2 ≠ 0 then (s, (writeP s ts r.ws).2) else (endP (writeP s ts r.ws).1 txn ts, 0) := by
  unfold doP writeP
  rw [if_neg h1, hp]
  simp only
  rw [if_pos ht]
  split
  · rfl
  · split <;> rfl
theorem addW_app {ts : Int} (x : Wr) : ∀ (a : List Wr) (k : List Kc), addW ts (a ++ [x]) k = addK (addW ts a k) x.key ⟨ts, x.shard, x.dead⟩
  | [], _ => rfl
  | y :: r, k => by
    show addW ts (r ++ [x]) _ = _
    rw [addW_app x r]
    rfl
theorem addW_next {k : List Kc} (hk : KOk k) {ts : Int} {ws : List Wr} (hm : MayW ts ws) (hl : ∀ x ∈ ws, lastT (chainK k x.key) < ts) (hn : ∀ x ∈ ws, (chainK k x.key).length < 1024) {j : Nat} (hj : j < ws.length) :
    addW ts (ws.take (j + 1)) k = putK (addW ts (ws.take j) k) ws[j].key (chainK k ws[j].key ++ [vrW ts ws[j]]) ∧ KOk (addW ts (ws.take j) k) := by
  have hsub : ∀ x ∈ ws.take j, x ∈ ws := fun x hx => List.mem_of_mem_take hx
  obtain ⟨i1, i2, _⟩ := addW_ok hm.ts (ws.take j) k hk (fun x hx => hm.each x (hsub x hx)) (hm.apart.sublist (List.take_sublist ..)) (fun x hx => hl x (hsub x hx)) (fun x hx => hn x (hsub x hx))
  refine ⟨?_, i1⟩
  rw [List.take_succ_eq_append_getElem hj, addW_app]
  unfold addK
  have hch : chainK (addW ts (ws.take j) k) ws[j].key = chainK k ws[j].key := i2 _ (fun x hx e => by
    obtain ⟨i, hi, rfl⟩ := List.getElem_of_mem hx
    rw [List.length_take] at hi
    rw [List.getElem_take] at e
    exact List.pairwise_iff_getElem.1 hm.apart i j (by omega) hj (by omega) e)
  rw [hch, add_is (hk.chain _) (v := ⟨ts, ws[j].shard, ws[j].dead⟩) (hm.vr (List.getElem_mem hj))]
  have h1 := hl _ (List.getElem_mem hj)
  have h2 := hn _ (List.getElem_mem hj)
  rw [if_neg (by show ¬ ts ≤ _; omega), if_neg (by omega)]
  rfl
end Sh
end Go.Proofs.YtbkanoblcojdfaaGreat
