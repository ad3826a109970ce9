/- A row of the document's leases in the memory; no condition but the range. -/
import Derived.Test.YtlhcaankfhdakaaLsMath
import Derived.Test.YtlhcaankfhdakaaBkAppend
import Derived.Deep.RegionLaw
import Derived.Handy
namespace Go.Proofs.Ytlhcaankfhdakaa
namespace Ls
open Go.RowKit Bk

def leC (x : Le) : List Value := [.int .i64 x.n, .int .i64 x.t, .int .i64 x.u]

theorem fl_len (l : List Le) : (l.flatMap leC).length = l.length * 3 := by
  induction l with
  | nil => rfl
  | cons x r ih => rw [List.flatMap_cons, List.length_append, ih, List.length_cons]; show 3 + _ = _; omega

theorem fl_at : ∀ {l : List Le} {k : Nat} {x : Le} (_ : l[k]? = some x) {j : Nat} (_ : j < 3), (l.flatMap leC)[k * 3 + j]? = (leC x)[j]?
  | [], k, x, h, j, _ => by simp at h
  | y :: r, 0, x, h, j, hj => by
    obtain rfl : y = x := by simpa using h
    rw [List.flatMap_cons, Nat.zero_mul, Nat.zero_add, List.getElem?_append_left (by show j < 3; exact hj)]
  | y :: r, k + 1, x, h, j, hj => by
    rw [List.flatMap_cons, List.getElem?_append_right (by show 3 ≤ _; omega)]
    rw [show (k + 1) * 3 + j - (leC y).length = k * 3 + j by show _ - 3 = _; omega]
    exact fl_at (by simpa using h) hj

/-- a row of the call's own holds these tasks -/
def DRow (W : World) (base : Nat) (v : Value) (l : List Le) : Prop := W.ownsRow base 60 3 v l.length (l.flatMap leC)

/-- the row's block, known whole -/
theorem DRow.blk {W : World} {base : Nat} {v : Value} {l : List Le} (h : DRow W base v l) (hp : 0 < l.length) :
    ∃ (p cap : Nat) (rest : List Value), v = .slice (some ⟨p, 0, none⟩) l.length cap ∧ base ≤ p ∧ Cel W p 60 (l.flatMap leC ++ rest) ∧ l.length ≤ cap ∧ cap ≤ maxLen ∧ l.length * 3 + rest.length = cap * 3 := by
  obtain ⟨hl, h⟩ := h
  rcases h with ⟨_, h0⟩ | ⟨p, cap, cur, e1, h2, h3, h4, h5, h6, h7⟩
  · omega
  · refine ⟨p, cap, cur.toList.drop (l.length * 3), e1, h2, ?_, h4, h5, ?_⟩
    · unfold Cel
      rw [← h7, List.take_append_drop]
      exact h3
    · have e : cur.toList.length = cap * 3 := h6
      rw [List.length_drop, e]; omega

theorem DRow.of {W : World} {base p cap : Nat} {l : List Le} {rest : List Value} (hb : base ≤ p) (h : Cel W p 60 (l.flatMap leC ++ rest)) (h1 : l.length ≤ cap) (h2 : cap ≤ maxLen) (h3 : l.length * 3 + rest.length = cap * 3) : DRow W base (.slice (some ⟨p, 0, none⟩) l.length cap) l :=
  ⟨fl_len l, .inr ⟨p, cap, _, rfl, hb, h, h1, h2, by rw [List.size_toArray, List.length_append, fl_len]; exact h3, by rw [List.toList_toArray, ← fl_len l, List.take_left]⟩⟩

theorem dcell_of {W : World} {p : Nat} {l : List Le} {rest : List Value} (h : Cel W p 60 (l.flatMap leC ++ rest)) {k : Nat} (hk : k < l.length) {j : Nat} (hj : j < 3) {u : Value} (hu : (leC (g l k))[j]? = some u) : W.cell? ⟨p, k * 3 + j, none⟩ = some u :=
  h.cell (by rw [List.getElem?_append_left (by rw [fl_len]; omega), fl_at (at_g hk) hj]; exact hu)

theorem run_append_optN {P : Program} (w : World) (base : Nat) (t ty e : TypeId) (i : TypeInfo) (z : Value) (sz bytes : Nat) (ht : P.underlying t = some (.slice e)) (hi : P.info? e = some i) (hz : i.zero = some z)
    (hsize : i.size = sz) (hby : i.bytes = bytes) (hzs : z.cells.size = sz) (h0 : 0 < sz) (v : Value) (n : Nat) (xs : List Value) (hown : w.ownsRow base e sz v n xs)
    (A : Option Addr) (m c : Nat) (news : List Value) (hl : news.length = m * sz) (hA : A = none → m = 0 ∧ c = 0) (hnews : ∀ ad, A = some ad → ∀ j u, news[j]? = some u → w.cell? (ad.add j) = some u) (h1 : ∀ u ∈ news, u.oneCell' = true)
    (h63 : n + m ≤ maxLen) (hbytes : (n + m) * bytes ≤ 140737488355328) (hbase : base ≤ w.heap.size) :
    ∃ v' w', (Builtin.append_ #[t, t] ty #[v, .slice A m c]).run P w = .ok v' w' ∧ w'.ownsRow base e sz v' (n + m) (xs ++ news) ∧ w.grownBy w' v.ownBlock ∧ (v'.ownBlock = v.ownBlock ∨ v'.ownBlock = some w.heap.size) := by
  cases A with
  | none =>
    obtain ⟨rfl, rfl⟩ := hA rfl
    obtain rfl : news = [] := List.eq_nil_of_length_eq_zero (by omega)
    exact ⟨v, w, run_append_owned_none (P := P) w base t ty e i sz ht hi _ _ _ hown, by rw [List.append_nil]; exact hown, ⟨rfl, rfl, rfl, Nat.le_refl _, fun _ _ _ => rfl⟩, .inl rfl⟩
  | some ad =>
    obtain ⟨v', w', hr, h2, h3, _, h5⟩ := run_append_own_at (P := P) w base t ty e i z sz bytes ht hi hz hsize hby hzs h0 v n xs hown ad m c news hl (hnews ad rfl) h1 h63 hbytes hbase
    exact ⟨v', w', hr, h2, h3, h5⟩

/-- an append of any row at a step of a region that draws its order -/
theorem step_append_optN {P : Program} {ops : Array Oper} {o : Oper} {a : Act} {w : World} {K : Act → World → Prop} {Q : Exit → Act → World → Prop} {E : Prop} (hgd : o.guard = none) (s x : Operand) (t : TypeId)
    (ho : o.op = .call { callee := .builtin .append, args := #[s, x], argTypes := #[t, t] })
    (base : Nat) (e : TypeId) (i : TypeInfo) (z : Value) (sz bytes : Nat) (ht : P.underlying t = some (.slice e)) (hi : P.info? e = some i) (hz : i.zero = some z)
    (hsize : i.size = sz) (hby : i.bytes = bytes) (hzs : z.cells.size = sz) (h0 : 0 < sz) (v : Value) (n : Nat) (xs : List Value) (hs : a.eval s = v) (hown : w.ownsRow base e sz v n xs)
    (A : Option Addr) (m c : Nat) (news : List Value) (hx : a.eval x = .slice A m c) (hl : news.length = m * sz) (hA : A = none → m = 0 ∧ c = 0) (hnews : ∀ ad, A = some ad → ∀ j u, news[j]? = some u → w.cell? (ad.add j) = some u) (h1 : ∀ u ∈ news, u.oneCell' = true)
    (h63 : n + m ≤ maxLen) (hbytes : (n + m) * bytes ≤ 140737488355328) (hbase : base ≤ w.heap.size)
    (h : ∀ v' w', w'.ownsRow base e sz v' (n + m) (xs ++ news) → w.grownBy w' v.ownBlock → K (a.put o.dst v') w') :
    if Region.wanted o (yielded ops a.tmps) = true then Oper.wp P o a w K Q else E := by
  have hw : Region.wanted o (yielded ops a.tmps) = true := by simp [Region.wanted, hgd]
  rw [if_pos hw]
  obtain ⟨v', w', hr, h2, h3, _⟩ := run_append_optN (P := P) w base t o.type e i z sz bytes ht hi hz hsize hby hzs h0 v n xs hown A m c news hl hA hnews h1 h63 hbytes hbase
  unfold Oper.wp execOp
  simp only [ho, resolve, invoke, builtin, Sem.run_bind, Sem.run_pure, Result.andThen_ok, List.map_toArray, List.map_cons, List.map_nil, hs, hx, hr]
  exact h v' w' h2 h3

theorem Try.infoLe : (Try.prog.info? 60).map (fun i => (i.zero.map (·.cells.size), i.size, i.bytes)) = some (some 3, 3, 24) := by kernel_rfl

theorem info_le : ∃ i z, Try.prog.info? 60 = some i ∧ i.zero = some z ∧ z.cells.size = 3 ∧ i.size = 3 ∧ i.bytes = 24 := by
  have h := Try.infoLe
  cases hi : Try.prog.info? 60 with
  | none => rw [hi] at h; cases h
  | some i =>
    rw [hi] at h
    simp only [Option.map_some, Option.some.injEq, Prod.mk.injEq] at h
    obtain ⟨h1, h2, h3⟩ := h
    cases hz : i.zero with
    | none => rw [hz] at h1; cases h1
    | some z =>
      rw [hz] at h1
      simp only [Option.map_some, Option.some.injEq] at h1
      exact ⟨i, z, rfl, hz, h1, h2, h3⟩

theorem le_one {l : List Le} : ∀ u ∈ l.flatMap leC, u.oneCell' = true := fun u hu => by
  obtain ⟨x, _, h⟩ := List.mem_flatMap.1 hu
  simp [leC] at h
  rcases h with rfl | rfl | rfl <;> rfl


end Ls
end Go.Proofs.Ytlhcaankfhdakaa
