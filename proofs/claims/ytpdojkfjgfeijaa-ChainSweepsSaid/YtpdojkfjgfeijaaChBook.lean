/- A chain that is lent, kept, spoiled: contracts; no condition but the range. -/
import Derived.Test.YtpdojkfjgfeijaaChSame
import Derived.Test.YtpdojkfjgfeijaaBkAppend
namespace Go.Proofs.Ytpdojkfjgfeijaa
namespace Ch
open Go.RowKit Bk

attribute [local go_sem ↓] Go.wp_at_zero Go.wp_at_succ
attribute [local go_sem] floatUpon pick

/-- append of a row that may be nil onto an owned row, three cells each -/
theorem run_append_opt3 {P : Program} (w : World) (base : Nat) (t ty e : TypeId) (i : TypeInfo) (z : Value) (bytes : Nat) (ht : P.underlying t = some (.slice e)) (hi : P.info? e = some i) (hz : i.zero = some z)
    (hsize : i.size = 3) (hby : i.bytes = bytes) (hzs : z.cells.size = 3) (v : Value) (n : Nat) (xs : List Value) (hown : w.ownsRow base e 3 v n xs)
    (A : Option Addr) (m c : Nat) (news : List Value) (hl : news.length = m * 3) (hA : A = none → m = 0 ∧ c = 0) (hnews : ∀ ad, A = some ad → ∀ j u, news[j]? = some u → w.cell? (ad.add j) = some u) (h1 : ∀ u ∈ news, u.oneCell' = true)
    (h63 : n + m ≤ maxLen) (hbytes : (n + m) * bytes ≤ 140737488355328) (hbase : base ≤ w.heap.size) :
    ∃ v' w', (Builtin.append_ #[t, t] ty #[v, .slice A m c]).run P w = .ok v' w' ∧ w'.ownsRow base e 3 v' (n + m) (xs ++ news) ∧ w.grownBy w' v.ownBlock ∧ (v'.ownBlock = v.ownBlock ∨ v'.ownBlock = some w.heap.size) := by
  cases A with
  | none =>
    obtain ⟨rfl, rfl⟩ := hA rfl
    obtain rfl : news = [] := List.eq_nil_of_length_eq_zero (by omega)
    exact ⟨v, w, run_append_owned_none (P := P) w base t ty e i 3 ht hi _ _ _ hown, by rw [List.append_nil]; exact hown, ⟨rfl, rfl, rfl, Nat.le_refl _, fun _ _ _ => rfl⟩, .inl rfl⟩
  | some ad =>
    obtain ⟨v', w', hr, h2, h3, _, h5⟩ := run_append_own_at (P := P) w base t ty e i z 3 bytes ht hi hz hsize hby hzs (by omega) v n xs hown ad m c news hl (hnews ad rfl) h1 h63 hbytes hbase
    exact ⟨v', w', hr, h2, h3, h5⟩

theorem wpList_append_opt3 {P : Program} {w : World} {ops : Array Oper} {rest : List Oper} {o : Oper} {a : Act} {Q : Exit → Act → World → Prop} (hgd : o.guard = none) (s x : Operand) (t : TypeId)
    (ho : o.op = .call { callee := .builtin .append, args := #[s, x], argTypes := #[t, t] })
    (base : Nat) (e : TypeId) (i : TypeInfo) (z : Value) (bytes : Nat) (ht : P.underlying t = some (.slice e)) (hi : P.info? e = some i) (hz : i.zero = some z)
    (hsize : i.size = 3) (hby : i.bytes = bytes) (hzs : z.cells.size = 3) (v : Value) (n : Nat) (xs : List Value) (hs : a.eval s = v) (hown : w.ownsRow base e 3 v n xs)
    (A : Option Addr) (m c : Nat) (news : List Value) (hx : a.eval x = .slice A m c) (hl : news.length = m * 3) (hA : A = none → m = 0 ∧ c = 0) (hnews : ∀ ad, A = some ad → ∀ j u, news[j]? = some u → w.cell? (ad.add j) = some u) (h1 : ∀ u ∈ news, u.oneCell' = true)
    (h63 : n + m ≤ maxLen) (hbytes : (n + m) * bytes ≤ 140737488355328) (hbase : base ≤ w.heap.size)
    (h : ∀ v' w', w'.ownsRow base e 3 v' (n + m) (xs ++ news) → w.grownBy w' v.ownBlock → (v'.ownBlock = v.ownBlock ∨ v'.ownBlock = some w.heap.size) → wpList P ops Q rest (a.put o.dst v') w') :
    wpList P ops Q (o :: rest) a w := by
  refine wpList_plain hgd fun K hK => ?_
  obtain ⟨v', w', hr, h2, h3, h5⟩ := run_append_opt3 (P := P) w base t o.type e i z bytes ht hi hz hsize hby hzs v n xs hown A m c news hl hA hnews h1 h63 hbytes hbase
  unfold Oper.wp execOp
  simp only [ho, resolve, invoke, builtin, Sem.run_bind, Sem.run_pure, Result.andThen_ok, List.map_toArray, List.map_cons, List.map_nil, hs, hx, hr]
  exact hK _ _ (h v' w' h2 h3 h5)

def markV : Vr := ⟨-77, ⟨#[]⟩, false⟩

theorem new_cells (w : World) (x : Vr) (t : TypeId) : ∀ j u, (vcs x)[j]? = some u → (w.alloc (.cells (vcs x).toArray t)).cell? ((⟨w.heap.size, 0, none⟩ : Addr).add j) = some u := fun j u hj => by
  rw [addr_head]
  exact blk_cell (blk1 w _).2 (by rw [List.getElem?_toArray]; exact hj)

theorem vcs_one (x : Vr) : ∀ u ∈ vcs x, u.oneCell' = true := fun u hu => by
  unfold vcs at hu
  simp only [List.mem_cons, List.not_mem_nil, or_false] at hu
  rcases hu with rfl | rfl | rfl <;> rfl

theorem vrs_own {w : World} {H n : Nat} {v : Value} {e : TypeId} {l : List Vr} (h : w.ownsRow H e 3 v n (vrV l)) (hl : n = l.length) : ∃ (A : Option Addr) (c : Nat), v = .slice A n c ∧ VrsAt w A l ∧ n ≤ c ∧ c ≤ maxLen ∧ (A = none → n = 0 ∧ c = 0) := by
  rcases h.2 with ⟨rfl, rfl⟩ | ⟨g, cap, cur, rfl, _, hg, h1, h2, hsz, htk⟩
  · exact ⟨none, 0, rfl, fun hp => by omega, Nat.le_refl _, Nat.zero_le _, fun _ => ⟨rfl, rfl⟩⟩
  · refine ⟨_, cap, rfl, fun _ => ⟨_, rfl, (Array.getElem?_eq_some_iff.1 hg).1, fun i hi => ?_⟩, h1, h2, fun e => by cases e⟩
    obtain ⟨x0, x1, x2⟩ := vrV_at l i hi
    have hlen : (vrV l).length = n * 3 := by rw [vrV_len, hl]
    have hc : ∀ j u, (vrV l)[j]? = some u → w.cell? ((⟨g, 0, none⟩ : Addr).add j) = some u := fun j u hu => by
      rw [addr_head]
      refine blk_cell hg ?_
      have hj := (List.getElem?_eq_some_iff.1 hu).1
      rw [← htk, List.getElem?_take_of_lt (by omega)] at hu
      rw [← Array.getElem?_toList]; exact hu
    exact ⟨hc _ _ x0, hc _ _ x1, hc _ _ x2⟩

/-- what is lent: a row of the call's own, a mark behind it -/
def Lent (W : World) (H : Nat) (l : List Vr) (g cap : Nat) : Prop := W.ownsRow H 24 3 (.slice (some ⟨g, 0, none⟩) (l.length + 1) cap) (l.length + 1) (vrV (l ++ [markV]))

theorem Lent.cap {W : World} {H g cap : Nat} {l : List Vr} (h : Lent W H l g cap) : l.length + 1 ≤ cap ∧ cap ≤ 9223372036854775807 ∧ g < W.heap.size ∧ H ≤ g := by
  rcases h.2 with ⟨h1, h2⟩ | ⟨g', cap', cur, h1, h0, h2, h3, h4, _⟩
  · simp at h1
  · simp only [Value.slice.injEq, Option.some.injEq, Addr.mk.injEq] at h1
    obtain ⟨⟨rfl, -⟩, -, rfl⟩ := h1
    unfold maxLen at h4
    exact ⟨h3, h4, (Array.getElem?_eq_some_iff.1 h2).1, h0⟩

theorem Lent.vrs {W : World} {H g cap : Nat} {l : List Vr} (h : Lent W H l g cap) : VrsAt W (some ⟨g, 0, none⟩) l := by
  obtain ⟨A, c, e, h1, _⟩ := vrs_own h (by simp)
  simp only [Value.slice.injEq] at e
  obtain ⟨rfl, -, -⟩ := e
  intro hp
  obtain ⟨ad, e, h2, h3⟩ := h1 (by simp)
  refine ⟨ad, e, h2, fun i hi => ?_⟩
  have := h3 i (by rw [List.length_append]; omega)
  rwa [List.getElem_append_left hi] at this

theorem Lent.mark {W : World} {H g cap : Nat} {l : List Vr} (h : Lent W H l g cap) : W.cell? ⟨g, l.length * 3, none⟩ = some (.int .i64 (-77)) ∧ W.cell? ⟨g, l.length * 3 + 1, none⟩ = some (.string ⟨#[]⟩) ∧ W.cell? ⟨g, l.length * 3 + 2, none⟩ = some (.bool false) := by
  obtain ⟨A, c, e, h1, _⟩ := vrs_own h (by simp)
  simp only [Value.slice.injEq] at e
  obtain ⟨rfl, -, -⟩ := e
  obtain ⟨ad, e, h2, h3⟩ := h1 (by simp)
  obtain rfl := Option.some.inj e
  have := h3 l.length (by simp)
  rw [List.getElem_append_right (Nat.le_refl _)] at this
  simp only [Nat.sub_self, List.getElem_cons_zero, addr_head] at this
  exact this

theorem Lent.below {W W' : World} {H g cap : Nat} {l : List Vr} (h : Lent W H l g cap) (hb : Below W.heap.size W W') : Lent W' H l g cap := st_keep h hb

set_option maxRecDepth 20000 in
set_option maxHeartbeats 4000000 in
theorem lend_any (v : Value) (l : List Vr) (w : World) (h : VrsOf w v l) :
    Calls Try.prog 8 #[v] w fun e w' => ∃ g cap, e = .returned (.slice (some ⟨g, 0, none⟩) l.length cap) ∧ Lent w' w.heap.size l g cap ∧ Below w.heap.size w w' := by
  obtain ⟨i1, hi', hz0', hz1', hz2'⟩ := info_parts Try.infoVer
  obtain ⟨A, c, rfl, hst, h32, hrng, hnil, -⟩ := h
  have rb : reachBytes = 140737488351232 := rfl
  have HSt := Lib.hid hst
  have HNil := Lib.hid hnil
  have HO0 := Lib.hid (show (w.alloc (.cells #[] 24)).ownsRow w.heap.size 24 3 (.slice (some ⟨w.heap.size, 0, none⟩) 0 0) 0 [] from World.ownsRow_lit (base := w.heap.size) (e := 24) (size := 3) w #[] 0 (Nat.le_refl _) (by unfold maxLen; omega) rfl)
  have hlen : (l.length : Int) ≤ 9223372036854775807 := by omega
  clear hst hnil hrng
  go_enter Try.func8, Try.ntmps8
  go_wp2_with (at_builtin; refine wpList_append_opt3 rfl _ _ 22 rfl w.heap.size 24 i1 (.agg #[.int .i64 0, .string ⟨#[]⟩, .bool false]) 32 Try.underlying22 hi' hz0' hz1' hz2' rfl _ 0 _ rfl HO0.out A l.length c (vrV l) rfl (vrV_len _) HNil.out ?c1 ?c2 ?c3 ?c4 (by simp) ?_)
  case c1 => exact fun ad e => by subst e; exact (HSt.out.alloc _).news
  case c2 => exact vrV_one _
  case c3 => unfold maxLen; omega
  case c4 => omega
  intro v' w3 ho hg hat
  have hb3 : Below w.heap.size w w3 := ((Below.refl _ w).alloc (Nat.le_refl _) (.cells #[] 24)).grown hg (by simp) (fun k hk => (HO0.out.lt k hk).1)
  try simp only [Nat.zero_add, List.nil_append] at ho
  have HO3 := Lib.hid ho
  have HB3 := Lib.hid hb3
  clear ho hg hat hb3 HO0
  go_wp2_with (at_builtin; refine wpList_append_own_at _ rfl _ _ 22 rfl w.heap.size 24 i1 (.agg #[.int .i64 0, .string ⟨#[]⟩, .bool false]) 3 32 Try.underlying22 hi' hz0' hz1' hz2' rfl (by decide) _ l.length (vrV l) rfl (HO3.out.alloc _) ⟨w3.heap.size, 0, none⟩ 1 1 (vcs markV) rfl rfl (new_cells _ markV _) (vcs_one markV) ?d3 ?d4 ?d5 ?_)
  case d3 => unfold maxLen; omega
  case d4 => omega
  case d5 => have := HB3.out.size; simp; omega
  intro v5 w5 hown' hgrow _ _
  have HB5 : Hid (Below w.heap.size w w5) := Lib.hid ((HB3.out.alloc HB3.out.size _).grown hgrow (by have := HB3.out.size; simp; omega) (fun k hk => (HO3.out.lt k hk).1))
  rw [← vrV_snoc] at hown'
  obtain ⟨g, cap, rfl, _, hlt⟩ := World.ownsRow.form hown' (by omega)
  have hL : Lent w5 w.heap.size l g cap := hown'
  have hc := hL.cap
  have HL := Lib.hid hL
  have hc1 : (l.length : Int) ≤ (cap : Int) := by omega
  have hc2 : (cap : Int) ≤ 9223372036854775807 := by omega
  have hc0 : ¬ cap = 0 := by omega
  clear hown' hgrow HO3 HB3 hL hc
  go_wp2_with fail
  go_ret
  exact ⟨g, cap, rfl, HL.out, HB5.out⟩

set_option maxRecDepth 20000 in
set_option maxHeartbeats 4000000 in
theorem kept_any (H g cap : Nat) (v : Value) (l : List Vr) (w : World) (h : VrsOf w v l) (ho : Lent w H l g cap) :
    Calls Try.prog 15 #[.slice (some ⟨g, 0, none⟩) l.length cap, v] w fun e w' => e = .returned (.bool true) ∧ Below w.heap.size w w' := by
  obtain ⟨A, c, rfl, hst, h32, _, _, _, _⟩ := h
  have rb : reachBytes = 140737488351232 := rfl
  have hsm := sameVrs_any (some ⟨g, 0, none⟩) A cap c l l w ho.vrs hst (by omega)
  rw [show decide (l = l) = true by simp] at hsm
  have HSM := Lib.hid hsm
  have HO := Lib.hid ho
  have hc := ho.cap
  have hcl : (l.length : Int) + 1 ≤ (cap : Int) := by omega
  have hc2 : (cap : Int) ≤ 9223372036854775807 := by omega
  have hc0 : ¬ cap = 0 := by omega
  have pl : (l.length : Int) < (l.length : Int) + 1 := by omega
  clear hsm hst ho hc
  go_enter Try.func15, Try.ntmps15
  go_wp2_with fail
  refine HSM.out.mono ?_
  rintro e w1 ⟨rfl, hb⟩
  obtain ⟨m0, m1, m2⟩ := (HO.out.below hb).mark
  have t0 := text_eq ⟨#[]⟩
  have HB := Lib.hid hb
  clear hb HSM
  go_wp2_with fail
  go_ret
  exact ⟨rfl, HB.out⟩

end Ch
end Go.Proofs.Ytpdojkfjgfeijaa
