/- Parts of the proof, joined: PkDecEnv, BkStr, PkDecMath, PkDec, BkAppend, LtBytes, LtCheck, LtEnc, LtPairs, LtCand, LtShape, RcMath, RcOpen, LtDec0, RcEnv; their conditions stand with each. -/
import Derived.Maps.AppendAt
import Derived.OneCell
import Derived.Test.YtbkanoblcojdfaaGreatM0
import Derived.Test.YtbkanoblcojdfaaGreatM2

namespace Go.Proofs.YtbkanoblcojdfaaGreat
namespace Pk
open Go.RowKit Bk
structure DcEnv (w W : World) (g : Nat) (v1 v2 : Value) (ns : List Int) (ts : List ByteArray) : Prop where
  cel : Cel W g 240 [v1, v2]
  r0 : W.ownsRow (g + 1) 3 1 v1 ns.length (intV ns)
  r1 : W.ownsRow (g + 1) 9 1 v2 ts.length (strV ts)
  d : Unlike v1 v2
  bel : Below g w W
theorem DcEnv.lt {w W : World} {g : Nat} {v1 v2 : Value} {ns : List Int} {ts : List ByteArray} (h : DcEnv w W g v1 v2 ns ts) : g + 1 ≤ W.heap.size := h.cel.lt
theorem DcEnv.step {w W W' : World} {g : Nat} {v1 v2 : Value} {ns : List Int} {ts : List ByteArray} (h : DcEnv w W g v1 v2 ns ts) (hb : Below W.heap.size W W') : DcEnv w W' g v1 v2 ns ts :=
  ⟨h.cel.below hb, st_keep h.r0 hb, st_keep h.r1 hb, h.d, h.bel.trans (hb.mono (Nat.le_of_lt h.cel.lt))⟩
def goN (O : List Int) (k : Nat) (L : List UInt8) : Except Er (List Int × List UInt8) :=
  match numsF k L with
  | .error e => .error e
  | .ok (ns, r) => .ok (O ++ ns, r)
theorem goN_more {O : List Int} {k n : Nat} {L r : List UInt8} (h : numF L = .ok (n, r)) : goN O (k + 1) L = goN (O ++ [unzig n]) k r := by
  unfold goN
  rw [numsF, h]
  simp only
  cases numsF k r with
  | error e => rfl
  | ok x => obtain ⟨ns, r2⟩ := x; simp
theorem goN_err {O : List Int} {k : Nat} {L : List UInt8} {e : Er} (h : numF L = .error e) : goN O (k + 1) L = .error e := by
  unfold goN
  rw [numsF, h]
def goT (O : List ByteArray) (k : Nat) (L : List UInt8) : Except Er (List ByteArray × List UInt8) :=
  match textsF k L with
  | .error e => .error e
  | .ok (ts, r) => .ok (O ++ ts, r)
theorem goT_done (O : List ByteArray) (L : List UInt8) : goT O 0 L = .ok (O, L) := by simp [goT, textsF]
theorem goT_more {O : List ByteArray} {k : Nat} {t : ByteArray} {L r : List UInt8} (h : textF L = .ok (t, r)) : goT O (k + 1) L = goT (O ++ [t]) k r := by
  unfold goT
  rw [textsF, h]
  simp only
  cases textsF k r with
  | error e => rfl
  | ok x => obtain ⟨ns, r2⟩ := x; simp
theorem goT_err {O : List ByteArray} {k : Nat} {L : List UInt8} {e : Er} (h : textF L = .error e) : goT O (k + 1) L = .error e := by
  unfold goT
  rw [textsF, h]
def Said (s : ByteArray) (r : Except Er (Nat × List UInt8)) (n a c : Nat) : Prop :=
  (c = 0 ∧ a ≤ s.size ∧ n < 9223372036854775808 ∧ r = .ok (n, s.data.toList.drop a)) ∨ (c ≠ 0 ∧ c ≤ 50 ∧ a ≤ s.size ∧ n = 0 ∧ ∃ e : Er, r = .error e ∧ a = e.place s.size ∧ c = e.code)
end Pk
end Go.Proofs.YtbkanoblcojdfaaGreat

namespace Go.Proofs.YtbkanoblcojdfaaGreat
namespace Bk
open Go.RowKit
theorem str_one {w : World} {g : Nat} {t : TypeId} {u : Value} (h : w.heap[g]? = some (.cells #[u] t (0, 0))) : ∀ j v, [u][j]? = some v → w.cell? ((⟨g, 0, none⟩ : Addr).add j) = some v := fun j v hv => by
  match j with
  | 0 => simp at hv; subst hv; rw [addr_head]; exact blk_cell h rfl
  | j + 1 => simp at hv
end Bk
end Go.Proofs.YtbkanoblcojdfaaGreat

namespace Go.Proofs.YtbkanoblcojdfaaGreat
namespace Pk
open Go.RowKit Bk
attribute [local go_sem ↓] Go.wp_at_zero Go.wp_at_succ
attribute [local go_sem] floatUpon pick
def decR (s : ByteArray) : List Int × List ByteArray × Nat × Nat :=
  match decL s.data.toList with
  | .ok (ns, ts) => (ns, ts, 0, 0)
  | .error er => ([], [], er.place s.size, er.code)
def Failed (s : ByteArray) (a c : Nat) : Prop := c ≠ 0 ∧ c ≤ 50 ∧ ∃ er : Er, decL s.data.toList = .error er ∧ a = er.place s.size ∧ c = er.code
theorem Failed.out {s : ByteArray} {a c : Nat} (h : Failed s a c) : decR s = ([], [], a, c) := by
  obtain ⟨_, _, er, h1, h2, h3⟩ := h
  unfold decR
  rw [h1, h2, h3]
def St1 (s : ByteArray) (many j a c : Nat) (O : List Int) : Prop :=
  (c = 0 ∧ ∃ r1, cnt 1024 s.data.toList = .ok (many, r1) ∧ numsF many r1 = goN O (many - j) (s.data.toList.drop a)) ∨ Failed s a c
def St2 (s : ByteArray) (many j a c : Nat) (ns : List Int) (O : List ByteArray) : Prop :=
  (c = 0 ∧ ∃ k r1 r2 r3, cnt 1024 s.data.toList = .ok (k, r1) ∧ numsF k r1 = .ok (ns, r2) ∧ cnt 1024 r2 = .ok (many, r3) ∧ textsF many r3 = goT O (many - j) (s.data.toList.drop a)) ∨ Failed s a c
theorem decL_e2 {L r1 : List UInt8} {k : Nat} {e : Er} (h : cnt 1024 L = .ok (k, r1)) (h2 : numsF k r1 = .error e) : decL L = .error e := by unfold decL; rw [h]; simp only; rw [h2]
theorem decL_e4 {L r1 r2 r3 : List UInt8} {k m : Nat} {ns : List Int} {e : Er} (h : cnt 1024 L = .ok (k, r1)) (h2 : numsF k r1 = .ok (ns, r2)) (h3 : cnt 1024 r2 = .ok (m, r3)) (h4 : textsF m r3 = .error e) : decL L = .error e := by
  unfold decL; rw [h]; simp only; rw [h2]; simp only; rw [h3]; simp only; rw [h4]
theorem decL_e5 {L r1 r2 r3 r4 : List UInt8} {k m : Nat} {ns : List Int} {ts : List ByteArray} (h : cnt 1024 L = .ok (k, r1)) (h2 : numsF k r1 = .ok (ns, r2)) (h3 : cnt 1024 r2 = .ok (m, r3)) (h4 : textsF m r3 = .ok (ts, r4)) :
    decL L = if r4 = [] then .ok (ns, ts) else .error (.bad r4.length 3) := by
  unfold decL; rw [h]; simp only; rw [h2]; simp only; rw [h3]; simp only; rw [h4]
theorem St1.step {s : ByteArray} {many j a : Nat} {O : List Int} (h : St1 s many j a 0 O) (hj : j < many) {n p c : Nat} (hs : Said s (numF (s.data.toList.drop a)) n p c) : St1 s many (j + 1) p c (O ++ [unzig n]) := by
  rcases h with ⟨_, r1, h1, h2⟩ | h
  · rw [show many - j = (many - (j + 1)) + 1 by omega] at h2
    rcases hs with ⟨k1, k2, k3, k4⟩ | ⟨k1, k2, k3, k4, e, k5, k6, k7⟩
    · exact .inl ⟨k1, r1, h1, by rw [h2, goN_more k4]⟩
    · exact .inr ⟨k1, k2, e, decL_e2 h1 (by rw [h2, goN_err k5]), k6, k7⟩
  · exact absurd rfl h.1
theorem St2.err {s : ByteArray} {many j a : Nat} {ns : List Int} {O : List ByteArray} (h : St2 s many j a 0 ns O) (hj : j < many) {e : Er} (hs : textF (s.data.toList.drop a) = .error e) (h0 : e.code ≠ 0) (h5 : e.code ≤ 50) : Failed s (e.place s.size) e.code := by
  rcases h with ⟨_, k, r1, r2, r3, h1, h2, h3, h4⟩ | h
  · rw [show many - j = (many - (j + 1)) + 1 by omega] at h4
    exact ⟨h0, h5, e, decL_e4 h1 h2 h3 (by rw [h4, goT_err hs]), rfl, rfl⟩
  · exact absurd rfl h.1
theorem St2.more {s : ByteArray} {many j a : Nat} {ns : List Int} {O : List ByteArray} (h : St2 s many j a 0 ns O) (hj : j < many) {p : Nat} {t : ByteArray} (hs : textF (s.data.toList.drop a) = .ok (t, s.data.toList.drop p)) : St2 s many (j + 1) p 0 ns (O ++ [t]) := by
  rcases h with ⟨_, k, r1, r2, r3, h1, h2, h3, h4⟩ | h
  · rw [show many - j = (many - (j + 1)) + 1 by omega] at h4
    exact .inl ⟨rfl, k, r1, r2, r3, h1, h2, h3, by rw [h4, goT_more hs]⟩
  · exact absurd rfl h.1
theorem St2.done {s : ByteArray} {many a : Nat} {ns : List Int} {O : List ByteArray} (h : St2 s many many a 0 ns O) : decL s.data.toList = if s.data.toList.drop a = [] then .ok (ns, O) else .error (.bad (s.data.toList.drop a).length 3) := by
  rcases h with ⟨_, k, r1, r2, r3, h1, h2, h3, h4⟩ | h
  · rw [Nat.sub_self, goT_done] at h4
    exact decL_e5 h1 h2 h3 h4
  · exact absurd rfl h.1
theorem St2.whole {s : ByteArray} {many a : Nat} {ns : List Int} {O : List ByteArray} (h : St2 s many many a 0 ns O) (ha : s.size ≤ a) : decR s = (ns, O, 0, 0) := by
  have h1 := h.done
  rw [if_pos (List.drop_eq_nil_of_le (by rw [list_size]; exact ha))] at h1
  unfold decR; rw [h1]
theorem St2.tail {s : ByteArray} {many a : Nat} {ns : List Int} {O : List ByteArray} (h : St2 s many many a 0 ns O) (ha : a < s.size) : decR s = ([], [], a, 3) := by
  have h1 := h.done
  rw [if_neg (fun e => by have := List.drop_eq_nil_iff.1 e; rw [list_size] at this; omega)] at h1
  unfold decR; rw [h1]
  simp only [Er.place, Er.code, List.length_drop, list_size]
  rw [show s.size - (s.size - a) = a by omega]
theorem own_form {w : World} {H n : Nat} {v : Value} {e : TypeId} {xs : List Value} (h : w.ownsRow H e 1 v n xs) : ∃ (A : Option Addr) (c : Nat), v = .slice A n c ∧ n ≤ c ∧ c ≤ maxLen := by
  rcases h.2 with ⟨rfl, rfl⟩ | ⟨g, cap, cur, rfl, _, _, h1, h2, _⟩
  · exact ⟨none, 0, rfl, Nat.le_refl _, Nat.zero_le _⟩
  · exact ⟨_, cap, rfl, h1, h2⟩
end Pk
end Go.Proofs.YtbkanoblcojdfaaGreat

namespace Go.Proofs.YtbkanoblcojdfaaGreat
namespace Pk
open Go.RowKit Bk
attribute [local go_sem ↓] Go.wp_at_zero Go.wp_at_succ
attribute [local go_sem] floatUpon pick
theorem strV_snoc2 (O : List ByteArray) (t : ByteArray) : strV (O ++ [t]) = strV O ++ [.string t] := by simp [strV]
theorem DcEnv.res {w W : World} {g g' : Nat} {v1 v2 : Value} {ns : List Int} {ts : List ByteArray} {t : TypeId} {xs : List Value} (h : DcEnv w W g v1 v2 ns ts) (hr : Cel w g' t xs) (hg : g' < g) : Cel W g' t xs := (h.bel.block g' hg).trans hr
end Pk
end Go.Proofs.YtbkanoblcojdfaaGreat

namespace Go.Proofs.YtbkanoblcojdfaaGreat
namespace Bk
open Go.RowKit
theorem setRow_same {w : World} {g : Nat} {cs : Array Value} {t : TypeId} {m : Nat × Nat} (h : w.heap[g]? = some (.cells cs t m)) : Below w.heap.size w (w.setRow g cs) :=
  ⟨rfl, rfl, rfl, by simp, fun k hk => by
    by_cases e : k = g
    · subst e; rw [setRow_heap w k cs cs t m h, h]
    · exact setRow_other w g k _ e⟩
theorem run_append_opt {P : Program} (w : World) (base : Nat) (t ty e : TypeId) (i : TypeInfo) (z : Value) (bytes : Nat) (ht : P.underlying t = some (.slice e)) (hi : P.info? e = some i) (hz : i.zero = some z)
    (hsize : i.size = 1) (hby : i.bytes = bytes) (hzs : z.cells.size = 1) (v : Value) (n : Nat) (xs : List Value) (hown : w.ownsRow base e 1 v n xs)
    (A : Option Addr) (m c : Nat) (news : List Value) (hl : news.length = m) (hA : A = none → m = 0 ∧ c = 0) (hnews : ∀ ad, A = some ad → ∀ j u, news[j]? = some u → w.cell? (ad.add j) = some u) (h1 : ∀ u ∈ news, u.oneCell' = true)
    (h63 : n + m ≤ maxLen) (hbytes : (n + m) * bytes ≤ 140737488355328) (hbase : base ≤ w.heap.size) :
    ∃ v' w', (Builtin.append_ #[t, t] ty #[v, .slice A m c]).run P w = .ok v' w' ∧ w'.ownsRow base e 1 v' (n + m) (xs ++ news) ∧ w.grownBy w' v.ownBlock ∧ (v'.ownBlock = v.ownBlock ∨ v'.ownBlock = some w.heap.size) := by
  cases A with
  | none =>
    obtain ⟨rfl, rfl⟩ := hA rfl
    obtain rfl : news = [] := List.eq_nil_of_length_eq_zero hl
    exact ⟨v, w, run_append_owned_none (P := P) w base t ty e i 1 ht hi _ _ _ hown, by rw [List.append_nil]; exact hown, ⟨rfl, rfl, rfl, Nat.le_refl _, fun _ _ _ => rfl⟩, .inl rfl⟩
  | some ad =>
    obtain ⟨v', w', hr, h2, h3, _, h5⟩ := run_append_own_at (P := P) w base t ty e i z 1 bytes ht hi hz hsize hby hzs (by omega) v n xs hown ad m c news (by omega) (hnews ad rfl) h1 h63 hbytes hbase
    exact ⟨v', w', hr, h2, h3, h5⟩
theorem wpList_append_opt {P : Program} {w : World} {ops : Array Oper} {rest : List Oper} {o : Oper} {a : Act} {Q : Exit → Act → World → Prop} (hgd : o.guard = none) (s x : Operand) (t : TypeId)
    (ho : o.op = .call { callee := .builtin .append, args := #[s, x], argTypes := #[t, t] })
    (base : Nat) (e : TypeId) (i : TypeInfo) (z : Value) (bytes : Nat) (ht : P.underlying t = some (.slice e)) (hi : P.info? e = some i) (hz : i.zero = some z)
    (hsize : i.size = 1) (hby : i.bytes = bytes) (hzs : z.cells.size = 1) (v : Value) (n : Nat) (xs : List Value) (hs : a.eval s = v) (hown : w.ownsRow base e 1 v n xs)
    (A : Option Addr) (m c : Nat) (news : List Value) (hx : a.eval x = .slice A m c) (hl : news.length = m) (hA : A = none → m = 0 ∧ c = 0) (hnews : ∀ ad, A = some ad → ∀ j u, news[j]? = some u → w.cell? (ad.add j) = some u) (h1 : ∀ u ∈ news, u.oneCell' = true)
    (h63 : n + m ≤ maxLen) (hbytes : (n + m) * bytes ≤ 140737488355328) (hbase : base ≤ w.heap.size)
    (h : ∀ v' w', w'.ownsRow base e 1 v' (n + m) (xs ++ news) → w.grownBy w' v.ownBlock → (v'.ownBlock = v.ownBlock ∨ v'.ownBlock = some w.heap.size) → wpList P ops Q rest (a.put o.dst v') w') :
    wpList P ops Q (o :: rest) a w := by
  refine wpList_plain hgd fun K hK => ?_
  obtain ⟨v', w', hr, h2, h3, h5⟩ := run_append_opt (P := P) w base t o.type e i z bytes ht hi hz hsize hby hzs v n xs hown A m c news hl hA hnews h1 h63 hbytes hbase
  unfold Oper.wp execOp
  simp only [ho, resolve, invoke, builtin, Sem.run_bind, Sem.run_pure, Result.andThen_ok, List.map_toArray, List.map_cons, List.map_nil, hs, hx, hr]
  exact hK _ _ (h v' w' h2 h3 h5)
end Bk
end Go.Proofs.YtbkanoblcojdfaaGreat

namespace Go.Proofs.YtbkanoblcojdfaaGreat
namespace Lt
open Go.RowKit Bk
attribute [local go_sem ↓] Go.wp_at_zero Go.wp_at_succ
attribute [local go_sem] floatUpon pick
structure BtEnv (w W : World) (X g : Nat) (v1 v2 : Value) (ns : List Int) (ts : List ByteArray) : Prop where
  cel : Cel W g 240 [v1, v2]
  r0 : W.ownsRow X 3 1 v1 ns.length (intV ns)
  r1 : W.ownsRow X 9 1 v2 ts.length (strV ts)
  d : Unlike v1 v2
  n0 : v1.ownBlock ≠ some g
  n1 : v2.ownBlock ≠ some g
  gx : X ≤ g
  bel : Below X w W
theorem BtEnv.lt {w W : World} {X g : Nat} {v1 v2 : Value} {ns : List Int} {ts : List ByteArray} (h : BtEnv w W X g v1 v2 ns ts) : X ≤ W.heap.size := Nat.le_of_lt (Nat.lt_of_le_of_lt h.gx h.cel.lt)
theorem BtEnv.step {w W W' : World} {X g : Nat} {v1 v2 : Value} {ns : List Int} {ts : List ByteArray} (h : BtEnv w W X g v1 v2 ns ts) (hb : Below W.heap.size W W') : BtEnv w W' X g v1 v2 ns ts :=
  ⟨h.cel.below hb, st_keep h.r0 hb, st_keep h.r1 hb, h.d, h.n0, h.n1, h.gx, h.bel.trans (hb.mono h.lt)⟩
theorem flat_len (ws : List Wr) : (ws.flatMap fun x => [x.key, x.shard]).length = 2 * ws.length := by
  induction ws with
  | nil => rfl
  | cons x r ih => simp only [List.flatMap_cons, List.length_append, List.length_cons, List.length_nil]; omega
end Lt
end Go.Proofs.YtbkanoblcojdfaaGreat

namespace Go.Proofs.YtbkanoblcojdfaaGreat
namespace Lt
open Go.RowKit Bk
attribute [local go_sem ↓] Go.wp_at_zero Go.wp_at_succ
attribute [local go_sem] floatUpon pick
theorem bool_of {p : Prop} : ∃ b : Bool, (b = true ↔ p) := ⟨@decide p (Classical.propDecidable _), by rw [@decide_eq_true_eq _ (Classical.propDecidable _)]⟩
end Lt
end Go.Proofs.YtbkanoblcojdfaaGreat

namespace Go.Proofs.YtbkanoblcojdfaaGreat
namespace Lt
open Go.RowKit Bk
attribute [local go_sem ↓] Go.wp_at_zero Go.wp_at_succ
attribute [local go_sem] floatUpon pick
theorem ckN_of {l : Let} (h : LetOk l) : ckN l = 0 := ckN_zero.2 h
theorem ckN_not {l : Let} (h : ¬ LetOk l) : ckN l = 70 := by unfold ckN; rw [if_neg h]
end Lt
end Go.Proofs.YtbkanoblcojdfaaGreat

namespace Go.Proofs.YtbkanoblcojdfaaGreat
namespace Lt
open Go.RowKit Bk
attribute [local go_sem ↓] Go.wp_at_zero Go.wp_at_succ
attribute [local go_sem] floatUpon pick
theorem Tryz.infoWrite : (Tryz.prog.info? 45).map (fun i => (i.zero, i.size, i.bytes)) = some (some (.agg #[.string ⟨#[]⟩, .string ⟨#[]⟩, .bool false]), 3, 40) := by kernel_rfl
def wrV (l : List Wr) : List Value := l.flatMap fun x => [.string x.key, .string x.shard, .bool x.dead]
theorem wrV_len (l : List Wr) : (wrV l).length = l.length * 3 := by
  induction l with
  | nil => rfl
  | cons x r ih =>
    show ([_, _, _] ++ wrV r).length = _
    rw [List.length_append, ih, List.length_cons]
    simp; omega
theorem wrV_snoc (l : List Wr) (x : Wr) : wrV (l ++ [x]) = wrV l ++ [.string x.key, .string x.shard, .bool x.dead] := by
  unfold wrV
  rw [List.flatMap_append]; rfl
theorem wrV_at : ∀ (l : List Wr) (i : Nat) (h : i < l.length), (wrV l)[i * 3]? = some (.string l[i].key) ∧ (wrV l)[i * 3 + 1]? = some (.string l[i].shard) ∧ (wrV l)[i * 3 + 2]? = some (.bool l[i].dead)
  | [], _, h => absurd h (by simp)
  | x :: r, 0, _ => ⟨rfl, rfl, rfl⟩
  | x :: r, i + 1, h => by
    have ih := wrV_at r i (by simpa using h)
    have e : wrV (x :: r) = .string x.key :: .string x.shard :: .bool x.dead :: wrV r := rfl
    rw [e, show (i + 1) * 3 = i * 3 + 3 by omega]
    exact ih
theorem wrs_own {w : World} {H n : Nat} {v : Value} {e : TypeId} {l : List Wr} (h : w.ownsRow H e 3 v n (wrV l)) (hl : n = l.length) : ∃ (A : Option Addr) (c : Nat), v = .slice A n c ∧ WrsAt w A l ∧ n ≤ c ∧ c ≤ maxLen ∧ (A = none → c = 0) := by
  rcases h.2 with ⟨rfl, rfl⟩ | ⟨g, cap, cur, rfl, _, hg, h1, h2, hsz, htk⟩
  · exact ⟨none, 0, rfl, fun hp => by omega, Nat.le_refl _, Nat.zero_le _, fun _ => rfl⟩
  · refine ⟨_, cap, rfl, fun _ => ⟨_, rfl, (Array.getElem?_eq_some_iff.1 hg).1, fun i hi => ?_⟩, h1, h2, fun e => by cases e⟩
    obtain ⟨x0, x1, x2⟩ := wrV_at l i hi
    have hlen : (wrV l).length = n * 3 := by rw [wrV_len, hl]
    have hc : ∀ j u, (wrV l)[j]? = some u → w.cell? ((⟨g, 0, none⟩ : Addr).add j) = some u := fun j u hu => by
      rw [addr_head]
      refine blk_cell hg ?_
      have hj := (List.getElem?_eq_some_iff.1 hu).1
      rw [← htk, List.getElem?_take_of_lt (by omega)] at hu
      rw [← Array.getElem?_toList]; exact hu
    exact ⟨hc _ _ x0, hc _ _ x1, hc _ _ x2⟩
def pairL : List Int → List ByteArray → List Wr
  | f :: fs, k :: s :: ts => ⟨k, s, f == 1⟩ :: pairL fs ts
  | _, _ => []
theorem new_row {w : World} {g : Nat} {t : TypeId} {xs : List Value} (h : w.heap[g]? = some (.cells xs.toArray t (0, 0))) : ∀ j v, xs[j]? = some v → w.cell? ((⟨g, 0, none⟩ : Addr).add j) = some v := fun j v hv => by
  rw [addr_head]
  exact blk_cell h (by rw [List.getElem?_toArray]; exact hv)
end Lt
end Go.Proofs.YtbkanoblcojdfaaGreat

namespace Go.Proofs.YtbkanoblcojdfaaGreat
namespace Lt
open Go.RowKit Bk
def manyOf (ns : List Int) : Nat := (ns.getD 6 0).toNat
def cand (ns : List Int) (ts : List ByteArray) : Let :=
  ⟨ns.getD 0 0, ns.getD 1 0, ns.getD 2 0, ns.getD 3 0, ns.getD 4 0, ns.getD 5 0, ts.getD 0 ⟨#[]⟩, (ts.drop 1).take (manyOf ns), pairL (ns.drop 7) (ts.drop (1 + manyOf ns))⟩
theorem pairL_of (ws : List Wr) : pairL (ws.map fun x => if x.dead then 1 else 0) (ws.flatMap fun x => [x.key, x.shard]) = ws := by
  induction ws with
  | nil => rfl
  | cons x r ih =>
    show (⟨x.key, x.shard, (if x.dead then (1 : Int) else 0) == 1⟩ : Wr) :: pairL (r.map fun x => if x.dead then 1 else 0) (r.flatMap fun x => [x.key, x.shard]) = _
    rw [ih]
    obtain ⟨k, s, d⟩ := x
    cases d <;> rfl
theorem cand_of (l : Let) : cand (numsOf l) (textsOf l) = l := by
  obtain ⟨kd, sr, ds, tn, ts, co, tt, ks, ws⟩ := l
  have hm : manyOf (numsOf ⟨kd, sr, ds, tn, ts, co, tt, ks, ws⟩) = ks.length := by
    simp [manyOf, numsOf]
  unfold cand
  rw [hm]
  have e1 : (textsOf ⟨kd, sr, ds, tn, ts, co, tt, ks, ws⟩).drop 1 = ks ++ ws.flatMap fun x => [x.key, x.shard] := rfl
  have e2 : (textsOf ⟨kd, sr, ds, tn, ts, co, tt, ks, ws⟩).drop (1 + ks.length) = ws.flatMap fun x => [x.key, x.shard] := by
    rw [← List.drop_drop, e1, List.drop_left]
  have e3 : (numsOf ⟨kd, sr, ds, tn, ts, co, tt, ks, ws⟩).drop 7 = ws.map fun x => if x.dead then 1 else 0 := rfl
  rw [e1, e2, e3, List.take_left, pairL_of]
  rfl
theorem says_nums {s : List UInt8} {ns : List Int} {ts : List ByteArray} {l : Let} (h : Pk.decL s = .ok (ns, ts)) (hl : LetOk l) (hs : s = letL l) : ns = numsOf l ∧ ts = textsOf l := by
  rw [hs] at h
  unfold letL at h
  rw [Pk.decL_back hl.pack] at h
  simp only [Except.ok.injEq, Prod.mk.injEq] at h
  exact ⟨h.1.symm, h.2.symm⟩
def NoLet (s : ByteArray) : Prop := ∀ l, LetOk l → s.data.toList ≠ letL l
theorem NoLet.err {s : ByteArray} {e : Pk.Er} (h : Pk.decL s.data.toList = .error e) : NoLet s := fun l hl hs => by
  rw [hs] at h
  unfold letL at h
  rw [Pk.decL_back hl.pack] at h
  cases h
theorem NoLet.of {s : ByteArray} {ns : List Int} {ts : List ByteArray} (h : Pk.decL s.data.toList = .ok (ns, ts)) (hn : ∀ l, LetOk l → ns = numsOf l → ts = textsOf l → s.data.toList = letL l → False) : NoLet s := fun l hl hs => by
  obtain ⟨e1, e2⟩ := says_nums h hl hs
  exact hn l hl e1 e2 hs
end Lt
end Go.Proofs.YtbkanoblcojdfaaGreat

namespace Go.Proofs.YtbkanoblcojdfaaGreat
namespace Lt
open Go.RowKit Bk
theorem NoLet.bad {s : ByteArray} {ns : List Int} {ts : List ByteArray} (h : Pk.decL s.data.toList = .ok (ns, ts)) (hn : ¬ LetOk (cand ns ts)) : NoLet s := NoLet.of h fun l hl e1 e2 _ => hn (by rw [e1, e2, cand_of]; exact hl)
end Lt
end Go.Proofs.YtbkanoblcojdfaaGreat

namespace Go.Proofs.YtbkanoblcojdfaaGreat
namespace Rc
open Lt
structure Rec where
  kind : Int
  txn : Int
  ts : Int
  coord : Int
  key : ByteArray
  text : ByteArray
  dead : Bool
  keys : List ByteArray
  ws : List Wr
def flag (b : Bool) : Int := if b then 1 else 0
def headOk (r : Rec) : Prop := (r.txn = 0 ∨ txnOk r.txn) ∧ stampOk r.ts ∧ 0 ≤ r.coord ∧ r.coord < 16
def ListsOk (r : Rec) : Prop := r.keys = [] ∧ r.ws = []
def TextOk (r : Rec) : Prop := r.key = ⟨#[]⟩ ∧ r.text = ⟨#[]⟩ ∧ r.dead = false
def BareOk (r : Rec) : Prop := ListsOk r ∧ TextOk r ∧ r.coord = 0
def kindOk (r : Rec) : Prop :=
  (r.kind = 1 ∧ TextOk r ∧ r.txn ≠ 0 ∧ r.keys.length ≤ 16 ∧ Rises r.keys ∧ WritesOk r.ws) ∨
  (r.kind = 2 ∧ BareOk r ∧ r.txn ≠ 0) ∨
  (r.kind = 3 ∧ ListsOk r ∧ r.coord = 0 ∧ r.txn = 0 ∧ r.ts ≠ 0 ∧ keyOk r.key ∧ r.text.size ≤ 2052 ∧ (r.dead = false ∨ r.text = ⟨#[]⟩)) ∨
  (r.kind = 4 ∧ BareOk r ∧ r.txn = 0) ∨
  (r.kind = 5 ∧ BareOk r ∧ r.txn ≠ 0 ∧ r.ts ≠ 0) ∨
  (r.kind = 6 ∧ BareOk r ∧ r.txn ≠ 0 ∧ r.ts = 0) ∨
  (r.kind = 7 ∧ BareOk r ∧ r.txn = 0 ∧ r.ts ≠ 0)
def RecOk (r : Rec) : Prop := headOk r ∧ kindOk r
def numsOf (r : Rec) : List Int := [r.kind, r.txn, r.ts, r.coord, flag r.dead, (r.keys.length : Int)] ++ r.ws.map fun x => if x.dead then 1 else 0
def textsOf (r : Rec) : List ByteArray := r.key :: r.text :: (r.keys ++ r.ws.flatMap fun x => [x.key, x.shard])
def recL (r : Rec) : List UInt8 := Pk.bytesL (numsOf r) (textsOf r)
theorem rises_keys {m : List ByteArray} (hm : Rises m) : ∀ k ∈ m, keyOk k := fun k hk => by
  obtain ⟨i, hi, e⟩ := List.mem_iff_getElem.1 hk
  rw [← e]; exact (hm i hi).1
theorem RecOk.bounds {r : Rec} (h : RecOk r) : r.keys.length ≤ 16 ∧ r.ws.length ≤ 16 ∧ r.key.size ≤ 32 ∧ r.text.size ≤ 2052 ∧ (∀ k ∈ r.keys, keyOk k) ∧ (∀ x ∈ r.ws, keyOk x.key ∧ x.shard.size ≤ 2052) ∧ 1 ≤ r.kind ∧ r.kind ≤ 7 := by
  obtain ⟨_, h⟩ := h
  have e0 : (⟨#[]⟩ : ByteArray).size = 0 := rfl
  have bare : BareOk r → r.keys.length ≤ 16 ∧ r.ws.length ≤ 16 ∧ r.key.size ≤ 32 ∧ r.text.size ≤ 2052 ∧ (∀ k ∈ r.keys, keyOk k) ∧ (∀ x ∈ r.ws, keyOk x.key ∧ x.shard.size ≤ 2052) := by
    rintro ⟨⟨h1, h2⟩, ⟨h3, h4, _⟩, _⟩
    rw [h1, h2, h3, h4]
    exact ⟨by simp, by simp, by rw [e0]; omega, by rw [e0]; omega, by simp, by simp⟩
  rcases h with ⟨h1, ⟨h2, h3, _⟩, _, h4, h5, h6, h7, h8⟩ | ⟨h1, h2, _⟩ | ⟨h1, ⟨h2, h3⟩, _, _, _, h4, h5, _⟩ | ⟨h1, h2, _⟩ | ⟨h1, h2, _⟩ | ⟨h1, h2, _⟩ | ⟨h1, h2, _⟩
  · rw [h2, h3]
    exact ⟨h4, h6, by rw [e0]; omega, by rw [e0]; omega, rises_keys h5, fun x hx => ⟨rises_keys h8 _ (List.mem_map.2 ⟨x, hx, rfl⟩), (h7 x hx).1⟩, by omega, by omega⟩
  · obtain ⟨a, b, c, d, e, f⟩ := bare h2; exact ⟨a, b, c, d, e, f, by omega, by omega⟩
  · rw [h2, h3]
    exact ⟨by simp, by simp, h4.2, h5, by simp, by simp, by omega, by omega⟩
  all_goals obtain ⟨a, b, c, d, e, f⟩ := bare h2; exact ⟨a, b, c, d, e, f, by omega, by omega⟩
theorem RecOk.pack {r : Rec} (h : RecOk r) : Pk.MayBe (numsOf r) (textsOf r) := by
  obtain ⟨b1, b2, b3, b4, b5, b6, b7, b8⟩ := h.bounds
  obtain ⟨⟨h1, h2, h3, h4⟩, _⟩ := h
  have hfl : ∀ b, Pk.numOk (flag b) := fun b => by cases b <;> (unfold flag Pk.numOk; simp)
  refine ⟨?_, ?_, fun n hn => ?_, fun t ht => ?_⟩
  · unfold numsOf
    rw [List.length_append, List.length_map]
    show 6 + _ ≤ _
    omega
  · unfold textsOf
    rw [List.length_cons, List.length_cons, List.length_append, flat_len]
    omega
  · unfold numsOf at hn
    rcases List.mem_append.1 hn with hn | hn
    · simp only [List.mem_cons, List.not_mem_nil, or_false] at hn
      unfold txnOk at h1
      unfold stampOk at h2
      rcases hn with rfl | rfl | rfl | rfl | rfl | rfl
      all_goals first | exact hfl _ | (unfold Pk.numOk; omega)
    · obtain ⟨x, _, rfl⟩ := List.mem_map.1 hn
      unfold Pk.numOk
      split <;> omega
  · unfold textsOf at ht
    rcases List.mem_cons.1 ht with rfl | ht
    · omega
    rcases List.mem_cons.1 ht with rfl | ht
    · omega
    rcases List.mem_append.1 ht with ht | ht
    · have := b5 t ht; unfold keyOk at this; omega
    · obtain ⟨x, hx, hx2⟩ := List.mem_flatMap.1 ht
      have := b6 x hx
      unfold keyOk at this
      simp only [List.mem_cons, List.not_mem_nil, or_false] at hx2
      rcases hx2 with rfl | rfl <;> omega
def manyOf (ns : List Int) : Nat := (ns.getD 5 0).toNat
def cand (ns : List Int) (ts : List ByteArray) : Rec :=
  ⟨ns.getD 0 0, ns.getD 1 0, ns.getD 2 0, ns.getD 3 0, ts.getD 0 ⟨#[]⟩, ts.getD 1 ⟨#[]⟩, ns.getD 4 0 == 1, (ts.drop 2).take (manyOf ns), pairL (ns.drop 6) (ts.drop (2 + manyOf ns))⟩
theorem flag_one (b : Bool) : (flag b == 1) = b := by cases b <;> rfl
theorem cand_of (r : Rec) : cand (numsOf r) (textsOf r) = r := by
  obtain ⟨kd, tn, ts, co, ky, tt, dd, ks, ws⟩ := r
  have hm : manyOf (numsOf ⟨kd, tn, ts, co, ky, tt, dd, ks, ws⟩) = ks.length := by simp [manyOf, numsOf]
  unfold cand
  rw [hm]
  have e1 : (textsOf ⟨kd, tn, ts, co, ky, tt, dd, ks, ws⟩).drop 2 = ks ++ ws.flatMap fun x => [x.key, x.shard] := rfl
  have e2 : (textsOf ⟨kd, tn, ts, co, ky, tt, dd, ks, ws⟩).drop (2 + ks.length) = ws.flatMap fun x => [x.key, x.shard] := by
    rw [← List.drop_drop, e1, List.drop_left]
  have e3 : (numsOf ⟨kd, tn, ts, co, ky, tt, dd, ks, ws⟩).drop 6 = ws.map fun x => if x.dead then 1 else 0 := rfl
  have e4 : ((numsOf ⟨kd, tn, ts, co, ky, tt, dd, ks, ws⟩).getD 4 0 == 1) = dd := flag_one dd
  rw [e1, e2, e3, e4, List.take_left, pairL_of]
  rfl
theorem says_nums {s : List UInt8} {ns : List Int} {ts : List ByteArray} {r : Rec} (h : Pk.decL s = .ok (ns, ts)) (hr : RecOk r) (hs : s = recL r) : ns = numsOf r ∧ ts = textsOf r := by
  rw [hs] at h
  unfold recL at h
  rw [Pk.decL_back hr.pack] at h
  simp only [Except.ok.injEq, Prod.mk.injEq] at h
  exact ⟨h.1.symm, h.2.symm⟩
def noRec : Rec := ⟨0, 0, 0, 0, ⟨#[]⟩, ⟨#[]⟩, false, [], []⟩
def NoRec (s : ByteArray) : Prop := ∀ r, RecOk r → s.data.toList ≠ recL r
theorem NoRec.err {s : ByteArray} {e : Pk.Er} (h : Pk.decL s.data.toList = .error e) : NoRec s := fun r hr hs => by
  rw [hs] at h
  unfold recL at h
  rw [Pk.decL_back hr.pack] at h
  cases h
theorem NoRec.of {s : ByteArray} {ns : List Int} {ts : List ByteArray} (h : Pk.decL s.data.toList = .ok (ns, ts)) (hn : ∀ r, RecOk r → ns = numsOf r → ts = textsOf r → s.data.toList = recL r → False) : NoRec s := fun r hr hs => by
  obtain ⟨e1, e2⟩ := says_nums h hr hs
  exact hn r hr e1 e2 hs
theorem NoRec.bad {s : ByteArray} {ns : List Int} {ts : List ByteArray} (h : Pk.decL s.data.toList = .ok (ns, ts)) (hn : ¬ RecOk (cand ns ts)) : NoRec s := NoRec.of h fun r hr e1 e2 _ => hn (by rw [e1, e2, cand_of]; exact hr)
end Rc
end Go.Proofs.YtbkanoblcojdfaaGreat

namespace Go.Proofs.YtbkanoblcojdfaaGreat
namespace Rc
open Go.ChangeShapes Go.WideShapes Go.ChangeAt Go.RowKit Go.Joins Go.Deep Bk Lt
section
variable {H : Type} {enc : TypeId × Value → H} {W : World}
structure RecRng (r : Rec) : Prop where
  kind : -9223372036854775808 ≤ r.kind ∧ r.kind ≤ 9223372036854775807
  txn : -9223372036854775808 ≤ r.txn ∧ r.txn ≤ 9223372036854775807
  ts : -9223372036854775808 ≤ r.ts ∧ r.ts ≤ 9223372036854775807
  coord : -9223372036854775808 ≤ r.coord ∧ r.coord ≤ 9223372036854775807
  key : r.key.size ≤ reachBytes
  text : r.text.size ≤ reachBytes
  k16 : r.keys.length * 16 ≤ reachBytes
  w40 : r.ws.length * 40 ≤ reachBytes
  kr : ∀ s ∈ r.keys, s.size ≤ reachBytes
  wr : ∀ x ∈ r.ws, x.key.size ≤ reachBytes ∧ x.shard.size ≤ reachBytes
structure RecRange (r : Rec) (c d : Nat) : Prop extends RecRng r where
  kc : r.keys.length ≤ c
  wd : r.ws.length ≤ d
  c63 : c ≤ maxLen
  d63 : d ≤ maxLen
def recV (r : Rec) (A B : Option Addr) (c d : Nat) : Value := .agg #[.int .i64 r.kind, .int .i64 r.txn, .int .i64 r.ts, .int .i64 r.coord, .string r.key, .string r.text, .bool r.dead, .slice A r.keys.length c, .slice B r.ws.length d]
end
end Rc
end Go.Proofs.YtbkanoblcojdfaaGreat

namespace Go.Proofs.YtbkanoblcojdfaaGreat
namespace Lt
open Go.RowKit Bk
attribute [local go_sem ↓] Go.wp_at_zero Go.wp_at_succ
attribute [local go_sem] floatUpon pick
theorem add_add (a : Addr) (k i : Nat) : (a.add k).add i = a.add (k + i) := by
  unfold Addr.add
  by_cases hk : k = 0
  · subst hk; simp
  · by_cases hi : i = 0
    · subst hi; simp [hk]
    · simp [hk, hi, Nat.add_assoc]
def set9 (W : World) (R : Nat) (v0 v1 v2 v3 v4 v5 v6 v7 v8 : Value) : World :=
  (((((((((W.setCell ⟨R, 0, none⟩ v0).setCell ⟨R, 1, none⟩ v1).setCell ⟨R, 2, none⟩ v2).setCell ⟨R, 3, none⟩ v3).setCell ⟨R, 4, none⟩ v4).setCell ⟨R, 5, none⟩ v5).setCell ⟨R, 6, none⟩ v6).setCell ⟨R, 7, none⟩ v7).setCell ⟨R, 8, none⟩ v8)
theorem set9_cel {W : World} {R : Nat} {t : TypeId} {u0 u1 u2 u3 u4 u5 u6 u7 u8 v0 v1 v2 v3 v4 v5 v6 v7 v8 : Value} (h : Cel W R t [u0, u1, u2, u3, u4, u5, u6, u7, u8]) : Cel (set9 W R v0 v1 v2 v3 v4 v5 v6 v7 v8) R t [v0, v1, v2, v3, v4, v5, v6, v7, v8] :=
  ((((((((h.set (i := 0) (v := v0)).set (i := 1) (v := v1)).set (i := 2) (v := v2)).set (i := 3) (v := v3)).set (i := 4) (v := v4)).set (i := 5) (v := v5)).set (i := 6) (v := v6)).set (i := 7) (v := v7)).set (i := 8) (v := v8)
theorem set9_below {w W : World} {H R : Nat} {v0 v1 v2 v3 v4 v5 v6 v7 v8 : Value} (h : Below H w W) (hR : H ≤ R) : Below H w (set9 W R v0 v1 v2 v3 v4 v5 v6 v7 v8) :=
  ((((((((h.setCell (p := ⟨R, 0, none⟩) hR v0).setCell (p := ⟨R, 1, none⟩) hR v1).setCell (p := ⟨R, 2, none⟩) hR v2).setCell (p := ⟨R, 3, none⟩) hR v3).setCell (p := ⟨R, 4, none⟩) hR v4).setCell (p := ⟨R, 5, none⟩) hR v5).setCell (p := ⟨R, 6, none⟩) hR v6).setCell (p := ⟨R, 7, none⟩) hR v7).setCell (p := ⟨R, 8, none⟩) hR v8
theorem set9_size {W : World} {R : Nat} {v0 v1 v2 v3 v4 v5 v6 v7 v8 : Value} : (set9 W R v0 v1 v2 v3 v4 v5 v6 v7 v8).heap.size = W.heap.size := by
  unfold set9; simp
def SW (X n : Nat) (L : List Wr) (A : Option Addr) (c : Nat) (W : World) : Prop := WrsAt W A L ∧ n ≤ c ∧ c ≤ maxLen ∧ (A = none → c = 0) ∧ ∀ a, A = some a → X ≤ a.block
theorem SW.keep {X n : Nat} {L : List Wr} {A : Option Addr} {c : Nat} {W W' : World} (h : SW X n L A c W) (hb : Below W.heap.size W W') : SW X n L A c W' := ⟨h.1.below hb, h.2⟩
def S85 (X n : Nat) (L : List Wr) (v : Value) (W : World) : Prop := ∃ A c, v = .tuple #[.slice A n c, .bool true] ∧ SW X n L A c W
def S86 (X n : Nat) (L : List Wr) (v : Value) (W : World) : Prop := ∃ A c, v = .slice A n c ∧ SW X n L A c W
theorem S85.keep {X n : Nat} {L : List Wr} {v : Value} {W W' : World} (h : S85 X n L v W) (hb : Below W.heap.size W W') : S85 X n L v W' := by
  obtain ⟨A, c, e, h⟩ := h; exact ⟨A, c, e, h.keep hb⟩
theorem S86.keep {X n : Nat} {L : List Wr} {v : Value} {W W' : World} (h : S86 X n L v W) (hb : Below W.heap.size W W') : S86 X n L v W' := by
  obtain ⟨A, c, e, h⟩ := h; exact ⟨A, c, e, h.keep hb⟩
end Lt
end Go.Proofs.YtbkanoblcojdfaaGreat

namespace Go.Proofs.YtbkanoblcojdfaaGreat
namespace Rc
open Go.RowKit Bk Lt
structure RcEnv (w W : World) (g : Nat) (A B : Option Addr) (c d : Nat) (r : Rec) : Prop where
  ks : StrsAt W A r.keys
  ws : WrsAt W B r.ws
  cel : Cel W g 37 [.int .i64 r.kind, .int .i64 r.txn, .int .i64 r.ts, .int .i64 r.coord, .string r.key, .string r.text, .bool r.dead, .slice A r.keys.length c, .slice B r.ws.length d]
  bel : Below w.heap.size w W
theorem RcEnv.step {w W W' : World} {g : Nat} {A B : Option Addr} {c d : Nat} {r : Rec} (h : RcEnv w W g A B c d r) (hb : Below W.heap.size W W') : RcEnv w W' g A B c d r :=
  ⟨h.ks.below hb, h.ws.below hb, h.cel.below hb, h.bel.trans (hb.mono h.bel.size)⟩
theorem RcEnv.start {w : World} {A B : Option Addr} {c d : Nat} {r : Rec} (ha : StrsAt w A r.keys) (hb : WrsAt w B r.ws) :
    RcEnv w (w.alloc (.cells #[.int .i64 r.kind, .int .i64 r.txn, .int .i64 r.ts, .int .i64 r.coord, .string r.key, .string r.text, .bool r.dead, .slice A r.keys.length c, .slice B r.ws.length d] 37)) w.heap.size A B c d r :=
  ⟨ha.alloc _, hb.alloc _, (blk1 w _).2, (Below.refl _ w).alloc (Nat.le_refl _) _⟩
open Classical in
noncomputable def ckN (r : Rec) : Nat := if RecOk r then 0 else 80
theorem ckN_of {r : Rec} (h : RecOk r) : ckN r = 0 := by unfold ckN; rw [if_pos h]
theorem ckN_not {r : Rec} (h : ¬ RecOk r) : ckN r = 80 := by unfold ckN; rw [if_neg h]
theorem ckN_ok {r : Rec} (h : headOk r) (h2 : kindOk r) : ckN r = 0 := ckN_of ⟨h, h2⟩
theorem ckN_bad {r : Rec} (h : ¬ kindOk r) : ckN r = 80 := ckN_not (fun hh => h hh.2)
theorem ckN_head {r : Rec} (h : ¬ headOk r) : ckN r = 80 := ckN_not (fun hh => h hh.1)
theorem kind_1 {r : Rec} (h : r.kind = 1) : kindOk r ↔ TextOk r ∧ r.txn ≠ 0 ∧ r.keys.length ≤ 16 ∧ Rises r.keys ∧ WritesOk r.ws := by
  constructor
  · rintro (h2 | h2 | h2 | h2 | h2 | h2 | h2)
    · exact h2.2
    all_goals omega
  · intro h2; exact .inl ⟨h, h2⟩
theorem kind_2 {r : Rec} (h : r.kind = 2) : kindOk r ↔ BareOk r ∧ r.txn ≠ 0 := by
  constructor
  · rintro (h2 | h2 | h2 | h2 | h2 | h2 | h2)
    · omega
    · exact h2.2
    all_goals omega
  · intro h2; exact .inr (.inl ⟨h, h2⟩)
theorem kind_3 {r : Rec} (h : r.kind = 3) : kindOk r ↔ ListsOk r ∧ r.coord = 0 ∧ r.txn = 0 ∧ r.ts ≠ 0 ∧ keyOk r.key ∧ r.text.size ≤ 2052 ∧ (r.dead = false ∨ r.text = ⟨#[]⟩) := by
  constructor
  · rintro (h2 | h2 | h2 | h2 | h2 | h2 | h2)
    · omega
    · omega
    · exact h2.2
    all_goals omega
  · intro h2; exact .inr (.inr (.inl ⟨h, h2⟩))
theorem kind_4 {r : Rec} (h : r.kind = 4) : kindOk r ↔ BareOk r ∧ r.txn = 0 := by
  constructor
  · rintro (h2 | h2 | h2 | h2 | h2 | h2 | h2)
    · omega
    · omega
    · omega
    · exact h2.2
    all_goals omega
  · intro h2; exact .inr (.inr (.inr (.inl ⟨h, h2⟩)))
theorem kind_5 {r : Rec} (h : r.kind = 5) : kindOk r ↔ BareOk r ∧ r.txn ≠ 0 ∧ r.ts ≠ 0 := by
  constructor
  · rintro (h2 | h2 | h2 | h2 | h2 | h2 | h2)
    · omega
    · omega
    · omega
    · omega
    · exact h2.2
    all_goals omega
  · intro h2; exact .inr (.inr (.inr (.inr (.inl ⟨h, h2⟩))))
theorem kind_6 {r : Rec} (h : r.kind = 6) : kindOk r ↔ BareOk r ∧ r.txn ≠ 0 ∧ r.ts = 0 := by
  constructor
  · rintro (h2 | h2 | h2 | h2 | h2 | h2 | h2)
    · omega
    · omega
    · omega
    · omega
    · omega
    · exact h2.2
    · omega
  · intro h2; exact .inr (.inr (.inr (.inr (.inr (.inl ⟨h, h2⟩)))))
theorem kind_7 {r : Rec} (h : r.kind = 7) : kindOk r ↔ BareOk r ∧ r.txn = 0 ∧ r.ts ≠ 0 := by
  constructor
  · rintro (h2 | h2 | h2 | h2 | h2 | h2 | h2)
    · omega
    · omega
    · omega
    · omega
    · omega
    · omega
    · exact h2.2
  · intro h2; exact .inr (.inr (.inr (.inr (.inr (.inr ⟨h, h2⟩)))))
theorem kind_no {r : Rec} (h : r.kind < 1 ∨ 7 < r.kind) : ¬ kindOk r := by
  rintro (h2 | h2 | h2 | h2 | h2 | h2 | h2) <;> omega
structure RecVal (w : World) (A B : Option Addr) (c d : Nat) (r : Rec) : Prop where
  ks : StrsAt w A r.keys
  ws : WrsAt w B r.ws
  rng : RecRange r c d
  kn : A = none → r.keys = [] ∧ c = 0
  wn : B = none → r.ws = [] ∧ d = 0
theorem RecVal.below {w W : World} {A B : Option Addr} {c d : Nat} {r : Rec} (h : RecVal w A B c d r) (hb : Below w.heap.size w W) : RecVal W A B c d r :=
  ⟨h.ks.below hb, h.ws.below hb, h.rng, h.kn, h.wn⟩
theorem RecOk.rng {r : Rec} (h : RecOk r) : RecRng r := by
  obtain ⟨b1, b2, b3, b4, b5, b6, b7, b8⟩ := h.bounds
  obtain ⟨⟨h1, h2, h3, h4⟩, _⟩ := h
  have rb : reachBytes = 140737488351232 := by unfold reachBytes; rfl
  unfold txnOk at h1
  unfold stampOk at h2
  exact ⟨by omega, by omega, by omega, by omega, by omega, by omega, by omega, by omega, fun k hk => by have := b5 k hk; unfold keyOk at this; omega, fun x hx => by have := b6 x hx; unfold keyOk at this; omega⟩
end Rc
end Go.Proofs.YtbkanoblcojdfaaGreat
