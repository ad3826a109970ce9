/- Parts of the proof, joined: ShRep; their conditions stand with each. -/
import Derived.Test.YtiobhbagjokpcaaGreatM18

/- The document's shelf in the memory, away from some blocks; no condition. -/
namespace Go.Proofs.YtiobhbagjokpcaaGreat
namespace Sh
open Go.RowKit Bk Ch Lt Rc Tr

theorem Tryz.infoKey : (Tryz.prog.info? 113).map (fun i => (i.zero, i.size, i.bytes)) = some (some (.agg #[.string ⟨#[]⟩, .slice none 0 0]), 2, 40) := by kernel_rfl

theorem Tryz.infoEnd : (Tryz.prog.info? 115).map (fun i => (i.zero, i.size, i.bytes)) = some (some (.agg #[.int .i64 0, .int .i64 0]), 2, 16) := by kernel_rfl

/-- a key, and where its chain lies -/
structure KI where
  k : Kc
  A : Option Addr
  c : Nat

instance : Inhabited KI := ⟨⟨⟨⟨#[]⟩, []⟩, none, 0⟩⟩

def kcs (x : KI) : List Value := [.string x.k.name, .slice x.A x.k.l.length x.c]
def ecs (x : Int × Int) : List Value := [.int .i64 x.1, .int .i64 x.2]

theorem kcs_len (x : KI) : (kcs x).length = 2 := rfl
theorem ecs_len (x : Int × Int) : (ecs x).length = 2 := rfl
theorem rcs_len (x : RI) : (rcs x).length = 9 := rfl
theorem vcs_len (x : Vr) : (vcs x).length = 3 := rfl

/-- a chain that lies away -/
structure KVal (W : World) (F : Nat → Prop) (x : KI) : Prop where
  row : RowF W F x.A (vrV x.k.l)
  nil : x.A = none → x.k.l.length = 0 ∧ x.c = 0
  le : x.k.l.length ≤ x.c
  cap : x.c ≤ maxLen

theorem RowF.vrs {W : World} {F : Nat → Prop} {A : Option Addr} {l : List Vr} (h : RowF W F A (vrV l)) : VrsAt W A l := fun hp => by
  obtain ⟨ad, e, h1, _, h3⟩ := h (by rw [vrV_len]; omega)
  refine ⟨ad, e, h1, fun i hi => ?_⟩
  obtain ⟨x0, x1, x2⟩ := vrV_at l i hi
  exact ⟨h3 _ _ x0, h3 _ _ x1, h3 _ _ x2⟩

theorem KVal.away {W W' : World} {F : Nat → Prop} {x : KI} (h : KVal W F x) (k : Away F W W') : KVal W' F x := ⟨h.row.away k, h.nil, h.le, h.cap⟩
theorem KVal.turn {W : World} {F F' : Nat → Prop} {x : KI} (h : KVal W F x) (hF : ∀ k, F' k → F k ∨ W.heap.size ≤ k) : KVal W F' x := ⟨h.row.turn hF, h.nil, h.le, h.cap⟩

/-- a record whose lists lie away -/
structure PVal (W : World) (F : Nat → Prop) (x : RI) : Prop where
  val : RecVal W x.A x.B x.c x.d x.l
  ka : 0 < x.l.keys.length → ∀ ad, x.A = some ad → ¬ F ad.block
  wa : 0 < x.l.ws.length → ∀ ad, x.B = some ad → ¬ F ad.block

theorem strs_away {W W' : World} {F : Nat → Prop} {A : Option Addr} {l : List ByteArray} (h : StrsAt W A l) (ha : 0 < l.length → ∀ ad, A = some ad → ¬ F ad.block) (k : Away F W W') : StrsAt W' A l := fun hp => by
  obtain ⟨ad, e, h1, h2⟩ := h hp
  have hn := ha hp ad e
  exact ⟨ad, e, Nat.lt_of_lt_of_le h1 k.size, fun i hi => (k.cell _ (by rw [st_block]; exact h1) (by rw [st_block]; exact hn)).trans (h2 i hi)⟩

theorem wrs_away {W W' : World} {F : Nat → Prop} {A : Option Addr} {l : List Wr} (h : WrsAt W A l) (ha : 0 < l.length → ∀ ad, A = some ad → ¬ F ad.block) (k : Away F W W') : WrsAt W' A l := fun hp => by
  obtain ⟨ad, e, h1, h2⟩ := h hp
  have hn := ha hp ad e
  exact ⟨ad, e, Nat.lt_of_lt_of_le h1 k.size, fun i hi => ⟨(k.cell _ (by rw [st_block]; exact h1) (by rw [st_block]; exact hn)).trans (h2 i hi).1, (k.cell _ (by rw [st_block]; exact h1) (by rw [st_block]; exact hn)).trans (h2 i hi).2.1, (k.cell _ (by rw [st_block]; exact h1) (by rw [st_block]; exact hn)).trans (h2 i hi).2.2⟩⟩

theorem PVal.away {W W' : World} {F : Nat → Prop} {x : RI} (h : PVal W F x) (k : Away F W W') : PVal W' F x :=
  ⟨⟨strs_away h.val.ks h.ka k, wrs_away h.val.ws h.wa k, h.val.rng, h.val.kn, h.val.wn⟩, h.ka, h.wa⟩

theorem PVal.turn {W : World} {F F' : Nat → Prop} {x : RI} (h : PVal W F x) (hF : ∀ k, F' k → F k ∨ W.heap.size ≤ k) : PVal W F' x :=
  ⟨h.val, fun hp ad e hf => by
    obtain ⟨a', e', h1, _⟩ := h.val.ks hp
    obtain rfl := Option.some.inj (e.symm.trans e')
    exact (hF _ hf).elim (h.ka hp ad e) (fun h => by omega), fun hp ad e hf => by
    obtain ⟨a', e', h1, _⟩ := h.val.ws hp
    obtain rfl := Option.some.inj (e.symm.trans e')
    exact (hF _ hf).elim (h.wa hp ad e) (fun h => by omega)⟩

/-- the blocks that the shelf's rows are away from: F, and its own struct -/
def G (F : Nat → Prop) (g : Nat) : Nat → Prop := fun k => F k ∨ k = g

/-- the document's shelf: a struct of three rows and a number -/
structure RAt (W : World) (F : Nat → Prop) (g : Nat) (A B C : Option Addr) (a b c : Nat) (K : List KI) (P : List RI) (s : Shf) : Prop where
  cel : Cel W g 33 [.slice A K.length a, .slice B P.length b, .slice C s.e.length c, .int .i64 s.over]
  rk : RowF W (G F g) A (K.flatMap kcs)
  rp : RowF W (G F g) B (P.flatMap rcs)
  re : RowF W (G F g) C (s.e.flatMap ecs)
  kv : ∀ x ∈ K, KVal W (G F g) x
  pv : ∀ x ∈ P, PVal W (G F g) x
  ek : K.map (·.k) = s.k
  ep : P.map (·.l) = s.p
  an : A = none → K.length = 0 ∧ a = 0
  bn : B = none → P.length = 0 ∧ b = 0
  cn : C = none → s.e.length = 0 ∧ c = 0
  al : K.length ≤ a ∧ a ≤ maxLen
  bl : P.length ≤ b ∧ b ≤ maxLen
  cl : s.e.length ≤ c ∧ c ≤ maxLen
  ng : ¬ F g

def RRep (W : World) (F : Nat → Prop) (g : Nat) (s : Shf) : Prop := ∃ A B C a b c K P, RAt W F g A B C a b c K P s

theorem away_more {F : Nat → Prop} {w w' : World} (h : Away F w w') (g : Nat) : Away (G F g) w w' := ⟨h.size, fun k hk hn => h.block k hk (fun hf => hn (.inl hf))⟩

theorem away_set {F : Nat → Prop} (w : World) (g i : Nat) (v : Value) : Away (G F g) w (w.setCell ⟨g, i, none⟩ v) := ⟨by simp [World.setCell], fun k _ hn => Below.heap_setCell w ⟨g, i, none⟩ v k (fun e => hn (.inr e))⟩

section
variable {W W' : World} {F F' : Nat → Prop} {g : Nat} {A B C : Option Addr} {a b c : Nat} {K : List KI} {P : List RI} {s : Shf}

theorem RAt.away (h : RAt W F g A B C a b c K P s) (k : Away F W W') : RAt W' F g A B C a b c K P s :=
  have kg := away_more k g
  ⟨(k.block g h.cel.lt h.ng).trans h.cel, h.rk.away kg, h.rp.away kg, h.re.away kg, fun x hx => (h.kv x hx).away kg, fun x hx => (h.pv x hx).away kg, h.ek, h.ep, h.an, h.bn, h.cn, h.al, h.bl, h.cl, h.ng⟩

theorem RAt.below (h : RAt W F g A B C a b c K P s) (k : Below W.heap.size W W') : RAt W' F g A B C a b c K P s := h.away (Away.of k)

theorem RAt.turn (h : RAt W F g A B C a b c K P s) (hF : ∀ k, F' k → F k ∨ W.heap.size ≤ k) : RAt W F' g A B C a b c K P s :=
  have hG : ∀ k, G F' g k → G F g k ∨ W.heap.size ≤ k := fun k hk => hk.elim (fun h => (hF k h).elim (fun h => .inl (.inl h)) .inr) (fun h => .inl (.inr h))
  ⟨h.cel, h.rk.turn hG, h.rp.turn hG, h.re.turn hG, fun x hx => (h.kv x hx).turn hG, fun x hx => (h.pv x hx).turn hG, h.ek, h.ep, h.an, h.bn, h.cn, h.al, h.bl, h.cl, fun hf => (hF g hf).elim h.ng (fun h2 => by have := h.cel.lt; omega)⟩

theorem RRep.away (h : RRep W F g s) (k : Away F W W') : RRep W' F g s := by
  obtain ⟨A, B, C, a, b, c, K, P, h⟩ := h
  exact ⟨A, B, C, a, b, c, K, P, h.away k⟩
theorem RRep.below (h : RRep W F g s) (k : Below W.heap.size W W') : RRep W' F g s := h.away (Away.of k)
theorem RRep.turn (h : RRep W F g s) (hF : ∀ k, F' k → F k ∨ W.heap.size ≤ k) : RRep W F' g s := by
  obtain ⟨A, B, C, a, b, c, K, P, h⟩ := h
  exact ⟨A, B, C, a, b, c, K, P, h.turn hF⟩
theorem RRep.lt (h : RRep W F g s) : g < W.heap.size := by
  obtain ⟨A, B, C, a, b, c, K, P, h⟩ := h
  exact h.cel.lt

theorem RAt.klen (h : RAt W F g A B C a b c K P s) : K.length = s.k.length := by rw [← h.ek, List.length_map]
theorem RAt.plen (h : RAt W F g A B C a b c K P s) : P.length = s.p.length := by rw [← h.ep, List.length_map]

/-- what is read of one key -/
theorem RAt.key (h : RAt W F g A B C a b c K P s) {i : Nat} (hi : i < K.length) : ∃ ad, A = some ad ∧ W.cell? (ad.add (i * 2)) = some (.string K[i].k.name) ∧ W.cell? ⟨(ad.add (i * 2)).block, (ad.add (i * 2)).off + 1, none⟩ = some (.slice K[i].A K[i].k.l.length K[i].c) := by
  obtain ⟨ad, e, _, _, h3⟩ := h.rk.at kcs_len (by omega) hi
  refine ⟨ad, e, h3 0 _ rfl, ?_⟩
  rw [Ch.add_field _ _ _ (by omega)]
  exact h3 1 _ rfl

/-- what is read of one that ended -/
theorem RAt.end (h : RAt W F g A B C a b c K P s) {i : Nat} (hi : i < s.e.length) : ∃ ad, C = some ad ∧ W.cell? (ad.add (i * 2)) = some (.int .i64 s.e[i].1) ∧ W.cell? ⟨(ad.add (i * 2)).block, (ad.add (i * 2)).off + 1, none⟩ = some (.int .i64 s.e[i].2) := by
  obtain ⟨ad, e, _, _, h3⟩ := h.re.at ecs_len (by omega) hi
  refine ⟨ad, e, h3 0 _ rfl, ?_⟩
  rw [Ch.add_field _ _ _ (by omega)]
  exact h3 1 _ rfl

/-- what is read of one that is prepared -/
theorem RAt.one (h : RAt W F g A B C a b c K P s) {i : Nat} (hi : i < P.length) : ∃ ad, B = some ad ∧ ad.block < W.heap.size ∧ ∀ j v, (rcs P[i])[j]? = some v → W.cell? (ad.add (i * 9 + j)) = some v := by
  obtain ⟨ad, e, h1, _, h3⟩ := h.rp.at rcs_len (by omega) hi
  exact ⟨ad, e, h1, h3⟩

end

def prepR (s : Shf) (txn : Int) : Rec × Bool := match prepOf s.p txn with | none => (noRec, false) | some r => (r, true)

theorem Tryz.infoI : (Tryz.prog.info? 3).map (fun i => (i.zero, i.size, i.bytes)) = some (some (.int .i64 0), 1, 8) := by kernel_rfl

/-- the value is this record, its lists away -/
def RecF (W : World) (F : Nat → Prop) (r : Rec) (v : Value) : Prop := ∃ x : RI, x.l = r ∧ v = .agg (rcs x).toArray ∧ PVal W F x

theorem no_pval (W : World) (F : Nat → Prop) : PVal W F ⟨noRec, none, none, 0, 0⟩ := by
  refine ⟨⟨fun h => absurd h (by simp [noRec]), fun h => absurd h (by simp [noRec]), ⟨⟨?_, ?_, ?_, ?_, ?_, ?_, ?_, ?_, ?_, ?_⟩, ?_, ?_, ?_, ?_⟩, fun _ => ⟨rfl, rfl⟩, fun _ => ⟨rfl, rfl⟩⟩, fun h => absurd h (by simp [noRec]), fun h => absurd h (by simp [noRec])⟩
  all_goals first | (simp [noRec]; done) | (simp [noRec, reachBytes]; done) | exact Nat.zero_le _

end Sh
end Go.Proofs.YtiobhbagjokpcaaGreat
