/- What a walk over Decode of packs keeps; the decoding, carried on; no condition. -/
import Derived.Test.YtmllaighjhpbmaaPkRead
namespace Go.Proofs.Ytmllaighjhpbmaa
namespace Pk
open Go.RowKit Bk

theorem Try.infoInt : (Try.prog.info? 3).map (fun i => (i.zero, i.size, i.bytes)) = some (some (.int .i64 0), 1, 8) := by kernel_rfl

/-- the pack that is made, in block g: its two cells, the rows that they own, what was there -/
structure DcEnv (w W : World) (g : Nat) (v1 v2 : Value) (ns : List Int) (ts : List ByteArray) : Prop where
  cel : Cel W g 48 [v1, v2]
  r0 : W.ownsRow (g + 1) 3 1 v1 ns.length (intV ns)
  r1 : W.ownsRow (g + 1) 9 1 v2 ts.length (strV ts)
  d : Unlike v1 v2
  bel : Below g w W

theorem DcEnv.lt {w W : World} {g : Nat} {v1 v2 : Value} {ns : List Int} {ts : List ByteArray} (h : DcEnv w W g v1 v2 ns ts) : g + 1 ≤ W.heap.size := h.cel.lt

theorem DcEnv.c0 {w W : World} {g : Nat} {v1 v2 : Value} {ns : List Int} {ts : List ByteArray} (h : DcEnv w W g v1 v2 ns ts) : W.cell? ⟨g, 0, none⟩ = some v1 := h.cel.cell rfl
theorem DcEnv.c1 {w W : World} {g : Nat} {v1 v2 : Value} {ns : List Int} {ts : List ByteArray} (h : DcEnv w W g v1 v2 ns ts) : W.cell? ⟨g, 1, none⟩ = some v2 := h.cel.cell rfl

theorem DcEnv.step {w W W' : World} {g : Nat} {v1 v2 : Value} {ns : List Int} {ts : List ByteArray} (h : DcEnv w W g v1 v2 ns ts) (hb : Below W.heap.size W W') : DcEnv w W' g v1 v2 ns ts :=
  ⟨h.cel.below hb, st_keep h.r0 hb, st_keep h.r1 hb, h.d, h.bel.trans (hb.mono (Nat.le_of_lt h.cel.lt))⟩

/-- a row that grew: the world in which its value is not yet stored -/
theorem DcEnv.grow1 {w W W1 : World} {g n' : Nat} {v1 v2 v' : Value} {ns : List Int} {ts : List ByteArray} {xs' : List Value} (h : DcEnv w W g v1 v2 ns ts) (ho : W1.ownsRow (g + 1) 3 1 v' n' xs') (hg : W.grownBy W1 v1.ownBlock) (hat : v'.ownBlock = v1.ownBlock ∨ v'.ownBlock = some W.heap.size) :
    Cel W1 g 48 [v1, v2] ∧ W1.ownsRow (g + 1) 3 1 v' n' xs' ∧ W1.ownsRow (g + 1) 9 1 v2 ts.length (strV ts) ∧ Unlike v' v2 ∧ Below g w W1 :=
  have hb : Below (g + 1) W W1 := (Below.refl _ W).grown hg h.lt (fun k hk => (h.r0.lt k hk).1)
  ⟨(hb.block g (Nat.lt_succ_self g)).trans h.cel, ho, h.r1.kept hg h.d.symm.ne, (h.d.symm.next (fun j hj => (h.r1.lt j hj).2) hat (Nat.le_refl _)).symm, h.bel.grown hg (Nat.le_of_lt h.cel.lt) (fun k hk => Nat.le_of_succ_le (h.r0.lt k hk).1)⟩

theorem DcEnv.grow2 {w W W1 : World} {g n' : Nat} {v1 v2 v' : Value} {ns : List Int} {ts : List ByteArray} {xs' : List Value} (h : DcEnv w W g v1 v2 ns ts) (ho : W1.ownsRow (g + 1) 9 1 v' n' xs') (hg : W.grownBy W1 v2.ownBlock) (hat : v'.ownBlock = v2.ownBlock ∨ v'.ownBlock = some W.heap.size) :
    Cel W1 g 48 [v1, v2] ∧ W1.ownsRow (g + 1) 3 1 v1 ns.length (intV ns) ∧ W1.ownsRow (g + 1) 9 1 v' n' xs' ∧ Unlike v1 v' ∧ Below g w W1 :=
  have hb : Below (g + 1) W W1 := (Below.refl _ W).grown hg h.lt (fun k hk => (h.r1.lt k hk).1)
  ⟨(hb.block g (Nat.lt_succ_self g)).trans h.cel, h.r0.kept hg h.d.ne, ho, (h.d.next (fun j hj => (h.r0.lt j hj).2) hat (Nat.le_refl _)), h.bel.grown hg (Nat.le_of_lt h.cel.lt) (fun k hk => Nat.le_of_succ_le (h.r1.lt k hk).1)⟩

/-- .. and is stored -/
theorem DcEnv.store1 {w W1 : World} {g n : Nat} {v1 v2 v' : Value} {ns : List Int} {ts : List ByteArray} (h : Cel W1 g 48 [v1, v2] ∧ W1.ownsRow (g + 1) 3 1 v' n (intV ns) ∧ W1.ownsRow (g + 1) 9 1 v2 ts.length (strV ts) ∧ Unlike v' v2 ∧ Below g w W1) (hn : n = ns.length) :
    DcEnv w (W1.setCell ⟨g, 0, none⟩ v') g v' v2 ns ts := by
  obtain ⟨h1, h2, h3, h4, h5⟩ := h
  subst hn
  exact ⟨h1.set, ownsRow_setCell_below h2 (Nat.lt_succ_self g) _, ownsRow_setCell_below h3 (Nat.lt_succ_self g) _, h4, h5.setCell (Nat.le_refl _) _⟩

theorem DcEnv.store2 {w W1 : World} {g n : Nat} {v1 v2 v' : Value} {ns : List Int} {ts : List ByteArray} (h : Cel W1 g 48 [v1, v2] ∧ W1.ownsRow (g + 1) 3 1 v1 ns.length (intV ns) ∧ W1.ownsRow (g + 1) 9 1 v' n (strV ts) ∧ Unlike v1 v' ∧ Below g w W1) (hn : n = ts.length) :
    DcEnv w (W1.setCell ⟨g, 1, none⟩ v') g v1 v' ns ts := by
  obtain ⟨h1, h2, h3, h4, h5⟩ := h
  subst hn
  exact ⟨h1.set, ownsRow_setCell_below h2 (Nat.lt_succ_self g) _, ownsRow_setCell_below h3 (Nat.lt_succ_self g) _, h4, h5.setCell (Nat.le_refl _) _⟩

theorem DcEnv.start (w : World) : DcEnv w (w.alloc (.cells #[.slice none 0 0, .slice none 0 0] 48)) w.heap.size (.slice none 0 0) (.slice none 0 0) [] [] :=
  ⟨(blk1 w _).2, World.ownsRow_nil _ _ _ _, World.ownsRow_nil _ _ _ _, (fun j h => by cases h), (Below.refl _ w).alloc (Nat.le_refl _) _⟩

/-! ### the decoding, carried on -/

def goN (O : List Int) (k : Nat) (L : List UInt8) : Except Er (List Int × List UInt8) :=
  match numsF k L with
  | .error e => .error e
  | .ok (ns, r) => .ok (O ++ ns, r)

theorem goN_start (k : Nat) (L : List UInt8) : goN [] k L = numsF k L := by
  unfold goN
  cases numsF k L with
  | error e => rfl
  | ok x => rfl

theorem goN_done (O : List Int) (L : List UInt8) : goN O 0 L = .ok (O, L) := by simp [goN, numsF]

theorem goN_more {O : List Int} {k n : Nat} {L r : List UInt8} (h : numF L = .ok (n, r)) : goN O (k + 1) L = goN (O ++ [unzig n]) k r := by
  unfold goN
  rw [numsF, h]
  simp only
  cases numsF k r with
  | error e => rfl
  | ok x => obtain ⟨ns, r2⟩ := x; simp

theorem goN_err {O : List Int} {k : Nat} {L : List UInt8} {e : Er} (h : numF L = .error e) : goN O (k + 1) L = .error e := by
  unfold goN
  rw [numsF, h]

def goT (O : List ByteArray) (k : Nat) (L : List UInt8) : Except Er (List ByteArray × List UInt8) :=
  match textsF k L with
  | .error e => .error e
  | .ok (ts, r) => .ok (O ++ ts, r)

theorem goT_start (k : Nat) (L : List UInt8) : goT [] k L = textsF k L := by
  unfold goT
  cases textsF k L with
  | error e => rfl
  | ok x => rfl

theorem goT_done (O : List ByteArray) (L : List UInt8) : goT O 0 L = .ok (O, L) := by simp [goT, textsF]

theorem goT_more {O : List ByteArray} {k : Nat} {t : ByteArray} {L r : List UInt8} (h : textF L = .ok (t, r)) : goT O (k + 1) L = goT (O ++ [t]) k r := by
  unfold goT
  rw [textsF, h]
  simp only
  cases textsF k r with
  | error e => rfl
  | ok x => obtain ⟨ns, r2⟩ := x; simp

theorem goT_err {O : List ByteArray} {k : Nat} {L : List UInt8} {e : Er} (h : textF L = .error e) : goT O (k + 1) L = .error e := by
  unfold goT
  rw [textsF, h]

/-- what a reading says of the decoding: it goes on at a with n, or it stops with the error at a -/
def Said (s : ByteArray) (r : Except Er (Nat × List UInt8)) (n a c : Nat) : Prop :=
  (c = 0 ∧ a ≤ s.size ∧ n < 9223372036854775808 ∧ r = .ok (n, s.data.toList.drop a)) ∨ (c ≠ 0 ∧ c ≤ 50 ∧ a ≤ s.size ∧ n = 0 ∧ ∃ e : Er, r = .error e ∧ a = e.place s.size ∧ c = e.code)

theorem readR_in {s : ByteArray} {a n u : Nat} (ha : a ≤ s.size) (h : readR (s.data.toList.drop a) = .ok n u) : a + u ≤ s.size := by
  obtain ⟨h1, h2, _⟩ := readR_ok h
  have h3 := congrArg List.length h1
  rw [List.length_append, List.length_drop, List.length_drop, List.length_drop, list_size, ← h2] at h3
  omega

theorem read_said (s : ByteArray) (a : Nat) (ha : a ≤ s.size) : ∃ n p c : Nat, readV s a = .tuple #[.int .i64 (n : Int), .int .i64 (p : Int), .int .i64 (c : Int)] ∧ Said s (numF (s.data.toList.drop a)) n p c := by
  cases hr : readR (s.data.toList.drop a) with
  | ok n u =>
    have h9 : n < 9223372036854775808 := (readR_ok hr).2.2
    refine ⟨n, a + u, 0, by unfold readV; rw [hr]; rfl, .inl ⟨rfl, readR_in ha hr, h9, ?_⟩⟩
    unfold numF; rw [hr]; simp only [List.drop_drop]
  | fin => exact ⟨0, s.size, 50, by unfold readV; rw [hr]; rfl, .inr ⟨by omega, by omega, by omega, rfl, .fin, by unfold numF; rw [hr], rfl, rfl⟩⟩
  | form => exact ⟨0, a, 3, by unfold readV; rw [hr]; rfl, .inr ⟨by omega, by omega, by omega, rfl, .bad (s.data.toList.drop a).length 3, by unfold numF; rw [hr], by simp only [Er.place, List.length_drop, list_size]; omega, rfl⟩⟩

theorem cnt_said (s : ByteArray) (a most : Nat) (ha : a ≤ s.size) : ∃ n p c : Nat, cntV s a most = .tuple #[.int .i64 (n : Int), .int .i64 (p : Int), .int .i64 (c : Int)] ∧ Said s (cnt most (s.data.toList.drop a)) n p c ∧ n ≤ most := by
  cases hr : readR (s.data.toList.drop a) with
  | ok n u =>
    have h9 : n < 9223372036854775808 := (readR_ok hr).2.2
    by_cases hm : most < n
    · refine ⟨0, a, 2, by unfold cntV; rw [hr]; simp only; rw [if_pos hm]; rfl, .inr ⟨by omega, by omega, by omega, rfl, .bad (s.data.toList.drop a).length 2, ?_, by simp only [Er.place, List.length_drop, list_size]; omega, rfl⟩, by omega⟩
      unfold cnt; rw [hr]; simp only; rw [if_pos hm]
    · refine ⟨n, a + u, 0, by unfold cntV; rw [hr]; simp only; rw [if_neg hm]; rfl, .inl ⟨rfl, readR_in ha hr, h9, ?_⟩, by omega⟩
      unfold cnt; rw [hr]; simp only; rw [if_neg hm, List.drop_drop]
  | fin => exact ⟨0, s.size, 50, by unfold cntV; rw [hr]; rfl, .inr ⟨by omega, by omega, by omega, rfl, .fin, by unfold cnt; rw [hr], rfl, rfl⟩, by omega⟩
  | form => exact ⟨0, a, 3, by unfold cntV; rw [hr]; rfl, .inr ⟨by omega, by omega, by omega, rfl, .bad (s.data.toList.drop a).length 3, by unfold cnt; rw [hr], by simp only [Er.place, List.length_drop, list_size]; omega, rfl⟩, by omega⟩

end Pk
end Go.Proofs.Ytmllaighjhpbmaa
