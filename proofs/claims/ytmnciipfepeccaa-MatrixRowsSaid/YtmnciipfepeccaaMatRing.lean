/- The walk of the law that products do not hang on which are taken first; what it asks of the program's own functions stands as hypotheses. -/
import Derived.Test.YtmnciipfepeccaaMatLaw0
import Derived.Test.YtmnciipfepeccaaMatTold
import Derived.Test.YtmnciipfepeccaaFloat
import Derived.Deep.RegionHeld3
import Derived.Deep.DeepCutAuto
import Derived.Deep.DrawnRows
import Derived.Deep.RegionHeldLaw
import Derived.Laws.CopyOwn
namespace Go.Proofs.Ytmnciipfepeccaa
open Go.RowKit

attribute [local go_sem ↓] Go.wp_at_zero Go.wp_at_succ
attribute [local go_sem] floatUpon pick

theorem blt {W w1 : World} (hb : Below W.heap.size W w1) : ∀ q, q < W.heap.size → q < w1.heap.size := fun _ h => Nat.lt_of_lt_of_le h hb.size

/-- three numbers that stand, in a world that comes after W0 -/
def SEnv (W0 : World) (b : Nat) (A B C : Int) (W : World) : Prop :=
  Below W0.heap.size W0 W ∧ W.cell? ⟨b, 0, none⟩ = some (.int .i64 A) ∧ W.cell? ⟨b, 1, none⟩ = some (.int .i64 B) ∧ W.cell? ⟨b, 2, none⟩ = some (.int .i64 C) ∧ b < W0.heap.size

theorem SEnv.step {W0 W W' : World} {b : Nat} {A B C : Int} (h : SEnv W0 b A B C W) (hb : Below W0.heap.size W W') : SEnv W0 b A B C W' :=
  ⟨h.1.trans hb, (hb.cell (p := ⟨b, 0, none⟩) h.2.2.2.2).trans h.2.1, (hb.cell (p := ⟨b, 1, none⟩) h.2.2.2.2).trans h.2.2.1, (hb.cell (p := ⟨b, 2, none⟩) h.2.2.2.2).trans h.2.2.2.1, h.2.2.2.2⟩

theorem SEnv.next {W0 W W' : World} {b : Nat} {A B C : Int} (h : SEnv W0 b A B C W) (hb : Below W.heap.size W W') : SEnv W0 b A B C W' := h.step (hb.mono h.1.size)

theorem SEnv.fst {W0 W : World} {b : Nat} {A B C : Int} {q : Prop} (h : SEnv W0 b A B C W ∧ q) : SEnv W0 b A B C W := h.1

theorem SEnv.all {W0 W : World} {b : Nat} {A B C : Int} (h : SEnv W0 b A B C W) : SEnv W0 b A B C W ∧ W.cell? ⟨b, 0, none⟩ = some (.int .i64 A) ∧ W.cell? ⟨b, 1, none⟩ = some (.int .i64 B) ∧ W.cell? ⟨b, 2, none⟩ = some (.int .i64 C) := ⟨h, h.2.1, h.2.2.1, h.2.2.2.1⟩

theorem SEnv.drew {W0 W : World} {b : Nat} {A B C : Int} (h : SEnv W0 b A B C W) : SEnv W0 b A B C W.drew := ⟨h.1.drew, h.2⟩

theorem SEnv.alloc {W0 W : World} {b : Nat} {A B C : Int} (h : SEnv W0 b A B C W) (o : Obj) : SEnv W0 b A B C (W.alloc o) := h.step ((Below.refl _ W).alloc h.1.size o)

theorem heap_lt3 {w : World} {o : Obj} {b : Nat} (h : w.heap[b]? = some o) : b < w.heap.size := (Array.getElem?_eq_some_iff.1 h).1

/-- a struct stored into a block that is known whole, at a step of a region that draws its order -/
theorem step_store_row {P : Program} {ops : Array Oper} {o : Oper} {a : Act} {w : World} {K : Act → World → Prop} {Q : Exit → Act → World → Prop} {E : Prop} (hgd : o.guard = none) (ty : TypeId) (x y : Operand) (ho : o.op = .store ty x y)
    (g : Nat) (cells : Array Value) (hx : a.eval x = .pointer (some ⟨g, 0, none⟩)) (hy : a.eval y = .agg cells) (t : TypeId) (old : Array Value) (hi : (P.info? ty).map (·.size) = some cells.size) (hold : old.size = cells.size) (h1 : cells.all (·.oneCell') = true)
    (hg : w.heap[g]? = some (.cells old t (0, 0))) (h : K (a.put o.dst undef) (w.setRow g cells)) : if Region.wanted o (yielded ops a.tmps) = true then Oper.wp P o a w K Q else E := by
  have hw : Region.wanted o (yielded ops a.tmps) = true := by simp [Region.wanted, hgd]
  rw [if_pos hw]
  exact wp_store_row ty x y ho g cells hx hy t old hg hi hold h1 h

/-- a block of three cells, from block B on -/
def Blk (B : Nat) (W : World) (p : Nat) (x y z : Value) : Prop := B ≤ p ∧ W.heap[p]? = some (.cells #[x, y, z] 26 (0, 0))

theorem blk_new {B p : Nat} (W : World) (x y z : Value) (h : p = W.heap.size) (hB : B ≤ p) : Blk B (W.alloc (.cells #[x, y, z] 26)) p x y z := ⟨hB, by rw [h]; exact heap_alloc_new W _⟩

theorem blk_below {B p : Nat} {W W' : World} {x y z : Value} (h : Blk B W p x y z) (hb : Below W.heap.size W W') : Blk B W' p x y z := ⟨h.1, (hb.block p (heap_lt3 h.2)).trans h.2⟩

theorem blk_alloc {B p : Nat} {W : World} {x y z : Value} (h : Blk B W p x y z) (o : Obj) : Blk B (W.alloc o) p x y z := blk_below h ((Below.refl _ W).alloc (Nat.le_refl _) o)

theorem blk_row {B p q : Nat} {W : World} {x y z : Value} {cs : Array Value} (h : Blk B W p x y z) (hn : p ≠ q) : Blk B (W.setRow q cs) p x y z := ⟨h.1, (setRow_other _ _ _ _ hn).trans h.2⟩

theorem Blk.fact {B p : Nat} {W : World} {x y z : Value} (h : Blk B W p x y z) : W.heap[p]? = some (.cells #[x, y, z] 26 (0, 0)) := h.2

theorem blk_lt {B p : Nat} {W : World} {x y z : Value} (h : Blk B W p x y z) : p < W.heap.size := heap_lt3 h.2

theorem blk_set {B p : Nat} {W : World} {x y z x' y' z' : Value} (h : Blk B W p x y z) : Blk B (W.setRow p #[x', y', z']) p x' y' z' := ⟨h.1, setRow_heap _ _ _ _ _ _ h.2⟩

theorem blk_cells {B p : Nat} {W : World} {x y z : Value} (h : Blk B W p x y z) : W.cell? ⟨p, 0, none⟩ = some x ∧ W.cell? ⟨p, 1, none⟩ = some y ∧ W.cell? ⟨p, 2, none⟩ = some z ∧ (∀ o, W.frozen? ⟨p, o, none⟩ = false) ∧ p < W.heap.size :=
  ⟨blk_cell h.2 rfl, blk_cell h.2 rfl, blk_cell h.2 rfl, blk_free h.2, heap_lt3 h.2⟩

theorem SEnv.set {W0 W : World} {b p i : Nat} {A B C : Int} (h : SEnv W0 b A B C W) (hp : W0.heap.size ≤ p) (v : Value) : SEnv W0 b A B C (W.setCell ⟨p, i, none⟩ v) :=
  h.step ((Below.refl _ W).setCell hp v)

theorem SEnv.row {W0 W : World} {b p : Nat} {A B C : Int} (h : SEnv W0 b A B C W) (hp : W0.heap.size ≤ p) (cs : Array Value) : SEnv W0 b A B C (W.setRow p cs) :=
  h.step ⟨rfl, rfl, rfl, by simp [World.setRow], fun k hk => setRow_other _ _ _ _ (by omega)⟩

/-- a block that is not the one that is written -/
theorem cell_setRow' {w : World} {b o k : Nat} {cs : Array Value} (h : b ≠ k) : (w.setRow k cs).cell? ⟨b, o, none⟩ = w.cell? ⟨b, o, none⟩ := by
  unfold World.cell?
  rw [setRow_other _ _ _ _ h]

/-- what a struct of a new block is, stored whole -/
theorem matAt_row {W : World} {p : Nat} {r c : Int} {s : ByteArray} {old : Array Value} (h : W.heap[p]? = some (.cells old 26 (0, 0))) :
    MatAt (W.setRow p #[.int .i64 r, .int .i64 c, .string s]) p r c s :=
  have h' := setRow_heap W p old #[.int .i64 r, .int .i64 c, .string s] 26 (0, 0) h
  ⟨blk_cell h' rfl, blk_cell h' rfl, blk_cell h' rfl, by have := heap_lt3 h'; exact this⟩

theorem matAt_other {W : World} {p q : Nat} {r c : Int} {s : ByteArray} {cs : Array Value} (h : MatAt W p r c s) (hn : p ≠ q) : MatAt (W.setRow q cs) p r c s :=
  ⟨(cell_setRow' hn).trans h.1, (cell_setRow' hn).trans h.2.1, (cell_setRow' hn).trans h.2.2.1, by have := h.2.2.2; simpa [World.setRow] using this⟩

theorem below_row {B p : Nat} {w W : World} (h : Below B w W) (hp : B ≤ p) (cs : Array Value) : Below B w (W.setRow p cs) :=
  h.trans ⟨rfl, rfl, rfl, by simp [World.setRow], fun k hk => setRow_other _ _ _ _ (by omega)⟩

set_option maxRecDepth 100000 in
set_option maxHeartbeats 0 in
theorem mring_walk (hG : GenExample) (hM : MulYes) (hO : IdYes) (A B C : Int) (x y : ByteArray) (hx : x.size ≤ reachBytes) (hy : y.size ≤ reachBytes) (w : World) :
    Calls Try.prog 3 #[.agg #[.int .i64 A, .int .i64 B, .int .i64 C], .string x, .string y] w fun e w' => e = .returned (.bool true) ∧ Below w.heap.size w w' := by
  have HG := Lib.hid hG
  have HM := Lib.hid hM
  have HO := Lib.hid hO
  clear hG hM hO
  have sA := sideV_rng A
  have sB := sideV_rng B
  have sC := sideV_rng C
  have hadd : ∀ W, (Op.stringOp .add y x).run Try.prog W = .ok (.string (y ++ x)) W := fun W => run_string_add_sum W _ _ (by unfold reachBytes at hx hy; omega)
  have hadd2 : (y.size : Int) + (x.size : Int) ≤ 9223372036854775807 := by unfold reachBytes at hx hy; omega
  clear hx hy
  go_enter Try.func3, Try.ntmps3
  go_wp2_with fail
  refine (works_true HG.out _).mono ?_
  rintro e w1 ⟨rfl, hb1⟩
  have B1 := Lib.hid (below_new hb1)
  obtain ⟨hc1, hf1⟩ := bcell hb1
  have x1 : w.heap.size < w1.heap.size := by have := hb1.size; simp at this; omega
  have E1 : Hid (SEnv w1 w.heap.size A B C w1) := ⟨Below.refl _ _, by rw [hc1 _ _ (by simp)]; simp, by rw [hc1 _ _ (by simp)]; simp, by rw [hc1 _ _ (by simp)]; simp, x1⟩
  clear hb1 hc1 hf1 x1
  go_upto_region 3 with fail
  refine wp_region_said 18 [29, 30, 31, 32, 33, 34, 35, 36, 37, 38, 39, 40, 41, 42, 43, 44, 7, 8]
    [.is (.pointer (some ⟨w.heap.size, 0, none⟩)), .is (.int .i64 A), .is (.int .i64 (sideV A : Int)), .is (.pointer (some ⟨w.heap.size, 1, none⟩)), .is (.int .i64 B), .is (.int .i64 (sideV B : Int)), .is (.string x),
     .is (.agg #[.int .i64 (sideV A : Int), .int .i64 (sideV B : Int), .string ⟨(tabL (sideV A) (sideV B) (madeF (sideV B) x)).toArray⟩]),
     .is (.pointer (some ⟨w.heap.size, 1, none⟩)), .is (.int .i64 B), .is (.int .i64 (sideV B : Int)), .is (.pointer (some ⟨w.heap.size, 2, none⟩)), .is (.int .i64 C), .is (.int .i64 (sideV C : Int)), .is (.string y),
     .is (.agg #[.int .i64 (sideV B : Int), .int .i64 (sideV C : Int), .string ⟨(tabL (sideV B) (sideV C) (madeF (sideV C) y)).toArray⟩]),
     .blk 26 #[.int .i64 0, .int .i64 0, .string ⟨#[]⟩], .blk 26 #[.int .i64 0, .int .i64 0, .string ⟨#[]⟩]]
    (SEnv w1 w.heap.size A B C) (by kernel_rfl) (by kernel_rfl) (by kernel_rfl) (by kernel_rfl) (by kernel_rfl) (fun _ _ h hb => SEnv.next h hb) E1.out ?steps ?last
  case steps =>
    simp only [List.take_succ_cons, List.take_zero]
    refine ⟨?_, ?_, ?_, ?_, ?_, ?_, ?_, ?_, ?_, ?_, ?_, ?_, ?_, ?_, ?_, ?_, ?_, ?_, trivial⟩
    all_goals
      intro vs W ρ hρ hc hf hg hI hH hd R hR
      obtain ⟨_, c0, c1, c2⟩ := SEnv.all hI
      have HR := Lib.hid hR
      simp [depsOf, Region.binds, sayAt, Say.holds] at hd
      clear hR hI
      go_simp
      first
        | exact HR.out _ _ (by simp [sayAt, Say.holds]) (Below.refl _ _) (by simp [sayAt, Say.isBlk])
        | (refine (side_any _ _).mono ?_; rintro e w' ⟨rfl, rfl⟩; exact ⟨_, rfl, HR.out _ _ (by simp [sayAt, Say.holds]) (Below.refl _ _) (by simp [sayAt, Say.isBlk])⟩)
        | (refine (made_any _ _ _ _ (by omega) (by omega) (by omega) (by omega)).mono ?_; rintro e w' ⟨rfl, hb⟩; exact ⟨_, rfl, HR.out _ _ (by simp [sayAt, Say.holds]) hb (by simp [sayAt, Say.isBlk])⟩)
        | exact HR.out _ _ ⟨_, hH, by simp, rfl, heap_alloc_new _ _⟩ ((Below.refl _ _).alloc (Nat.le_refl _) _) (fun _ => rfl)
  case last =>
    intro vs W hI hb hg hd
    have g7 := hg 7 (by omega)
    have g15 := hg 15 (by omega)
    obtain ⟨p, hp1, hp2, g16, hp⟩ := hg 16 (by omega)
    obtain ⟨q, hq1, hq2, g17, hq⟩ := hg 17 (by omega)
    have hpq : p ≠ q := fun z => hd 16 17 (by omega) (by omega) rfl rfl (by omega) (by rw [g16, g17, z])
    simp only [sayAt, Say.holds, List.getD_cons_succ, List.getD_cons_zero] at g7 g15
    simp only [List.take_succ_cons, List.take_zero, List.drop_succ_cons, List.drop_zero, putAll, Act.put, List.setIfInBounds_toArray, List.set_cons_succ, List.set_cons_zero, Nat.zero_add, Nat.reduceAdd]
    rw [g7, g15, g16, g17]
    clear g7 g15 g16 g17 hg hd
    refine wpList_plain rfl fun K hK => ?_
    refine wp_store_row 26 (.tmp 7) (.tmp 36) rfl p _ rfl rfl _ _ hp (by kernel_rfl) rfl (by simp [Value.oneCell']) ?_
    refine hK _ _ ?_
    clear hK K
    have hq' := (setRow_other W p q #[.int .i64 (sideV A : Int), .int .i64 (sideV B : Int), .string ⟨(tabL (sideV A) (sideV B) (madeF (sideV B) x)).toArray⟩] (Ne.symm hpq)).trans hq
    have M1 : Hid _ := Lib.hid (matAt_other (matAt_row (r := (sideV A : Int)) (c := (sideV B : Int)) (s := ⟨(tabL (sideV A) (sideV B) (madeF (sideV B) x)).toArray⟩) hp) hpq (cs := #[.int .i64 (sideV B : Int), .int .i64 (sideV C : Int), .string ⟨(tabL (sideV B) (sideV C) (madeF (sideV C) y)).toArray⟩]))
    refine wpList_plain rfl fun K hK => ?_
    refine wp_store_row 26 (.tmp 8) (.tmp 44) rfl q _ rfl rfl _ _ hq' (by kernel_rfl) rfl (by simp [Value.oneCell']) ?_
    refine hK _ _ ?_
    clear hK K
    have M2 : Hid _ := Lib.hid (matAt_row (r := (sideV B : Int)) (c := (sideV C : Int)) (s := ⟨(tabL (sideV B) (sideV C) (madeF (sideV C) y)).toArray⟩) hq')
    have E3 : Hid _ := Lib.hid ((hI.row (p := p) hp1 #[.int .i64 (sideV A : Int), .int .i64 (sideV B : Int), .string ⟨(tabL (sideV A) (sideV B) (madeF (sideV B) x)).toArray⟩]).row (p := q) hq1 #[.int .i64 (sideV B : Int), .int .i64 (sideV C : Int), .string ⟨(tabL (sideV B) (sideV C) (madeF (sideV C) y)).toArray⟩])
    generalize (W.setRow p #[.int .i64 (sideV A : Int), .int .i64 (sideV B : Int), .string ⟨(tabL (sideV A) (sideV B) (madeF (sideV B) x)).toArray⟩]).setRow q #[.int .i64 (sideV B : Int), .int .i64 (sideV C : Int), .string ⟨(tabL (sideV B) (sideV C) (madeF (sideV C) y)).toArray⟩] = W3 at M1 M2 E3 ⊢
    clear hp hq hq' hp1 hp2 hq1 hq2 hI hb W
    go_upto_region 4 with fail
    simp only [Act.put]
    refine wp_region_said 11 [45, 46, 47, 48, 49, 50, 51, 52, 53, 54, 9]
      [.is (.pointer (some ⟨w.heap.size, 2, none⟩)), .is (.int .i64 C), .is (.int .i64 (sideV C : Int)), .is (.pointer (some ⟨w.heap.size, 0, none⟩)), .is (.int .i64 A), .is (.int .i64 (sideV A : Int)), .is (.string y), .is (.string x), .is (.string (y ++ x)),
       .is (.agg #[.int .i64 (sideV C : Int), .int .i64 (sideV A : Int), .string ⟨(tabL (sideV C) (sideV A) (madeF (sideV A) (y ++ x))).toArray⟩]),
       .blk 26 #[.int .i64 0, .int .i64 0, .string ⟨#[]⟩]]
      (SEnv w1 w.heap.size A B C) (by kernel_rfl) (by kernel_rfl) (by kernel_rfl) (by kernel_rfl) (by kernel_rfl) (fun _ _ h hb => SEnv.next h hb) E3.out ?steps ?last
    case steps =>
      simp only [List.take_succ_cons, List.take_zero]
      refine ⟨?_, ?_, ?_, ?_, ?_, ?_, ?_, ?_, ?_, ?_, ?_, trivial⟩
      all_goals
        intro vs W ρ hρ hc hf hg hI hH hd R hR
        obtain ⟨_, c0, c1, c2⟩ := SEnv.all hI
        have HR := Lib.hid hR
        simp [depsOf, Region.binds, sayAt, Say.holds] at hd
        clear hR hI
        go_simp
        first
          | exact HR.out _ _ (by simp [sayAt, Say.holds]) (Below.refl _ _) (by simp [sayAt, Say.isBlk])
          | (refine (side_any _ _).mono ?_; rintro e w' ⟨rfl, rfl⟩; exact ⟨_, rfl, HR.out _ _ (by simp [sayAt, Say.holds]) (Below.refl _ _) (by simp [sayAt, Say.isBlk])⟩)
          | (refine (made_any _ _ _ _ (by omega) (by omega) (by omega) (by omega)).mono ?_; rintro e w' ⟨rfl, hb⟩; exact ⟨_, rfl, HR.out _ _ (by simp [sayAt, Say.holds]) hb (by simp [sayAt, Say.isBlk])⟩)
          | exact HR.out _ _ ⟨_, hH, by simp, rfl, heap_alloc_new _ _⟩ ((Below.refl _ _).alloc (Nat.le_refl _) _) (fun _ => rfl)
    case last =>
    intro vs' W hI hb hg hd
    have g9 := hg 9 (by omega)
    obtain ⟨o, ho1, ho2, g10, ho⟩ := hg 10 (by omega)
    simp only [sayAt, Say.holds, List.getD_cons_succ, List.getD_cons_zero] at g9
    simp only [List.take_succ_cons, List.take_zero, List.drop_succ_cons, List.drop_zero, putAll, Act.put, List.setIfInBounds_toArray, List.set_cons_succ, List.set_cons_zero, Nat.zero_add, Nat.reduceAdd]
    rw [g9, g10]
    clear g9 g10 hg hd
    have P1 := matAt_below M1.out hb
    have Q1 := matAt_below M2.out hb
    have E4 := hI.1
    refine wpList_plain rfl fun K hK => ?_
    refine wp_store_row 26 (.tmp 9) (.tmp 54) rfl o _ rfl rfl _ _ ho (by kernel_rfl) rfl (by simp [Value.oneCell']) ?_
    refine hK _ _ ?_
    clear hK K
    have P2 := Lib.hid (matAt_other P1 (q := o) (by have := M1.out.2.2.2; omega) (cs := #[.int .i64 (sideV C : Int), .int .i64 (sideV A : Int), .string ⟨(tabL (sideV C) (sideV A) (madeF (sideV A) (y ++ x))).toArray⟩]))
    have Q2 := Lib.hid (matAt_other Q1 (q := o) (by have := M2.out.2.2.2; omega) (cs := #[.int .i64 (sideV C : Int), .int .i64 (sideV A : Int), .string ⟨(tabL (sideV C) (sideV A) (madeF (sideV A) (y ++ x))).toArray⟩]))
    have C2 := Lib.hid (matAt_row (r := (sideV C : Int)) (c := (sideV A : Int)) (s := ⟨(tabL (sideV C) (sideV A) (madeF (sideV A) (y ++ x))).toArray⟩) ho)
    have B4 : Hid (Below w.heap.size w _) := Lib.hid (B1.out.trans ((below_row E4 (p := o) (by have := E3.out.1.size; omega) #[.int .i64 (sideV C : Int), .int .i64 (sideV A : Int), .string ⟨(tabL (sideV C) (sideV A) (madeF (sideV A) (y ++ x))).toArray⟩]).mono B1.out.size))
    generalize (W.setRow o #[.int .i64 (sideV C : Int), .int .i64 (sideV A : Int), .string ⟨(tabL (sideV C) (sideV A) (madeF (sideV A) (y ++ x))).toArray⟩]) = W4 at P2 Q2 C2 B4 ⊢
    clear ho ho1 ho2 hI hb W P1 Q1 E4 E3 M1 M2 hadd hadd2 E1 B1 HG
    generalize sideV A = a at sA P2 Q2 C2 ⊢
    generalize sideV B = b at sB P2 Q2 C2 ⊢
    generalize sideV C = c at sC P2 Q2 C2 ⊢
    have za : Hid ((⟨(tabL a b (madeF b x)).toArray⟩ : ByteArray).size = a * b) := size_tab a b _
    have zb : Hid ((⟨(tabL b c (madeF c y)).toArray⟩ : ByteArray).size = b * c) := size_tab b c _
    have zc : Hid ((⟨(tabL c a (madeF a (y ++ x))).toArray⟩ : ByteArray).size = c * a) := size_tab c a _
    generalize (⟨(tabL a b (madeF b x)).toArray⟩ : ByteArray) = sa at za P2 ⊢
    generalize (⟨(tabL b c (madeF c y)).toArray⟩ : ByteArray) = sb at zb Q2 ⊢
    generalize (⟨(tabL c a (madeF a (y ++ x))).toArray⟩ : ByteArray) = sc at zc C2 ⊢
    have EL : Hid (tabL a a (timesF c a ⟨(tabL a c (timesF b c sa sb)).toArray⟩ sc) = tabL a a (timesF b a sa ⟨(tabL b a (timesF c a sb sc)).toArray⟩)) := tab_congr a a fun i j hi hj =>
      ((GfU.mm_congr c i j (fun k hk => cel_tab a c _ i k hi hk) (fun k hk => rfl)).trans (GfU.mm_assoc b c (cel sa b) (cel sb c) (cel sc a) i j)).trans (GfU.mm_congr b i j (fun k hk => rfl) (fun k hk => (cel_tab b a _ k j hk hj).symm))
    have EO : Hid ((⟨(tabL a b (timesF a b ⟨(tabL a a GfU.one).toArray⟩ sa)).toArray⟩ : ByteArray) = sa) := by
      rw [tab_congr a b (f := timesF a b ⟨(tabL a a GfU.one).toArray⟩ sa) (g := cel sa b) fun i j hi hj => (GfU.mm_congr a i j (fun k hk => cel_tab a a _ i k hi hk) (fun k hk => rfl)).trans (GfU.one_mm a (cel sa b) i j hi)]
      exact tab_cel a b sa za.out
    have ET : Hid ((⟨(tabL a b (timesF b b sa ⟨(tabL b b GfU.one).toArray⟩)).toArray⟩ : ByteArray) = sa) := by
      rw [tab_congr a b (f := timesF b b sa ⟨(tabL b b GfU.one).toArray⟩) (g := cel sa b) fun i j hi hj => (GfU.mm_congr b i j (fun k hk => rfl) (fun k hk => cel_tab b b _ k j hk hj)).trans (GfU.mm_one b (cel sa b) i j hj)]
      exact tab_cel a b sa za.out
    have s1 := sA.1
    have s2 := sA.2
    have s3 := sB.1
    have s4 := sB.2
    have s5 := sC.1
    have s6 := sC.2
    clear sA sB sC
    have px := P2.out
    have qx := Q2.out
    go_wp2_with fail
    refine (HM.out a b c _ _ _ (by omega) (by omega) (by omega) (by omega) (by omega) (by omega) za.out zb.out).mono ?_
    rintro e w5 ⟨rfl, hb⟩
    have P3 := Lib.hid (matAt_below P2.out hb)
    have Q3 := Lib.hid (matAt_below Q2.out hb)
    have C3 := Lib.hid (matAt_below C2.out hb)
    have B5 : Hid (Below w.heap.size w w5) := B4.out.trans (hb.mono B4.out.size)
    clear hb px qx P2 Q2 C2 B4
    have qx := Q3.out
    have cx := C3.out
    go_wp2_with fail
    refine (HM.out b c a _ _ _ (by omega) (by omega) (by omega) (by omega) (by omega) (by omega) zb.out zc.out).mono ?_
    rintro e w6 ⟨rfl, hb⟩
    have P4 := Lib.hid (matAt_below (matAt_alloc P3.out _) hb)
    have Q4 := Lib.hid (matAt_below (matAt_alloc Q3.out _) hb)
    have C4 := Lib.hid (matAt_below (matAt_alloc C3.out _) hb)
    have L4 := Lib.hid (matAt_below (matAt_new w5 (a : Int) (c : Int) ⟨(tabL a c (timesF b c sa sb)).toArray⟩ 26) hb)
    have B6 : Hid (Below w.heap.size w w6) := (B5.out.alloc B5.out.size _).trans (hb.mono (by have := B5.out.size; simp; omega))
    clear hb qx cx P3 Q3 C3 B5
    generalize w5.heap.size = pl at L4 ⊢
    have lx := L4.out
    have cx := C4.out
    go_wp2_with fail
    refine (HM.out a c a _ _ _ (by omega) (by omega) (by omega) (by omega) (by omega) (by omega) (size_tab a c _) zc.out).mono ?_
    rintro e w7 ⟨rfl, hb⟩
    rw [EL.out]
    have P5 := Lib.hid (matAt_below (matAt_alloc P4.out _) hb)
    have Q5 := Lib.hid (matAt_below (matAt_alloc Q4.out _) hb)
    have C5 := Lib.hid (matAt_below (matAt_alloc C4.out _) hb)
    have L5 := Lib.hid (matAt_below (matAt_alloc L4.out _) hb)
    have R5 := Lib.hid (matAt_below (matAt_new w6 (b : Int) (a : Int) ⟨(tabL b a (timesF c a sb sc)).toArray⟩ 26) hb)
    have B7 : Hid (Below w.heap.size w w7) := (B6.out.alloc B6.out.size _).trans (hb.mono (by have := B6.out.size; simp; omega))
    clear hb lx cx P4 Q4 C4 L4 B6
    generalize w6.heap.size = pr at R5 ⊢
    have px := P5.out
    have rx := R5.out
    go_wp2_with fail
    refine (HM.out a b a _ _ _ (by omega) (by omega) (by omega) (by omega) (by omega) (by omega) za.out (size_tab b a _)).mono ?_
    rintro e w8 ⟨rfl, hb⟩
    have P6 := Lib.hid (matAt_below (matAt_alloc P5.out _) hb)
    have Q6 := Lib.hid (matAt_below (matAt_alloc Q5.out _) hb)
    have C6 := Lib.hid (matAt_below (matAt_alloc C5.out _) hb)
    have L6 := Lib.hid (matAt_below (matAt_alloc L5.out _) hb)
    have R6 := Lib.hid (matAt_below (matAt_alloc R5.out _) hb)
    have X6 := Lib.hid (matAt_below (matAt_new w7 (a : Int) (a : Int) ⟨(tabL a a (timesF b a sa ⟨(tabL b a (timesF c a sb sc)).toArray⟩)).toArray⟩ 26) hb)
    have B8 : Hid (Below w.heap.size w w8) := (B7.out.alloc B7.out.size _).trans (hb.mono (by have := B7.out.size; simp; omega))
    clear hb px rx P5 Q5 C5 L5 R5 B7
    generalize w7.heap.size = px at X6 ⊢
    have px := P6.out
    go_wp2_with fail
    refine (HO.out a _ (by omega) (by omega)).mono ?_
    rintro e w9 ⟨rfl, hb⟩
    have P7 := Lib.hid (matAt_below (matAt_alloc P6.out _) hb)
    have Q7 := Lib.hid (matAt_below (matAt_alloc Q6.out _) hb)
    have C7 := Lib.hid (matAt_below (matAt_alloc C6.out _) hb)
    have L7 := Lib.hid (matAt_below (matAt_alloc L6.out _) hb)
    have R7 := Lib.hid (matAt_below (matAt_alloc R6.out _) hb)
    have X7 := Lib.hid (matAt_below (matAt_alloc X6.out _) hb)
    have Y7 := Lib.hid (matAt_below (matAt_new w8 (a : Int) (a : Int) ⟨(tabL a a (timesF b a sa ⟨(tabL b a (timesF c a sb sc)).toArray⟩)).toArray⟩ 26) hb)
    have B9 : Hid (Below w.heap.size w w9) := (B8.out.alloc B8.out.size _).trans (hb.mono (by have := B8.out.size; simp; omega))
    clear hb px P6 Q6 C6 L6 R6 X6 B8
    generalize w8.heap.size = py at Y7 ⊢
    have px := P7.out
    go_wp2_with fail
    refine (HO.out b _ (by omega) (by omega)).mono ?_
    rintro e w10 ⟨rfl, hb⟩
    have P8 := Lib.hid (matAt_below (matAt_alloc P7.out _) hb)
    have Q8 := Lib.hid (matAt_below (matAt_alloc Q7.out _) hb)
    have C8 := Lib.hid (matAt_below (matAt_alloc C7.out _) hb)
    have L8 := Lib.hid (matAt_below (matAt_alloc L7.out _) hb)
    have R8 := Lib.hid (matAt_below (matAt_alloc R7.out _) hb)
    have X8 := Lib.hid (matAt_below (matAt_alloc X7.out _) hb)
    have Y8 := Lib.hid (matAt_below (matAt_alloc Y7.out _) hb)
    have O8 := Lib.hid (matAt_below (matAt_new w9 (a : Int) (a : Int) ⟨(tabL a a GfU.one).toArray⟩ 26) hb)
    have B10 : Hid (Below w.heap.size w w10) := (B9.out.alloc B9.out.size _).trans (hb.mono (by have := B9.out.size; simp; omega))
    clear hb px P7 Q7 C7 L7 R7 X7 Y7 B9
    generalize w9.heap.size = po at O8 ⊢
    have ox := O8.out
    have px := P8.out
    go_wp2_with fail
    refine (HM.out a a b _ _ _ (by omega) (by omega) (by omega) (by omega) (by omega) (by omega) (size_tab a a _) za.out).mono ?_
    rintro e w11 ⟨rfl, hb⟩
    rw [EO.out]
    have P9 := Lib.hid (matAt_below (matAt_alloc P8.out _) hb)
    have Q9 := Lib.hid (matAt_below (matAt_alloc Q8.out _) hb)
    have C9 := Lib.hid (matAt_below (matAt_alloc C8.out _) hb)
    have L9 := Lib.hid (matAt_below (matAt_alloc L8.out _) hb)
    have R9 := Lib.hid (matAt_below (matAt_alloc R8.out _) hb)
    have X9 := Lib.hid (matAt_below (matAt_alloc X8.out _) hb)
    have Y9 := Lib.hid (matAt_below (matAt_alloc Y8.out _) hb)
    have O9 := Lib.hid (matAt_below (matAt_alloc O8.out _) hb)
    have T9 := Lib.hid (matAt_below (matAt_new w10 (b : Int) (b : Int) ⟨(tabL b b GfU.one).toArray⟩ 26) hb)
    have B11 : Hid (Below w.heap.size w w11) := (B10.out.alloc B10.out.size _).trans (hb.mono (by have := B10.out.size; simp; omega))
    clear hb ox px P8 Q8 C8 L8 R8 X8 Y8 O8 B10
    generalize w10.heap.size = pt at T9 ⊢
    have px := P9.out
    have tx := T9.out
    go_wp2_with fail
    refine (HM.out a b b _ _ _ (by omega) (by omega) (by omega) (by omega) (by omega) (by omega) za.out (size_tab b b _)).mono ?_
    rintro e w12 ⟨rfl, hb⟩
    rw [ET.out]
    have P10 := Lib.hid (matAt_below (matAt_alloc P9.out _) hb)
    have Q10 := Lib.hid (matAt_below (matAt_alloc Q9.out _) hb)
    have C10 := Lib.hid (matAt_below (matAt_alloc C9.out _) hb)
    have L10 := Lib.hid (matAt_below (matAt_alloc L9.out _) hb)
    have R10 := Lib.hid (matAt_below (matAt_alloc R9.out _) hb)
    have X10 := Lib.hid (matAt_below (matAt_alloc X9.out _) hb)
    have Y10 := Lib.hid (matAt_below (matAt_alloc Y9.out _) hb)
    have O10 := Lib.hid (matAt_below (matAt_alloc O9.out _) hb)
    have T10 := Lib.hid (matAt_below (matAt_alloc T9.out _) hb)
    have U10 := Lib.hid (matAt_below (matAt_new w11 (a : Int) (b : Int) sa 26) hb)
    have B12 : Hid (Below w.heap.size w w12) := (B11.out.alloc B11.out.size _).trans (hb.mono (by have := B11.out.size; simp; omega))
    clear hb px tx P9 Q9 C9 L9 R9 X9 Y9 O9 T9 B11
    generalize w11.heap.size = pu at U10 ⊢
    have px := P10.out
    have xx := X10.out
    have yx := Y10.out
    have ux := U10.out
    go_wp2_with fail
    go_ret
    exact ⟨rfl, B12.out.alloc B12.out.size _⟩

end Go.Proofs.Ytmnciipfepeccaa
