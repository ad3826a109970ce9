/- The law of package pack: what may be, and its bytes. -/
import Derived.Test.YtklbahagcdfccaaPkShell
import Derived.Test.YtklbahagcdfccaaPkBack
import Derived.Test.YtklbahagcdfccaaBkAppend
namespace Go.Proofs.Ytklbahagcdfccaa
namespace Pk
open Go.RowKit Go.Joins Bk

attribute [local go_sem ↓] Go.wp_at_zero Go.wp_at_succ
attribute [local go_sem] floatUpon pick

/-- an empty literal -/
def S14 (b0 : Nat) (v : Value) (W : World) : Prop := ∃ g, b0 ≤ g ∧ v = .slice (some ⟨g, 0, none⟩) 0 0 ∧ W.heap[g]? = some (.cells #[] 3 (0, 0))
/-- the numbers, of the call's own -/
def S17 (b0 : Nat) (ns : List Int) (v : Value) (W : World) : Prop := W.ownsRow b0 3 1 v ns.length (intV ns) ∧ ∃ g cap, v = .slice (some ⟨g, 0, none⟩) ns.length cap
/-- the texts, lent -/
def S20 (b0 : Nat) (ts : List ByteArray) (v : Value) (W : World) : Prop := ∃ g cap, v = .slice (some ⟨g, 0, none⟩) ts.length cap ∧ W.ownsRow b0 9 1 (.slice (some ⟨g, 0, none⟩) (ts.length + 1) cap) (ts.length + 1) (strV ts ++ [.string markS])
def S21 (b0 : Nat) (ns : List Int) (ts : List ByteArray) (v : Value) (W : World) : Prop := ∃ v1 v2, v = .agg #[v1, v2] ∧ S17 b0 ns v1 W ∧ S20 b0 ts v2 W

theorem S14.keep {b0 : Nat} {v : Value} {W W' : World} (h : S14 b0 v W) (hb : Below W.heap.size W W') : S14 b0 v W' := by
  obtain ⟨g, h1, h2, h3⟩ := h
  exact ⟨g, h1, h2, (hb.block g (Array.getElem?_eq_some_iff.1 h3).1).trans h3⟩
theorem S17.keep {b0 : Nat} {ns : List Int} {v : Value} {W W' : World} (h : S17 b0 ns v W) (hb : Below W.heap.size W W') : S17 b0 ns v W' := ⟨st_keep h.1 hb, h.2⟩
theorem S20.keep {b0 : Nat} {ts : List ByteArray} {v : Value} {W W' : World} (h : S20 b0 ts v W) (hb : Below W.heap.size W W') : S20 b0 ts v W' := by
  obtain ⟨g, cap, h1, h2⟩ := h
  exact ⟨g, cap, h1, st_keep h2 hb⟩
theorem S21.keep {b0 : Nat} {ns : List Int} {ts : List ByteArray} {v : Value} {W W' : World} (h : S21 b0 ns ts v W) (hb : Below W.heap.size W W') : S21 b0 ns ts v W' := by
  obtain ⟨v1, v2, h1, h2, h3⟩ := h
  exact ⟨v1, v2, h1, h2.keep hb, h3.keep hb⟩

theorem encV_form (ns : List Int) (ts : List ByteArray) : ∃ (t : ByteArray) (e : Int), encV ns ts = .tuple #[.string t, .int .i64 e] := by
  unfold encV
  split
  · exact ⟨_, _, rfl⟩
  · exact ⟨_, _, rfl⟩

theorem numV_form (z : Int) : ∃ (t : ByteArray) (e : Int), numV z = .tuple #[.string t, .int .i64 e] := by
  unfold numV
  split
  · exact ⟨_, _, rfl⟩
  · exact ⟨_, _, rfl⟩

/-- what the walk keeps of both packs: its own, in block o, and what came in, in block g -/
structure WrEnv (w W : World) (b0 o g : Nat) (A B : Option Addr) (c d g1 c1 g2 c2 : Nat) (ns : List Int) (ts : List ByteArray) : Prop where
  p : PkEnv w W g A B c d ns ts
  cel : Cel W o 25 [.slice (some ⟨g1, 0, none⟩) ns.length c1, .slice (some ⟨g2, 0, none⟩) ts.length c2]
  r1 : W.ownsRow b0 3 1 (.slice (some ⟨g1, 0, none⟩) ns.length c1) ns.length (intV ns)
  r2 : W.ownsRow b0 9 1 (.slice (some ⟨g2, 0, none⟩) (ts.length + 1) c2) (ts.length + 1) (strV ts ++ [.string markS])

theorem WrEnv.step {w W W' : World} {b0 o g : Nat} {A B : Option Addr} {c d g1 c1 g2 c2 : Nat} {ns : List Int} {ts : List ByteArray} (h : WrEnv w W b0 o g A B c d g1 c1 g2 c2 ns ts) (hb : Below W.heap.size W W') : WrEnv w W' b0 o g A B c d g1 c1 g2 c2 ns ts :=
  ⟨h.p.step hb, h.cel.below hb, st_keep h.r1 hb, st_keep h.r2 hb⟩

theorem row_cap {W : World} {b0 g n cap : Nat} {e : TypeId} {xs : List Value} (h : W.ownsRow b0 e 1 (.slice (some ⟨g, 0, none⟩) n cap) n xs) : n ≤ cap ∧ cap ≤ maxLen := by
  rcases h.2 with ⟨h1, _⟩ | ⟨g', cap', cur, h1, _, _, h3, h4, _⟩
  · cases h1
  · simp only [Value.slice.injEq] at h1; omega

/-- a row of another type is not reached by a store -/
theorem row_far {W : World} {b0 o i n : Nat} {t e : TypeId} {cs : List Value} {v u : Value} {xs : List Value} (h : W.ownsRow b0 e 1 v n xs) (hc : Cel W o t cs) (hne : t ≠ e) : (W.setCell ⟨o, i, none⟩ u).ownsRow b0 e 1 v n xs := by
  refine ⟨h.1, ?_⟩
  rcases h.2 with h' | ⟨g, cap, cur, hv, h1, h2, h3⟩
  · exact .inl h'
  · refine .inr ⟨g, cap, cur, hv, h1, ?_, h3⟩
    by_cases hg : g = o
    · subst hg
      unfold Cel at hc
      rw [hc] at h2
      simp only [Option.some.injEq, Obj.cells.injEq] at h2
      exact absurd h2.2.1 hne
    · exact (Below.heap_setCell W ⟨o, i, none⟩ u g hg).trans h2

/-- what is asked at any world of the walk -/
structure WrOut (w : World) (b0 o g : Nat) (A B : Option Addr) (c d g1 c1 g2 c2 : Nat) (ns : List Int) (ts : List ByteArray) (X : ByteArray) (E K : Int) : Prop where
  enc : ∀ W, WrEnv w W b0 o g A B c d g1 c1 g2 c2 ns ts → Calls Try.prog 10 #[.agg #[.slice (some ⟨g1, 0, none⟩) ns.length c1, .slice (some ⟨g2, 0, none⟩) ts.length c2]] W fun e w' => e = .returned (.tuple #[.string X, .int .i64 E]) ∧ Below W.heap.size W w'
  renc : ∀ W, WrEnv w W b0 o g A B c d g1 c1 g2 c2 ns ts → Calls Try.prog 11 #[.agg #[.slice A ns.length c, .slice B ts.length d]] W fun e w' => e = .returned (.tuple #[.string X, .int .i64 E]) ∧ Below W.heap.size W w'
  chk : ∀ W, WrEnv w W b0 o g A B c d g1 c1 g2 c2 ns ts → Calls Try.prog 14 #[.agg #[.slice (some ⟨g1, 0, none⟩) ns.length c1, .slice (some ⟨g2, 0, none⟩) ts.length c2]] W fun e w' => e = .returned (.int .i64 K) ∧ Below W.heap.size W w'
  rchk : ∀ W, WrEnv w W b0 o g A B c d g1 c1 g2 c2 ns ts → Calls Try.prog 15 #[.agg #[.slice A ns.length c, .slice B ts.length d]] W fun e w' => e = .returned (.int .i64 K) ∧ Below W.heap.size W w'
  same : ∀ W, WrEnv w W b0 o g A B c d g1 c1 g2 c2 ns ts → Calls Try.prog 16 #[.agg #[.slice (some ⟨g1, 0, none⟩) ns.length c1, .slice (some ⟨g2, 0, none⟩) ts.length c2], .agg #[.slice A ns.length c, .slice B ts.length d]] W fun e w' => e = .returned (.bool true) ∧ Below W.heap.size W w'
  kept : ∀ W, WrEnv w W b0 o g A B c d g1 c1 g2 c2 ns ts → Calls Try.prog 17 #[.slice (some ⟨g2, 0, none⟩) ts.length c2, .slice B ts.length d] W fun e w' => e = .returned (.bool true) ∧ Below W.heap.size W w'

theorem wr_out (HC : CheckAll) (HE : EncodeAll) {w : World} {b0 o g : Nat} {A B : Option Addr} {c d g1 c1 g2 c2 : Nat} {ns : List Int} {ts : List ByteArray} {X : ByteArray} {E : Int} (harg : ArgOk c d ns ts) (hBn : B = none → ts = [] ∧ d = 0) (he : encV ns ts = .tuple #[.string X, .int .i64 E]) :
    WrOut w b0 o g A B c d g1 c1 g2 c2 ns ts X E (ckE ns ts : Int) := by
  have own : ∀ W, WrEnv w W b0 o g A B c d g1 c1 g2 c2 ns ts → IntsAt W (some ⟨g1, 0, none⟩) ns ∧ StrsAt W (some ⟨g2, 0, none⟩) ts ∧ ArgOk c1 c2 ns ts := fun W h => by
    have r := row_cap h.r1
    have r2 := row_cap h.r2
    exact ⟨IntsAt.own h.r1 rfl, lent_strs h.r2, harg.n8, harg.t16, harg.nr, harg.tr, r.1, by omega, r.2, r2.2⟩
  refine ⟨fun W h => ?_, fun W h => ?_, fun W h => ?_, fun W h => ?_, fun W h => ?_, fun W h => ?_⟩
  · have := HE _ _ c1 c2 ns ts W (own W h).1 (own W h).2.1 (own W h).2.2
    rwa [he] at this
  · have := encode_any A B c d ns ts W h.p.1 h.p.2.1 harg.range
    rwa [he] at this
  · exact HC _ _ c1 c2 ns ts W (own W h).1 (own W h).2.1 (own W h).2.2
  · exact check_any A B c d ns ts W h.p.1 h.p.2.1 harg.range.1 harg.range.2.1 harg.range.2.2.1 harg.range.2.2.2
  · exact same_self _ _ A B c1 c2 c d ns ts W (own W h).1 (own W h).2.1 h.p.1 h.p.2.1 harg.range.1 harg.range.2.1
  · exact (kept_any b0 g2 c2 (.slice B ts.length d) ts W ⟨B, d, rfl, h.p.2.1, hBn, harg.t16, harg.tr, harg.tc, harg.d63⟩ h.r2).mono fun e w' ⟨h1, n, h2⟩ => ⟨h1, by rw [h2]; exact below_drewN (Below.refl _ _) n⟩

set_option maxRecDepth 20000 in
set_option maxHeartbeats 4000000 in
theorem writes_walk (HC : CheckAll) (HE : EncodeAll) (HN : NumberAll) (A B : Option Addr) (c d : Nat) (ns : List Int) (ts : List ByteArray) (x : Int) (hx : -9223372036854775808 ≤ x ∧ x ≤ 9223372036854775807) (w : World) (ha : IntsAt w A ns) (hb : StrsAt w B ts) (harg : ArgOk c d ns ts) (hBn : B = none → ts = [] ∧ d = 0) (hAn : A = none → ns.length = 0 ∧ c = 0) :
    Calls Try.prog 3 #[.agg #[.slice A ns.length c, .slice B ts.length d], .int .i64 x] w fun e w' => e = .returned (.bool true) ∧ Below w.heap.size w w' := by
  obtain ⟨i1, hi', hz0', hz1', hz2'⟩ := info_parts Try.infoInt
  have HEnv := Lib.hid (PkEnv.start (c := c) (d := d) ha hb)
  have HArg := Lib.hid harg
  have HAn := Lib.hid hAn
  have HL := Lib.hid (fun W (h : StrsAt W B ts) => lend_any (.slice B ts.length d) ts W ⟨B, d, rfl, h, hBn, harg.t16, harg.tr, harg.tc, harg.d63⟩)
  have p1 : (ns.length : Int) ≤ 17592186044416 := by have := harg.n8; omega
  have hW := Lib.hid (pkworks HE)
  obtain ⟨X, E, hXE⟩ := encV_form ns ts
  have HOut := Lib.hid (fun o g1 c1 g2 c2 => wr_out HC HE (w := w) (b0 := w.heap.size + 1) (o := o) (g := w.heap.size) (A := A) (B := B) (g1 := g1) (c1 := c1) (g2 := g2) (c2 := c2) harg hBn hXE)
  obtain ⟨Y, F, hYF⟩ := numV_form x
  have N1 := fun W => HN x W hx
  have N2 := fun W => number_any x W hx
  rw [hYF] at N1 N2
  have HN1 := Lib.hid N1
  have HN2 := Lib.hid N2
  have t1 := text_eq X
  have t2 := text_eq Y
  have hsz1 : (w.alloc (.cells #[.slice A ns.length c, .slice B ts.length d] 25)).heap.size = w.heap.size + 1 := (blk1 w _).1
  generalize ((ckE ns ts : Nat) : Int) = K at *
  clear ha hb harg hBn hAn N1 N2 hXE hYF HC HE HN hx
  go_enter Try.func3, Try.ntmps3
  go_upto_region 1 with fail
  generalize w.alloc (.cells #[.slice A ns.length c, .slice B ts.length d] 25) = W1 at *
  rw [← hsz1] at HOut
  have HZ := Lib.hid hsz1
  clear hsz1
  refine wp_region_said 9 [14, 15, 16, 17, 18, 19, 20, 21, 5]
    [.own (S14 W1.heap.size) (fun _ _ _ h hb => h.keep hb), .is (.pointer (some ⟨w.heap.size, 0, none⟩)), .is (.slice A ns.length c), .own (S17 W1.heap.size ns) (fun _ _ _ h hb => h.keep hb),
     .is (.pointer (some ⟨w.heap.size, 1, none⟩)), .is (.slice B ts.length d), .own (S20 W1.heap.size ts) (fun _ _ _ h hb => h.keep hb), .own (S21 W1.heap.size ns ts) (fun _ _ _ h hb => h.keep hb), .blk 25 #[.slice none 0 0, .slice none 0 0]]
    (fun W => PkEnv w W w.heap.size A B c d ns ts) (by kernel_rfl) (by kernel_rfl) (by kernel_rfl) (by kernel_rfl) (by kernel_rfl) (fun W W' h hb => h.step hb) HEnv.out ?steps ?last
  case steps =>
    simp only [List.take_succ_cons, List.take_zero]
    refine ⟨?_, ?_, ?_, ?_, ?_, ?_, ?_, ?_, ?_, trivial⟩
    all_goals
      intro vs W ρ hρ hc hf hg hI hH hd R' hR
      have k0 := hI.c0
      have k1 := hI.c1
      have HR := Lib.hid hR
      have HIe := Lib.hid hI
      simp [depsOf, Region.binds, sayAt, Say.holds] at hd
      clear hR hI
    case refine_1 =>
      go_simp
      exact HR.out _ _ ⟨W.heap.size, hH, rfl, heap_alloc_new W _⟩ ((Below.refl _ _).alloc (Nat.le_refl _) _) (fun h => by cases h)
    case refine_4 =>
      obtain ⟨⟨g, hg1, hg2, hg3⟩, hv2⟩ := hd
      obtain ⟨v', w', hr, h2, h3, g', cap, h4, _⟩ := run_append_empty (P := Try.prog) W W1.heap.size 22 22 3 i1 (.int .i64 0) 8 Try.underlying22 hi' hz0' hz1' hz2' rfl g hg3 hg1 A ns.length c (intV ns) (intV_len ns) HAn.out (fun ad e => by subst e; exact IntsAt.news HIe.out.1) (fun u hu => by obtain ⟨y, _, rfl⟩ := List.mem_map.1 hu; rfl) (by unfold maxLen; omega) (by have := HArg.out.n8; omega)
      have e0 : ρ (.tmp 14) = .slice (some ⟨g, 0, none⟩) 0 0 := by rw [hρ]; simp [pick, hg2]
      have e2 : ρ (.tmp 16) = .slice A ns.length c := by rw [hρ]; simp [pick, hv2]
      rw [if_pos (by simp [Region.wanted])]
      unfold execOp
      simp only [resolve, invoke, builtin, Sem.run_bind, Sem.run_pure, Result.andThen_ok, List.map_toArray, List.map_cons, List.map_nil, e0, e2, hr, floatUpon]
      exact HR.out _ _ ⟨h2, g', cap, h4⟩ h3 (fun h => by cases h)
    case refine_7 =>
      go_simp
      refine (HL.out _ HIe.out.2.1).mono ?_
      rintro e w' ⟨g, cap, rfl, hown, hb⟩
      exact ⟨_, rfl, HR.out _ _ ⟨g, cap, rfl, ownsRow_le hown hH⟩ hb (fun h => by cases h)⟩
    case refine_8 =>
      obtain ⟨⟨r1, g1, c1, e1⟩, g2, c2, e2, r2⟩ := hd
      rw [e1] at r1
      go_simp
      exact HR.out _ _ ⟨_, _, rfl, ⟨r1, g1, c1, rfl⟩, g2, c2, rfl, r2⟩ (Below.refl _ _) (fun h => by cases h)
    case refine_9 =>
      go_simp
      exact HR.out _ _ ⟨W.heap.size, hH, by simp, rfl, heap_alloc_new W _⟩ ((Below.refl _ _).alloc (Nat.le_refl _) _) (fun _ => rfl)
    all_goals
      go_simp
      first
        | exact HR.out _ _ (by simp [sayAt, Say.holds]) (Below.refl _ _) (by simp [sayAt, Say.isBlk])
        | trace_state
  case last =>
    intro vs W hI hb hg hd
    obtain ⟨v1, v2, e21, ⟨r1, g1, c1, rfl⟩, g2, c2, rfl, r2⟩ := hg 7 (by omega)
    obtain ⟨o, ho1, ho2, g8, ho⟩ := hg 8 (by omega)
    simp only [List.take_succ_cons, List.take_zero, List.drop_succ_cons, List.drop_zero, putAll, Act.put, List.setIfInBounds_toArray, List.set_cons_succ, List.set_cons_zero, Nat.zero_add, Nat.reduceAdd]
    rw [e21, g8]
    have ko : Cel W o 25 [.slice none 0 0, .slice none 0 0] := ho
    have ks1 := ko.set (i := 0) (v := .slice (some ⟨g1, 0, none⟩) ns.length c1)
    have ks := ks1.set (i := 1) (v := .slice (some ⟨g2, 0, none⟩) ts.length c2)
    have q0 := ko.cell (i := 0) rfl
    have q1 := ko.cell (i := 1) rfl
    have f0 := ko.free (i := 0)
    have f1 := ko.free (i := 1)
    have P3 : WrEnv w ((W.setCell ⟨o, 0, none⟩ (.slice (some ⟨g1, 0, none⟩) ns.length c1)).setCell ⟨o, 1, none⟩ (.slice (some ⟨g2, 0, none⟩) ts.length c2)) W1.heap.size o w.heap.size A B c d g1 c1 g2 c2 ns ts :=
      ⟨HEnv.out.step ((hb.setCell ho1 _).setCell ho1 _), ks, row_far (row_far r1 ko (by decide)) ks1 (by decide), row_far (row_far r2 ko (by decide)) ks1 (by decide)⟩
    have E3 := Lib.hid P3
    have HO := Lib.hid (HOut.out o g1 c1 g2 c2)
    clear e21 g8 hg hd hI hb ho ko ks1 ks r1 r2 P3 HEnv HOut HArg HAn HL
    go_upto_region 2 with fail
    generalize (W.setCell ⟨o, 0, none⟩ (.slice (some ⟨g1, 0, none⟩) ns.length c1)).setCell ⟨o, 1, none⟩ (.slice (some ⟨g2, 0, none⟩) ts.length c2) = W3 at *
    clear q0 q1 f0 f1
    have q0 := E3.out.cel.cell (i := 0) rfl
    have q1 := E3.out.cel.cell (i := 1) rfl
    go_wp2_with fail
    refine (HO.out.enc _ E3.out).mono ?_
    rintro e w4 ⟨rfl, hb⟩
    have E4 := Lib.hid (E3.out.step hb)
    clear hb q0 q1 E3
    have k0 := E4.out.p.c0
    have k1 := E4.out.p.c1
    go_wp2_with fail
    refine (HO.out.renc _ E4.out).mono ?_
    rintro e w5 ⟨rfl, hb⟩
    have E5 := Lib.hid (E4.out.step hb)
    clear hb k0 k1 E4
    go_wp2_with fail
    refine (HN1.out _).mono ?_
    rintro e w6 ⟨rfl, hb⟩
    have E6 := Lib.hid (E5.out.step hb)
    clear hb E5
    go_wp2_with fail
    refine (HN2.out _).mono ?_
    rintro e w7 ⟨rfl, hb⟩
    have E7 := Lib.hid (E6.out.step hb)
    clear hb E6
    go_upto_region 6 with fail
    refine wp_region_said 40 [42, 43, 44, 45, 46, 47, 48, 49, 50, 51, 52, 53, 54, 55, 56, 57, 58, 59, 60, 61, 62, 63, 64, 65, 66, 67, 68, 69, 70, 71, 72, 73, 74, 75, 76, 77, 78, 79, 80, 81]
      [.is (.string X), .is (.string X), .is (.bool true), .is (.bool true), .is (.int .i64 E), .is (.int .i64 E), .is (.bool true), .is (.bool true), .is (.bool true), .is (.agg #[.slice (some ⟨g1, 0, none⟩) ns.length c1, .slice (some ⟨g2, 0, none⟩) ts.length c2]), .is (.int .i64 K), .is (.agg #[.slice A ns.length c, .slice B ts.length d]), .is (.int .i64 K), .is (.bool true), .is (.bool true), .is (.bool true), .is (.string Y), .is (.string Y), .is (.bool true), .is (.bool true), .is (.bool true), .is (.int .i64 F), .is (.int .i64 F), .is (.bool true), .is (.bool true), .is (.bool true), .is (.agg #[.slice (some ⟨g1, 0, none⟩) ns.length c1, .slice (some ⟨g2, 0, none⟩) ts.length c2]), .is (.agg #[.slice A ns.length c, .slice B ts.length d]), .is (.bool true), .is (.bool true), .is (.bool true), .is (.pointer (some ⟨o, 1, none⟩)), .is (.slice (some ⟨g2, 0, none⟩) ts.length c2), .is (.pointer (some ⟨w.heap.size, 1, none⟩)), .is (.slice B ts.length d), .is (.bool true), .is (.bool true), .is (.bool true), .is (.bool true), .is (.bool true)]
      (fun W => WrEnv w W W1.heap.size o w.heap.size A B c d g1 c1 g2 c2 ns ts) (by kernel_rfl) (by kernel_rfl) (by kernel_rfl) (by kernel_rfl) (by kernel_rfl) (fun W W' h hb => h.step hb) E7.out ?steps ?last
    case steps =>
      simp only [List.take_succ_cons, List.take_zero]
      refine ⟨?_, ?_, ?_, ?_, ?_, ?_, ?_, ?_, ?_, ?_, ?_, ?_, ?_, ?_, ?_, ?_, ?_, ?_, ?_, ?_, ?_, ?_, ?_, ?_, ?_, ?_, ?_, ?_, ?_, ?_, ?_, ?_, ?_, ?_, ?_, ?_, ?_, ?_, ?_, ?_, trivial⟩
      all_goals
        intro vs W ρ hρ hc hf hg hI hH hd R' hR
        have k0 := hI.p.c0
        have k1 := hI.p.c1
        have q0 := hI.cel.cell (i := 0) rfl
        have q1 := hI.cel.cell (i := 1) rfl
        have HR := Lib.hid hR
        have HIe := Lib.hid hI
        simp [depsOf, Region.binds, sayAt, Say.holds] at hd
        clear hR hI
        simp only [Region.wanted, hd, boolOf]
        go_simp
      case refine_11 =>
        refine (HO.out.chk _ HIe.out).mono ?_
        rintro e w' ⟨rfl, hb⟩
        exact ⟨_, rfl, HR.out _ _ (by simp [sayAt, Say.holds]) hb (by simp [sayAt, Say.isBlk])⟩
      case refine_13 =>
        refine (HO.out.rchk _ HIe.out).mono ?_
        rintro e w' ⟨rfl, hb⟩
        exact ⟨_, rfl, HR.out _ _ (by simp [sayAt, Say.holds]) hb (by simp [sayAt, Say.isBlk])⟩
      case refine_29 =>
        refine (HO.out.same _ HIe.out).mono ?_
        rintro e w' ⟨rfl, hb⟩
        exact ⟨_, rfl, HR.out _ _ (by simp [sayAt, Say.holds]) hb (by simp [sayAt, Say.isBlk])⟩
      case refine_36 =>
        refine (HO.out.kept _ HIe.out).mono ?_
        rintro e w' ⟨rfl, hb⟩
        exact ⟨_, rfl, HR.out _ _ (by simp [sayAt, Say.holds]) hb (by simp [sayAt, Say.isBlk])⟩
      case refine_39 =>
        refine (hW.out _).mono ?_
        rintro e w' ⟨rfl, hb⟩
        exact ⟨_, rfl, HR.out _ _ (by simp [sayAt, Say.holds]) hb (by simp [sayAt, Say.isBlk])⟩
      all_goals
        first
          | exact HR.out _ _ (by simp [sayAt, Say.holds]) (Below.refl _ _) (by simp [sayAt, Say.isBlk])
          | trace_state
    case last =>
      intro vs W hI hb hg hd
      have g39 := hg 39 (by omega)
      simp only [sayAt, Say.holds, List.getD_cons_succ, List.getD_cons_zero] at g39
      simp only [List.take_succ_cons, List.take_zero, List.drop_succ_cons, List.drop_zero, putAll, Act.put, List.setIfInBounds_toArray, List.set_cons_succ, List.set_cons_zero, Nat.zero_add, Nat.reduceAdd]
      rw [g39]
      have HB := Lib.hid hI.p.2.2.2
      clear g39 hg hd hb hI
      go_wp2_with fail
      go_ret
      exact ⟨rfl, HB.out⟩

end Pk
end Go.Proofs.Ytklbahagcdfccaa
