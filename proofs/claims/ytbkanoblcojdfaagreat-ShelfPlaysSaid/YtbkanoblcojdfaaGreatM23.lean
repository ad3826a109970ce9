/- Parts of the proof, joined: ShL8, ShL10, ShL11, ShL12, ShL13; their conditions stand with each. -/
import Derived.Test.YtbkanoblcojdfaaGreatM5
import Derived.Test.YtbkanoblcojdfaaGreatM9
import Derived.Test.YtbkanoblcojdfaaGreatM22

namespace Go.Proofs.YtbkanoblcojdfaaGreat
namespace Sh
open Go.RowKit Bk Ch Lt Rc Tr
attribute [local go_sem ↓] Go.wp_at_zero Go.wp_at_succ
attribute [local go_sem] floatUpon pick
theorem ok32 {l : List Vr} (h : ChOk l) : l.length * 32 ≤ 140737488351232 := by have := h.len; omega
theorem okRng {l : List Vr} (h : ChOk l) : ∀ x ∈ l, VrRng x := fun x hx => by
  obtain ⟨h1, h2, h3, _⟩ := h.each x hx
  exact ⟨by omega, by unfold reachBytes; omega⟩
theorem okChk {l : List Vr} (h : ChOk l) : (chkP l).2 = 0 := chk_ok.2 h
section
variable {W : World} {F : Nat → Prop} {g bc bp : Nat} {v : Value} {K : List KI} {P : List RI} {s : Shf}
set_option maxRecDepth 20000 in
set_option maxHeartbeats 8000000 in
theorem lread_any (h : LAt W F g bc bp v K P s) (hs : ShOk s) (key : ByteArray) (t : Int) (hk : key.size ≤ maxLen) :
    Calls Tryz.prog 32 #[.pointer (some ⟨g, 0, none⟩), .string key, .int .i64 t] W fun e w' => e = .returned (.tuple #[.int .i64 (readP s key t).1, .agg (vcs (readP s key t).2).toArray]) ∧ Below W.heap.size W w' := by
  have HHe := Lib.hid (fun V (hb : Below W.heap.size W V) => lheld_any (h.below hb) hs key false)
  have HH := Lib.hid (fun V (hb : Below W.heap.size W V) => h.below hb)
  obtain ⟨x, hxl, hkv, _, hlk⟩ := h.chain hk
  have HLk := Lib.hid (fun V (hb : Below W.heap.size W V) => hlk V (h.below hb))
  have hok := hs.kok.chain key
  have hat : atP (chainK s.k key) t = ((atV (chainK s.k key) t).1, (atV (chainK s.k key) t).2, 0) := by unfold atP; rw [if_neg (by rw [okChk hok]; simp)]
  have HE := Lib.hid (show readP s key t = if t < s.over then (4, noVr) else if heldB s key false = true then (3, noVr) else if (atV (chainK s.k key) t).2 = false then (0, noVr) else if (atV (chainK s.k key) t).1.dead = true then (2, (atV (chainK s.k key) t).1) else (1, (atV (chainK s.k key) t).1) from rfl)
  rw [← hxl] at hok hat HE
  have hT := fun V (hb : Below W.heap.size W V) => lat_any x.A x.c x.k.l t V (hkv.row.vrs.below hb) (ok32 hok) (okRng hok) hkv.le
  obtain ⟨⟨xt, xs, xd⟩, bb, hx⟩ : ∃ x1 b, atV x.k.l t = (x1, b) := ⟨_, _, rfl⟩
  rw [hat, hx] at hT
  rw [hx] at HE
  have HT : Hid (∀ V, Below W.heap.size W V → Calls Tryz.prog 86 #[.slice x.A x.k.l.length x.c, .int .i64 t] V fun e' w' => e' = .returned (.tuple #[.agg #[.int .i64 xt, .string xs, .bool xd], .bool bb, .int .i64 0]) ∧ Below V.heap.size V w') := Lib.hid hT
  generalize heldB s key false = hh at HHe HE
  generalize x.k.l.length = xn at HT HLk
  generalize x.A = xA at HT HLk
  generalize x.c = xc at HT HLk
  clear h hs hok hat hT hx hlk hkv hxl
  go_enter Tryz.func32, Tryz.ntmps32
  go_upto_region 1 with fail
  have hR0 : Cel (W.alloc (.cells #[.int .i64 0, .string ⟨#[]⟩, .bool false] 77)) W.heap.size 77 [.int .i64 0, .string ⟨#[]⟩, .bool false] := (blk1 W _).2
  have hB0 : Below W.heap.size W (W.alloc (.cells #[.int .i64 0, .string ⟨#[]⟩, .bool false] 77)) := (Below.refl _ W).alloc (Nat.le_refl _) _
  generalize hW0 : W.alloc (.cells #[.int .i64 0, .string ⟨#[]⟩, .bool false] 77) = W0 at hR0 hB0 ⊢
  clear hW0
  have HR0 := Lib.hid hR0
  have HB0 := Lib.hid hB0
  have s3 := (HH.out _ hB0).cel.cell (i := 3) rfl
  clear hR0 hB0
  by_cases ho : t < s.over
  · have E := Lib.hid (show readP s key t = (4, noVr) by rw [HE.out, if_pos ho])
    have zq := fun i => HR0.out.free (i := i)
    have q0 := HR0.out.cell (i := 0) rfl
    have q1 := HR0.out.cell (i := 1) rfl
    have q2 := HR0.out.cell (i := 2) rfl
    clear HE
    go_wp2_with fail
    have HF := Lib.hid (set3_cel (v0 := .int .i64 0) (v1 := .string ⟨#[]⟩) (v2 := .bool false) HR0.out)
    have z0 := HF.out.cell (i := 0) rfl
    have z1 := HF.out.cell (i := 1) rfl
    have z2 := HF.out.cell (i := 2) rfl
    unfold set3 at z0 z1 z2
    exact bodyPost_ret (v := .tuple #[.int .i64 4, .agg #[.int .i64 0, .string ⟨#[]⟩, .bool false]]) (by simp [results, Tryz.results32, go_sem, z0, z1, z2]) rfl ⟨by rw [E.out]; rfl, set3_below HB0.out (Nat.le_refl _)⟩
  have HE2 := Lib.hid (show readP s key t = if hh = true then (3, noVr) else if bb = false then (0, noVr) else if xd = true then (2, ⟨xt, xs, xd⟩) else (1, ⟨xt, xs, xd⟩) by rw [HE.out, if_neg ho])
  clear HE
  go_wp2_with fail
  refine (HHe.out _ HB0.out).mono ?_
  rintro e1 w1 ⟨rfl, hb⟩
  have HB1 := Lib.hid (HB0.out.trans (hb.mono HB0.out.size))
  have HR1 := Lib.hid (HR0.out.below hb)
  clear hb HHe s3 HB0 HR0
  have zq := fun i => HR1.out.free (i := i)
  have q0 := HR1.out.cell (i := 0) rfl
  have q1 := HR1.out.cell (i := 1) rfl
  have q2 := HR1.out.cell (i := 2) rfl
  cases hh with
  | true =>
    have E := Lib.hid (show readP s key t = (3, noVr) by rw [HE2.out, if_pos rfl])
    clear HE2
    go_wp2_with fail
    have HF := Lib.hid (set3_cel (v0 := .int .i64 0) (v1 := .string ⟨#[]⟩) (v2 := .bool false) HR1.out)
    have z0 := HF.out.cell (i := 0) rfl
    have z1 := HF.out.cell (i := 1) rfl
    have z2 := HF.out.cell (i := 2) rfl
    unfold set3 at z0 z1 z2
    exact bodyPost_ret (v := .tuple #[.int .i64 3, .agg #[.int .i64 0, .string ⟨#[]⟩, .bool false]]) (by simp [results, Tryz.results32, go_sem, z0, z1, z2]) rfl ⟨by rw [E.out]; rfl, set3_below HB1.out (Nat.le_refl _)⟩
  | false =>
    have HE3 := Lib.hid (show readP s key t = if bb = false then (0, noVr) else if xd = true then (2, ⟨xt, xs, xd⟩) else (1, ⟨xt, xs, xd⟩) by rw [HE2.out, if_neg (by simp)])
    have s0 := (HH.out _ HB1.out).cel.cell (i := 0) rfl
    have l0 := HLk.out _ HB1.out
    clear HE2 q0 q1 q2 zq
    go_wp2_with fail
    refine (HT.out _ HB1.out).mono ?_
    rintro e3 w3 ⟨rfl, hb⟩
    have HB3 := Lib.hid (HB1.out.trans (hb.mono HB1.out.size))
    have HR3 := Lib.hid (HR1.out.below hb)
    clear hb HT s0 l0 HLk HB1 HR1
    have zq := fun i => HR3.out.free (i := i)
    have q0 := HR3.out.cell (i := 0) rfl
    have q1 := HR3.out.cell (i := 1) rfl
    have q2 := HR3.out.cell (i := 2) rfl
    go_upto_region 6 with fail
    clear zq q0 q1 q2
    obtain ⟨W4, hW4⟩ : ∃ W4, set3 w3 W.heap.size (.int .i64 xt) (.string xs) (.bool xd) = W4 := ⟨_, rfl⟩
    have hR4 := set3_cel (v0 := .int .i64 xt) (v1 := .string xs) (v2 := .bool xd) HR3.out
    have hB4 := set3_below (R := W.heap.size) (v0 := .int .i64 xt) (v1 := .string xs) (v2 := .bool xd) HB3.out (Nat.le_refl _)
    rw [hW4] at hR4 hB4
    have hW5 := hW4
    unfold set3 at hW5
    rw [hW5]
    clear hW4 hW5 HB3 HR3
    have HB4 := Lib.hid hB4
    have HR4 := Lib.hid hR4
    clear hB4
    have zq := fun i => hR4.free (i := i)
    have q0 := hR4.cell (i := 0) rfl
    have q1 := hR4.cell (i := 1) rfl
    have q2 := hR4.cell (i := 2) rfl
    clear hR4
    cases bb with
    | false =>
      have E := Lib.hid (show readP s key t = (0, noVr) by rw [HE3.out, if_pos rfl])
      clear HE3
      go_wp2_with fail
      have HF := Lib.hid (set3_cel (v0 := .int .i64 0) (v1 := .string ⟨#[]⟩) (v2 := .bool false) HR4.out)
      have z0 := HF.out.cell (i := 0) rfl
      have z1 := HF.out.cell (i := 1) rfl
      have z2 := HF.out.cell (i := 2) rfl
      unfold set3 at z0 z1 z2
      exact bodyPost_ret (v := .tuple #[.int .i64 0, .agg #[.int .i64 0, .string ⟨#[]⟩, .bool false]]) (by simp [results, Tryz.results32, go_sem, z0, z1, z2]) rfl ⟨by rw [E.out]; rfl, set3_below HB4.out (Nat.le_refl _)⟩
    | true =>
      have HF := Lib.hid (set3_cel (v0 := .int .i64 xt) (v1 := .string xs) (v2 := .bool xd) HR4.out)
      have HBF := Lib.hid (set3_below (R := W.heap.size) (v0 := .int .i64 xt) (v1 := .string xs) (v2 := .bool xd) HB4.out (Nat.le_refl _))
      cases xd with
      | true =>
        have E := Lib.hid (show readP s key t = (2, ⟨xt, xs, true⟩) by rw [HE3.out, if_neg (by simp), if_pos rfl])
        clear HE3
        go_upto_region 9 with fail
        go_region
        all_goals
          go_wp2_with fail
          have z0 := HF.out.cell (i := 0) rfl
          have z1 := HF.out.cell (i := 1) rfl
          have z2 := HF.out.cell (i := 2) rfl
          unfold set3 at z0 z1 z2
          exact bodyPost_ret (v := .tuple #[.int .i64 2, .agg #[.int .i64 xt, .string xs, .bool true]]) (by simp [results, Tryz.results32, go_sem, z0, z1, z2]) rfl ⟨by rw [E.out]; rfl, (by first | exact HBF.out.drew | exact HBF.out)⟩
      | false =>
        have E := Lib.hid (show readP s key t = (1, ⟨xt, xs, false⟩) by rw [HE3.out, if_neg (by simp), if_neg (by simp)])
        clear HE3
        go_upto_region 10 with fail
        go_region
        all_goals
          go_wp2_with fail
          have z0 := HF.out.cell (i := 0) rfl
          have z1 := HF.out.cell (i := 1) rfl
          have z2 := HF.out.cell (i := 2) rfl
          unfold set3 at z0 z1 z2
          exact bodyPost_ret (v := .tuple #[.int .i64 1, .agg #[.int .i64 xt, .string xs, .bool false]]) (by simp [results, Tryz.results32, go_sem, z0, z1, z2]) rfl ⟨by rw [E.out]; rfl, (by first | exact HBF.out.drew | exact HBF.out)⟩
end
end Sh
end Go.Proofs.YtbkanoblcojdfaaGreat

namespace Go.Proofs.YtbkanoblcojdfaaGreat
namespace Sh
open Go.RowKit Bk Ch Lt Rc Tr
attribute [local go_sem ↓] Go.wp_at_zero Go.wp_at_succ
attribute [local go_sem] floatUpon pick
section
variable {W : World} {F : Nat → Prop} {g bc bp : Nat} {v : Value} {K : List KI} {P : List RI} {s : Shf}
set_option maxRecDepth 20000 in
set_option maxHeartbeats 4000000 in
theorem lkeys1_any (h : LAt W F g bc bp v K P s) (hs : ShOk s) (b : Nat) (_hb : b < W.heap.size) (h1 : W.cell? ⟨b, 0, none⟩ = some (.pointer (some ⟨g, 0, none⟩))) (k0 : ByteArray) :
    Calls Tryz.prog 160 #[.string k0, .pointer (some ⟨b, 0, none⟩)] W fun e w' => e = .returned (.bool (heldB s k0 false)) ∧ Below W.heap.size W w' := by
  have HHe := Lib.hid (fun V (hv : Below W.heap.size W V) => lheld_any (h.below hv) hs k0 false)
  have HB := Lib.hid (Below.refl W.heap.size W)
  clear h hs _hb
  go_enter Tryz.func160, Tryz.ntmps160
  go_wp2_with fail
  refine (HHe.out _ HB.out).mono ?_
  rintro e1 w1 ⟨rfl, hb1⟩
  have HB1 := Lib.hid (HB.out.trans (hb1.mono HB.out.size))
  clear hb1
  go_wp2_with fail
  go_ret
  exact ⟨rfl, HB1.out⟩
set_option maxRecDepth 20000 in
set_option maxHeartbeats 4000000 in
theorem lkeys_any (h : LAt W F g bc bp v K P s) (hs : ShOk s) (b : Nat) (hb : b < W.heap.size) (h1 : W.cell? ⟨b, 0, none⟩ = some (.pointer (some ⟨g, 0, none⟩))) (A : Option Addr) (c : Nat) (l : List ByteArray) (hA : StrsAt W A l) (hl : l.length ≤ 1024) :
    Calls Tryz.prog 159 #[.slice A l.length c, .func (.func 160) #[] #[.pointer (some ⟨b, 0, none⟩)]] W fun e w' => e = .returned (.bool (l.any fun y => heldB s y false)) ∧ Below W.heap.size W w' := by
  have HC := Lib.hid (fun (k0 : ByteArray) V (hv : Below W.heap.size W V) => lkeys1_any (h.below hv) hs b (Nat.lt_of_lt_of_le hb hv.size) ((cell_kept hv _ hb).trans h1) k0)
  have HA := Lib.hid (fun V (hv : Below W.heap.size W V) => hA.below hv)
  have hlen : (l.length : Int) ≤ 1024 := by omega
  have HI : Hid (Calls Tryz.prog 229 #[.slice A l.length c, .func (.func 160) #[] #[.pointer (some ⟨b, 0, none⟩)]] W fun e w' => (∃ n : Int, e = .returned (.int .i64 n) ∧ ((n = -1 ∧ (l.any fun y => heldB s y false) = false) ∨ (0 ≤ n ∧ (l.any fun y => heldB s y false) = true))) ∧ Below W.heap.size W w') := Lib.hid (by
    clear h hs hb h1 hA hl
    go_enter Tryz.func229, Tryz.ntmps229
    go_wp2_with fail
    go_loopw [8] (fun iv wr => ∃ j : Nat, j ≤ l.length ∧ iv = .int .i64 (j : Int) ∧ Hid (∀ i (h : i < l.length), i < j → heldB s l[i] false = false) ∧ Hid (Below W.heap.size W wr)) (fun iv _ => l.length - (RowKit.intOf iv).toNat)
    case atStart => exact ⟨0, Nat.zero_le _, rfl, Lib.hid (fun i _ h => absurd h (by omega)), Lib.hid (Below.refl _ _)⟩
    case round =>
      obtain ⟨j, hj, rfl, hall, hb⟩ := hrel
      by_cases hlt : j < l.length
      · have pj : (j : Int) < (l.length : Int) := by omega
        obtain ⟨ad, rfl, _, hcl⟩ := HA.out _ hb.out (by omega)
        have x0 := hcl j hlt
        have HCj := Lib.hid (HC.out l[j])
        cases he : heldB s l[j] false with
        | true =>
          have HE := Lib.hid (show (l.any fun y => heldB s y false) = true from List.any_eq_true.2 ⟨_, List.getElem_mem hlt, he⟩)
          rw [he] at HCj
          generalize l[j] = k0 at x0 HCj
          have HB := hb
          clear hall he hcl HC hb
          go_wp2_with fail
          refine (HCj.out _ HB.out).mono ?_
          rintro e2 w2 ⟨rfl, hb2⟩
          have HB2 := Lib.hid (HB.out.trans (hb2.mono HB.out.size))
          clear hb2 HB HCj
          go_wp2_with fail
          go_ret
          exact ⟨⟨(j : Int), rfl, .inr ⟨by omega, HE.out⟩⟩, HB2.out⟩
        | false =>
          have HN := Lib.hid (show ∀ i (h : i < l.length), i < j + 1 → heldB s l[i] false = false from fun i h hi => by
            by_cases e1 : i = j
            · subst e1; exact he
            · exact hall.out i h (by omega))
          rw [he] at HCj
          generalize l[j] = k0 at x0 HCj
          have HB := hb
          clear hall he hcl HC hb
          go_wp2_with fail
          refine (HCj.out _ HB.out).mono ?_
          rintro e2 w2 ⟨rfl, hb2⟩
          have HB2 := Lib.hid (HB.out.trans (hb2.mono HB.out.size))
          clear hb2 HB HCj
          go_wp2_with fail
          go_roundw
          case rel => exact ⟨j + 1, by omega, by go_num, HN, HB2⟩
          case measure => simp [RowKit.intOf]; omega
      · obtain rfl : j = l.length := by omega
        have HE := Lib.hid (show (l.any fun y => heldB s y false) = false from List.any_eq_false.2 fun x hx => by
          obtain ⟨i, hi, rfl⟩ := List.getElem_of_mem hx
          rw [hall.out i hi hi]
          simp)
        have HB := hb
        clear hall hb HC
        go_wp2_with fail
        go_ret
        exact ⟨⟨-1, rfl, .inl ⟨rfl, HE.out⟩⟩, HB.out⟩)
  generalize (l.any fun y => heldB s y false) = bb at HI ⊢
  clear h hs hb h1 hA hl HC HA
  go_enter Tryz.func159, Tryz.ntmps159
  go_wp2_with fail
  refine HI.out.mono ?_
  rintro e1 w1 ⟨⟨n, rfl, hn⟩, hb⟩
  rcases hn with ⟨rfl, rfl⟩ | ⟨hn, rfl⟩
  · go_wp2_with fail
    go_ret
    exact ⟨rfl, hb⟩
  · go_wp2_with fail
    go_ret
    exact ⟨rfl, hb⟩
set_option maxRecDepth 20000 in
set_option maxHeartbeats 4000000 in
theorem lwrs1_any (h : LAt W F g bc bp v K P s) (hs : ShOk s) (b : Nat) (hb : b < W.heap.size) (h1 : W.cell? ⟨b, 0, none⟩ = some (.pointer (some ⟨g, 0, none⟩))) (k0 t0 : ByteArray) (d0 : Bool) :
    Calls Tryz.prog 162 #[.agg #[.string k0, .string t0, .bool d0], .pointer (some ⟨b, 0, none⟩)] W fun e w' => e = .returned (.bool (heldB s k0 true)) ∧ Below W.heap.size W w' := by
  have HHe := Lib.hid (fun V (hv : Below W.heap.size W V) => lheld_any (h.below hv) hs k0 true)
  have hb5 : Below W.heap.size W (W.alloc (.cells #[.string k0, .string t0, .bool d0] 45)) := (Below.refl _ W).alloc (Nat.le_refl _) _
  have h2 := (cell_kept hb5 _ hb).trans h1
  have HB := Lib.hid hb5
  clear hb5 h1
  clear h hs hb
  go_enter Tryz.func162, Tryz.ntmps162
  go_wp2_with fail
  refine (HHe.out _ HB.out).mono ?_
  rintro e1 w1 ⟨rfl, hb1⟩
  have HB1 := Lib.hid (HB.out.trans (hb1.mono HB.out.size))
  clear hb1
  go_wp2_with fail
  go_ret
  exact ⟨rfl, HB1.out⟩
set_option maxRecDepth 20000 in
set_option maxHeartbeats 4000000 in
theorem lwrs_any (h : LAt W F g bc bp v K P s) (hs : ShOk s) (b : Nat) (hb : b < W.heap.size) (h1 : W.cell? ⟨b, 0, none⟩ = some (.pointer (some ⟨g, 0, none⟩))) (A : Option Addr) (c : Nat) (l : List Wr) (hA : WrsAt W A l) (hl : l.length ≤ 1024) :
    Calls Tryz.prog 161 #[.slice A l.length c, .func (.func 162) #[] #[.pointer (some ⟨b, 0, none⟩)]] W fun e w' => e = .returned (.bool (l.any fun y => heldB s y.key true)) ∧ Below W.heap.size W w' := by
  have HC := Lib.hid (fun (k0 t0 : ByteArray) (d0 : Bool) V (hv : Below W.heap.size W V) => lwrs1_any (h.below hv) hs b (Nat.lt_of_lt_of_le hb hv.size) ((cell_kept hv _ hb).trans h1) k0 t0 d0)
  have HA := Lib.hid (fun V (hv : Below W.heap.size W V) => hA.below hv)
  have hlen : (l.length : Int) ≤ 1024 := by omega
  have HI : Hid (Calls Tryz.prog 230 #[.slice A l.length c, .func (.func 162) #[] #[.pointer (some ⟨b, 0, none⟩)]] W fun e w' => (∃ n : Int, e = .returned (.int .i64 n) ∧ ((n = -1 ∧ (l.any fun y => heldB s y.key true) = false) ∨ (0 ≤ n ∧ (l.any fun y => heldB s y.key true) = true))) ∧ Below W.heap.size W w') := Lib.hid (by
    clear h hs hb h1 hA hl
    go_enter Tryz.func230, Tryz.ntmps230
    go_wp2_with fail
    go_loopw [8] (fun iv wr => ∃ j : Nat, j ≤ l.length ∧ iv = .int .i64 (j : Int) ∧ Hid (∀ i (h : i < l.length), i < j → heldB s l[i].key true = false) ∧ Hid (Below W.heap.size W wr)) (fun iv _ => l.length - (RowKit.intOf iv).toNat)
    case atStart => exact ⟨0, Nat.zero_le _, rfl, Lib.hid (fun i _ h => absurd h (by omega)), Lib.hid (Below.refl _ _)⟩
    case round =>
      obtain ⟨j, hj, rfl, hall, hb⟩ := hrel
      by_cases hlt : j < l.length
      · have pj : (j : Int) < (l.length : Int) := by omega
        obtain ⟨ad, rfl, x0, x1, x2⟩ := wrs_at (HA.out _ hb.out) hlt
        have hcl := True.intro
        have HCj := Lib.hid (HC.out l[j].key l[j].shard l[j].dead)
        cases he : heldB s l[j].key true with
        | true =>
          have HE := Lib.hid (show (l.any fun y => heldB s y.key true) = true from List.any_eq_true.2 ⟨_, List.getElem_mem hlt, he⟩)
          rw [he] at HCj
          generalize l[j] = X at x0 x1 x2 HCj
          obtain ⟨k0, t0, d0⟩ := X
          simp only at x0 x1 x2 HCj
          have HB := hb
          clear hall he hcl HC hb
          go_wp2_with fail
          refine (HCj.out _ HB.out).mono ?_
          rintro e2 w2 ⟨rfl, hb2⟩
          have HB2 := Lib.hid (HB.out.trans (hb2.mono HB.out.size))
          clear hb2 HB HCj
          go_wp2_with fail
          go_ret
          exact ⟨⟨(j : Int), rfl, .inr ⟨by omega, HE.out⟩⟩, HB2.out⟩
        | false =>
          have HN := Lib.hid (show ∀ i (h : i < l.length), i < j + 1 → heldB s l[i].key true = false from fun i h hi => by
            by_cases e1 : i = j
            · subst e1; exact he
            · exact hall.out i h (by omega))
          rw [he] at HCj
          generalize l[j] = X at x0 x1 x2 HCj
          obtain ⟨k0, t0, d0⟩ := X
          simp only at x0 x1 x2 HCj
          have HB := hb
          clear hall he hcl HC hb
          go_wp2_with fail
          refine (HCj.out _ HB.out).mono ?_
          rintro e2 w2 ⟨rfl, hb2⟩
          have HB2 := Lib.hid (HB.out.trans (hb2.mono HB.out.size))
          clear hb2 HB HCj
          go_wp2_with fail
          go_roundw
          case rel => exact ⟨j + 1, by omega, by go_num, HN, HB2⟩
          case measure => simp [RowKit.intOf]; omega
      · obtain rfl : j = l.length := by omega
        have HE := Lib.hid (show (l.any fun y => heldB s y.key true) = false from List.any_eq_false.2 fun x hx => by
          obtain ⟨i, hi, rfl⟩ := List.getElem_of_mem hx
          rw [hall.out i hi hi]
          simp)
        have HB := hb
        clear hall hb HC
        go_wp2_with fail
        go_ret
        exact ⟨⟨-1, rfl, .inl ⟨rfl, HE.out⟩⟩, HB.out⟩)
  generalize (l.any fun y => heldB s y.key true) = bb at HI ⊢
  clear h hs hb h1 hA hl HC HA
  go_enter Tryz.func161, Tryz.ntmps161
  go_wp2_with fail
  refine HI.out.mono ?_
  rintro e1 w1 ⟨⟨n, rfl, hn⟩, hb⟩
  rcases hn with ⟨rfl, rfl⟩ | ⟨hn, rfl⟩
  · go_wp2_with fail
    go_ret
    exact ⟨rfl, hb⟩
  · go_wp2_with fail
    go_ret
    exact ⟨rfl, hb⟩
end
end Sh
end Go.Proofs.YtbkanoblcojdfaaGreat

namespace Go.Proofs.YtbkanoblcojdfaaGreat
namespace Sh
open Go.RowKit Bk Ch Lt Rc Tr
def Gr (F : Nat → Prop) (W w' : World) : Nat → Prop := fun k => F k ∨ (W.heap.size ≤ k ∧ k < w'.heap.size)
structure St (w w' : World) : Prop where
  os : w'.os = w.os
  tape : w'.tape = w.tape
  output : w'.output = w.output
theorem St.refl (w : World) : St w w := ⟨rfl, rfl, rfl⟩
theorem St.trans {a b c : World} (h : St a b) (k : St b c) : St a c := ⟨k.os.trans h.os, k.tape.trans h.tape, k.output.trans h.output⟩
theorem st_below {B : Nat} {w w' : World} (h : Below B w w') : St w w' := ⟨h.os, h.tape, h.output⟩
theorem st_grown {r : Option Nat} {w w' : World} (h : w.grownBy w' r) : St w w' := ⟨h.os, h.tape, h.output⟩
theorem st_turned {w w' : World} {b : Nat} (h : w.mapTurned w' b) : St w w' := by
  obtain ⟨es, clock, es', clock', _, rfl⟩ := h
  exact ⟨rfl, rfl, rfl⟩
theorem st_set (w : World) (a : Addr) (v : Value) : St w (w.setCell a v) := ⟨rfl, rfl, rfl⟩
theorem st_row (w : World) (b : Nat) (r : Array Value) : St w (w.setRow b r) := ⟨rfl, rfl, rfl⟩
structure Far (F : Nat → Prop) (w w' : World) : Prop extends Away F w w' where
  st : St w w'
theorem Far.refl (F : Nat → Prop) (w : World) : Far F w w := ⟨Away.refl F w, St.refl w⟩
theorem Far.of {F : Nat → Prop} {w w' : World} (h : Below w.heap.size w w') : Far F w w' := ⟨Away.of h, st_below h⟩
theorem Far.trans {F : Nat → Prop} {a b c : World} (h : Far F a b) (k : Far F b c) : Far F a c := ⟨h.toAway.trans k.toAway, h.st.trans k.st⟩
structure NewR (X : Nat) (x : RI) : Prop where
  ks : 0 < x.l.keys.length → ∀ ad, x.A = some ad → X ≤ ad.block
  ws : 0 < x.l.ws.length → ∀ ad, x.B = some ad → X ≤ ad.block
section
variable {W V w' : World} {F F' : Nat → Prop} {g bc bp : Nat} {v : Value} {K : List KI} {P : List RI} {s : Shf}
theorem LAt.more (h : LAt W F g bc bp v K P s) (hF : ∀ k, F k → F' k) (hl : ∀ k, F' k → k < W.heap.size) : LAt W F' g bc bp v K P s :=
  ⟨h.cel, h.mc, h.mp, h.re, h.en, h.kv, h.pv, h.ek, h.ep, h.bd, fun k hk => hF k (h.fm k hk), fun x hx hp ad e => hF _ (h.fk x hx hp ad e), fun x hx => ⟨fun hp ad e => hF _ ((h.fp x hx).1 hp ad e), fun hp ad e => hF _ ((h.fp x hx).2 hp ad e)⟩, hl⟩
theorem LAt.gr (h : LAt W F g bc bp v K P s) (hs : W.heap.size ≤ w'.heap.size) (h2 : LAt w' F g bc bp v K P s) : LAt w' (Gr F W w') g bc bp v K P s :=
  h2.more (fun _ hk => .inl hk) (fun k hk => hk.elim (fun hf => Nat.lt_of_lt_of_le (h.fl k hf) hs) (fun h => h.2))
theorem LRep.gr (h : LRep W F g s) (hb : Below W.heap.size W w') : LRep w' (Gr F W w') g s := by
  obtain ⟨bc, bp, v, K, P, h⟩ := h
  exact ⟨bc, bp, v, K, P, h.gr hb.size (h.below hb)⟩
theorem LAt.mu_lt (h : LAt W F g bc bp v K P s) : ∀ k, Mu g bc bp v k → k < W.heap.size := fun k hk => h.fl k (h.fm k hk)
theorem pval_new {x : RI} {M : Nat → Prop} {X : Nat} (hv : RecVal V x.A x.B x.c x.d x.l) (hn : NewR X x) (hM : ∀ k, M k → k < X) : PVal V M x :=
  ⟨hv, fun hp ad e hm => by have := hn.ks hp ad e; have := hM _ hm; omega, fun hp ad e hm => by have := hn.ws hp ad e; have := hM _ hm; omega⟩
theorem away_mu {b : Nat} {M : Nat → Prop} (hs : V.heap.size ≤ w'.heap.size) (hk : ∀ k, k ≠ b → w'.heap[k]? = V.heap[k]?) (hM : M b) : Away M V w' := ⟨hs, fun k _ hn => hk k (fun e => hn (by rw [e]; exact hM))⟩
theorem newR_in {x : RI} {X : Nat} (hv : RecVal V x.A x.B x.c x.d x.l) (hn : NewR X x) (hX : W.heap.size ≤ X) (hs : V.heap.size ≤ w'.heap.size) : (0 < x.l.keys.length → ∀ ad, x.A = some ad → Gr F W w' ad.block) ∧ (0 < x.l.ws.length → ∀ ad, x.B = some ad → Gr F W w' ad.block) :=
  ⟨fun hp ad e => .inr ⟨Nat.le_trans hX (hn.ks hp ad e), by
      obtain ⟨a', e', h1, _⟩ := hv.ks hp
      obtain rfl := Option.some.inj (e.symm.trans e')
      omega⟩, fun hp ad e => .inr ⟨Nat.le_trans hX (hn.ws hp ad e), by
      obtain ⟨a', e', h1, _⟩ := hv.ws hp
      obtain rfl := Option.some.inj (e.symm.trans e')
      omega⟩⟩
theorem gr_lt (hF : ∀ k, F k → k < W.heap.size) (hs : W.heap.size ≤ w'.heap.size) : ∀ k, Gr F W w' k → k < w'.heap.size := fun k hk => hk.elim (fun h => Nat.lt_of_lt_of_le (hF k h) hs) (fun h => h.2)
theorem LAt.setP (h : LAt V F g bc bp v K P s) (hk : ∀ k, k ≠ bp → w'.heap[k]? = V.heap[k]?) (hs : V.heap.size ≤ w'.heap.size) {P' : List RI} {p' : List Rec} (hm : MapIs intQ w' bp (P'.map pp)) (hp : ∀ x ∈ P', PVal V (Mu g bc bp v) x) (hl : P'.map (·.l) = p')
    (hF : ∀ k, F k → F' k) (hfp : ∀ x ∈ P', (0 < x.l.keys.length → ∀ ad, x.A = some ad → F' ad.block) ∧ (0 < x.l.ws.length → ∀ ad, x.B = some ad → F' ad.block)) (hFl : ∀ k, F' k → k < w'.heap.size) : LAt w' F' g bc bp v K P' ⟨s.k, p', s.e, s.over⟩ :=
  have aw : Away (Mu g bc bp v) V w' := away_mu hs hk (.inr (.inr (.inl rfl)))
  have hgp : g ≠ bp := fun e => by
    obtain ⟨es, cl, h1⟩ := h.mp.isMap
    have h2 := h.cel
    unfold Cel at h2
    rw [e, h1] at h2; cases h2
  ⟨(hk g hgp).trans h.cel, h.mc.kept (hk bc h.bd), hm, row_in h.re (fun k hv => hk k (fun e => by
      subst e
      rcases h.re.2 with ⟨e1, _⟩ | ⟨i, cap, cur, e1, _, hg, _⟩
      · rw [e1] at hv; cases hv
      · rw [e1] at hv
        obtain rfl : i = k := by simpa [Value.ownBlock] using hv
        obtain ⟨es, cl, h1⟩ := h.mp.isMap
        rw [h1] at hg; cases hg)), h.en, fun x hx => (h.kv x hx).away aw, fun x hx => (hp x hx).away aw, h.ek, hl, h.bd, fun k hk => hF k (h.fm k hk), fun x hx hp ad e => hF _ (h.fk x hx hp ad e), hfp, hFl⟩
theorem LAt.setK (h : LAt V F g bc bp v K P s) (hk : ∀ k, k ≠ bc → w'.heap[k]? = V.heap[k]?) (hs : V.heap.size ≤ w'.heap.size) {K' : List KI} {k' : List Kc} (hm : MapIs strQ w' bc (K'.map kp)) (hp : ∀ x ∈ K', KVal V (Mu g bc bp v) x) (hl : K'.map (·.k) = k')
    (hF : ∀ k, F k → F' k) (hfk : ∀ x ∈ K', 0 < x.k.l.length → ∀ ad, x.A = some ad → F' ad.block) (hFl : ∀ k, F' k → k < w'.heap.size) : LAt w' F' g bc bp v K' P ⟨k', s.p, s.e, s.over⟩ :=
  have aw : Away (Mu g bc bp v) V w' := away_mu hs hk (.inr (.inl rfl))
  have hgp : g ≠ bc := fun e => by
    obtain ⟨es, cl, h1⟩ := h.mc.isMap
    have h2 := h.cel
    unfold Cel at h2
    rw [e, h1] at h2; cases h2
  ⟨(hk g hgp).trans h.cel, hm, h.mp.kept (hk bp (fun e => h.bd e.symm)), row_in h.re (fun k hv => hk k (fun e => by
      subst e
      rcases h.re.2 with ⟨e1, _⟩ | ⟨i, cap, cur, e1, _, hg, _⟩
      · rw [e1] at hv; cases hv
      · rw [e1] at hv
        obtain rfl : i = k := by simpa [Value.ownBlock] using hv
        obtain ⟨es, cl, h1⟩ := h.mc.isMap
        rw [h1] at hg; cases hg)), h.en, fun x hx => (hp x hx).away aw, fun x hx => (h.pv x hx).away aw, hl, h.ep, h.bd, fun k hk => hF k (h.fm k hk), hfk, fun x hx => ⟨fun hp ad e => hF _ ((h.fp x hx).1 hp ad e), fun hp ad e => hF _ ((h.fp x hx).2 hp ad e)⟩, hFl⟩
end
def insRI (P : List RI) (y : RI) : List RI := P.takeWhile (fun q => decide (q.l.txn < y.l.txn)) ++ y :: P.dropWhile (fun q => decide (q.l.txn < y.l.txn))
theorem insRI_map (P : List RI) (y : RI) : (insRI P y).map (·.l) = insP (P.map (·.l)) y.l := by
  unfold insRI insP
  rw [List.map_append, List.map_cons, List.takeWhile_map, List.dropWhile_map]
  rfl
theorem insRI_perm (P : List RI) (y : RI) : (insRI P y).Perm (y :: P) := by
  unfold insRI
  refine List.perm_middle.trans ?_
  rw [List.takeWhile_append_dropWhile]
end Sh
end Go.Proofs.YtbkanoblcojdfaaGreat

namespace Go.Proofs.YtbkanoblcojdfaaGreat
namespace Sh
open Go.RowKit Bk Ch Lt Rc Tr
attribute [local go_sem ↓] Go.wp_at_zero Go.wp_at_succ
attribute [local go_sem] floatUpon pick
def lockB (s : Shf) (r : Rec) : Bool := r.keys.any (fun y => heldB s y false) || r.ws.any (fun y => heldB s y.key true)
section
variable {W : World} {F : Nat → Prop} {g bc bp : Nat} {v : Value} {K : List KI} {P : List RI} {s : Shf}
set_option maxRecDepth 20000 in
set_option maxHeartbeats 8000000 in
theorem llocked_any (h : LAt W F g bc bp v K P s) (hs : ShOk s) (x : RI) (hv : RecVal W x.A x.B x.c x.d x.l) (hk : x.l.keys.length ≤ 1024) (hw : x.l.ws.length ≤ 1024) :
    Calls Tryz.prog 94 #[.pointer (some ⟨g, 0, none⟩), .agg (rcs x).toArray] W fun e w' => e = .returned (.bool (lockB s x.l)) ∧ Below W.heap.size W w' := by
  obtain ⟨r, A, B, c, d⟩ := x
  simp only at hv hk hw ⊢
  obtain ⟨W2, hW2⟩ : ∃ W2, (W.alloc (.cells #[.pointer (some ⟨g, 0, none⟩)] 27)).alloc (.cells (c9 r (.slice A r.keys.length c) (.slice B r.ws.length d)).toArray 37) = W2 := ⟨_, rfl⟩
  obtain ⟨sz2, b1, b2⟩ := blk2 W (.cells #[.pointer (some ⟨g, 0, none⟩)] 27) (.cells (c9 r (.slice A r.keys.length c) (.slice B r.ws.length d)).toArray 37)
  rw [hW2] at sz2 b1 b2
  have hb2 : Below W.heap.size W W2 := by rw [← hW2]; exact ((Below.refl _ W).alloc (Nat.le_refl _) _).alloc (by simp) _
  have hc1 : Cel W2 W.heap.size 27 [.pointer (some ⟨g, 0, none⟩)] := b1
  have hc2 : Cel W2 (W.heap.size + 1) 37 (c9 r (.slice A r.keys.length c) (.slice B r.ws.length d)) := b2
  have h2 := h.below hb2
  have HK := Lib.hid (fun V (hb : Below W2.heap.size W2 V) => lkeys_any (h2.below hb) hs W.heap.size (Nat.lt_of_lt_of_le hc1.lt hb.size) ((hc1.below hb).cell (i := 0) rfl) A c r.keys ((hv.ks.below hb2).below hb) hk)
  have HW := Lib.hid (fun V (hb : Below W2.heap.size W2 V) => lwrs_any (h2.below hb) hs W.heap.size (Nat.lt_of_lt_of_le hc1.lt hb.size) ((hc1.below hb).cell (i := 0) rfl) B d r.ws ((hv.ws.below hb2).below hb) hw)
  have HE := Lib.hid (show lockB s r = (r.keys.any (fun y => heldB s y false) || r.ws.any (fun y => heldB s y.key true)) from rfl)
  generalize r.keys.any (fun y => heldB s y false) = kb at HK HE
  generalize r.ws.any (fun y => heldB s y.key true) = wb at HW HE
  have HB2 := Lib.hid hb2
  have HC2 := Lib.hid hc2
  show Calls _ _ #[_, .agg #[.int .i64 r.kind, .int .i64 r.txn, .int .i64 r.ts, .int .i64 r.coord, .string r.key, .string r.text, .bool r.dead, .slice A r.keys.length c, .slice B r.ws.length d]] _ _
  have q7 := hc2.cell (i := 7) rfl
  clear h hs hv hk hw sz2 b1 b2 hb2 hc1 hc2 h2
  go_enter Tryz.func94, Tryz.ntmps94
  go_upto_region 1 with fail
  clear hW2
  go_wp2_with fail
  refine (HK.out _ (Below.refl _ _)).mono ?_
  rintro e1 w1 ⟨rfl, hb⟩
  have HB3 := Lib.hid hb
  have q8 := (HC2.out.below hb).cell (i := 8) rfl
  clear hb HK q7
  cases kb with
  | true =>
    clear q8
    go_wp2_with fail
    go_ret
    exact ⟨by rw [HE.out]; rfl, HB2.out.trans (HB3.out.mono HB2.out.size)⟩
  | false =>
    go_wp2_with fail
    refine (HW.out _ HB3.out).mono ?_
    rintro e2 w2 ⟨rfl, hb⟩
    have HB4 := Lib.hid (HB3.out.trans (hb.mono HB3.out.size))
    clear hb HW q8
    go_wp2_with fail
    go_ret
    exact ⟨by rw [HE.out]; rfl, HB2.out.trans (HB4.out.mono HB2.out.size)⟩
theorem away_below {w' : World} (hb : Below W.heap.size W w') : Far F W w' := Far.of hb
set_option maxRecDepth 20000 in
set_option maxHeartbeats 8000000 in
theorem lprepare_any (h : LAt W F g bc bp v K P s) (hs : ShOk s) (x : RI) (hv : RecVal W x.A x.B x.c x.d x.l) (hx : RecOk x.l) (hx1 : x.l.kind = 1) :
    Calls Tryz.prog 40 #[.pointer (some ⟨g, 0, none⟩), .agg (rcs x).toArray] W fun e w' => e = .returned (.int .i64 (prepareP s x.l).2) ∧ LRep w' (Gr F W w') g (prepareP s x.l).1 ∧ Far F W w' := by
  have hu := ups_of hx hx1
  obtain ⟨r, A, B, c, d⟩ := x
  simp only at hv hx hx1 hu ⊢
  have ht1 := hv.rng.txn
  obtain ⟨W1, hW1⟩ : ∃ W1, W.alloc (.cells (c9 r (.slice A r.keys.length c) (.slice B r.ws.length d)).toArray 37) = W1 := ⟨_, rfl⟩
  have hb1 : Below W.heap.size W W1 := by rw [← hW1]; exact (Below.refl _ W).alloc (Nat.le_refl _) _
  have hc1 : Cel W1 W.heap.size 37 (c9 r (.slice A r.keys.length c) (.slice B r.ws.length d)) := by rw [← hW1]; exact (blk1 W _).2
  have h1 := h.below hb1
  have HSt := Lib.hid (lstate_any h1 hs r.txn ht1.1 ht1.2)
  have HLo := Lib.hid (fun V (hb : Below W1.heap.size W1 V) => llocked_any (h1.below hb) hs ⟨r, A, B, c, d⟩ ((hv.below hb1).below hb) hu.kl hu.wl)
  have HCo := Lib.hid (fun V (hb : Below W1.heap.size W1 V) => copied_any ⟨r, A, B, c, d⟩ V ((hv.below hb1).below hb) hu.kl hu.wl)
  have HH := Lib.hid (fun V (hb : Below W1.heap.size W1 V) => h1.below hb)
  have HC := Lib.hid (fun V (hb : Below W1.heap.size W1 V) => hc1.below hb)
  have HB1 := Lib.hid hb1
  have HF := Lib.hid h.fl
  have HMu := Lib.hid h.mu_lt
  have hpl : P.length = s.p.length := h.plen
  have hp10 : (P.length : Int) ≤ 1024 := by have := hs.pl; omega
  have HPl := Lib.hid hpl
  have HSx := Lib.hid (show prepareP s r = if (stateP s r.txn).1 ≠ 0 then (s, 6) else if lockB s r = true then (s, 180) else if 1024 ≤ s.p.length then (s, 2) else (⟨s.k, insP s.p r, s.e, s.over⟩, 0) by
    unfold prepareP lockB
    by_cases h1 : (stateP s r.txn).1 ≠ 0
    · rw [if_pos h1, if_pos h1]
    · rw [if_neg h1, if_neg h1]
      cases r.keys.any (fun y => heldB s y false) <;> cases r.ws.any (fun y => heldB s y.key true) <;> simp)
  have HZ := Lib.hid (show (stateP s r.txn).1 = 0 → prepOf s.p r.txn = none from fun hz => (state_zero.1 hz).1)
  have HT := Lib.hid ht1
  have HOld := Lib.hid (show ∀ V, Below W1.heap.size W1 V → ∀ e, prepareP s r = (s, e) → LRep V (Gr F W V) g (prepareP s r).1 ∧ Far F W V from fun V hb e he => by
    have hbb := hb1.trans (hb.mono hb1.size)
    rw [he]
    exact ⟨⟨bc, bp, v, K, P, h.gr hbb.size (h.below hbb)⟩, Far.of hbb⟩)
  show Calls _ _ #[_, .agg #[.int .i64 r.kind, .int .i64 r.txn, .int .i64 r.ts, .int .i64 r.coord, .string r.key, .string r.text, .bool r.dead, .slice A r.keys.length c, .slice B r.ws.length d]] _ _
  have q1 := hc1.cell (i := 1) rfl
  generalize hst : stateP s r.txn = st at HSt HSx HZ
  obtain ⟨st1, st2⟩ := st
  simp only at HSt HSx HZ
  clear h hs hv hx hx1 hu ht1 hb1 hc1 h1 hpl hst
  go_enter Tryz.func40, Tryz.ntmps40
  go_upto_region 1 with fail
  clear hW1
  go_wp2_with fail
  refine HSt.out.mono ?_
  rintro e1 w1 ⟨rfl, hb⟩
  have HB2 := Lib.hid hb
  clear hb HSt q1
  by_cases h0 : st1 = 0
  · subst h0
    have HS2 := Lib.hid (show prepareP s r = if lockB s r = true then (s, 180) else if 1024 ≤ s.p.length then (s, 2) else (⟨s.k, insP s.p r, s.e, s.over⟩, 0) by rw [HSx.out, if_neg (by simp)])
    have hc2 := HC.out _ HB2.out
    have q0 := hc2.cell (i := 0) rfl
    have q1 := hc2.cell (i := 1) rfl
    have q2 := hc2.cell (i := 2) rfl
    have q3 := hc2.cell (i := 3) rfl
    have q4 := hc2.cell (i := 4) rfl
    have q5 := hc2.cell (i := 5) rfl
    have q6 := hc2.cell (i := 6) rfl
    have q7 := hc2.cell (i := 7) rfl
    have q8 := hc2.cell (i := 8) rfl
    have HLo2 : Hid (∀ V, Below W1.heap.size W1 V → Calls Tryz.prog 94 #[.pointer (some ⟨g, 0, none⟩), .agg #[.int .i64 r.kind, .int .i64 r.txn, .int .i64 r.ts, .int .i64 r.coord, .string r.key, .string r.text, .bool r.dead, .slice A r.keys.length c, .slice B r.ws.length d]] V fun e w' => e = .returned (.bool (lockB s r)) ∧ Below V.heap.size V w') := HLo
    clear hc2 HSx HLo
    generalize lockB s r = lb at HLo2 HS2
    go_wp2_with fail
    refine (HLo2.out _ HB2.out).mono ?_
    rintro e2 w2 ⟨rfl, hb⟩
    have HB3 := Lib.hid (HB2.out.trans (hb.mono HB2.out.size))
    clear hb HLo2 q0 q1 q2 q3 q4 q5 q6 q7 q8 HB2
    cases lb with
    | true =>
      have E := Lib.hid (show prepareP s r = (s, 180) by rw [HS2.out, if_pos rfl])
      clear HS2
      go_wp2_with fail
      go_ret
      exact ⟨(by rw [E.out]; first | done | rfl), HOld.out _ HB3.out _ E.out⟩
    | false =>
      have HS3 := Lib.hid (show prepareP s r = if 1024 ≤ s.p.length then (s, 2) else (⟨s.k, insP s.p r, s.e, s.over⟩, 0) by rw [HS2.out, if_neg (by simp)])
      have h3 := HH.out _ HB3.out
      have s1 := h3.cel.cell (i := 1) rfl
      have hln := h3.mp.len Tryz.underlying86 3
      rw [List.length_map] at hln
      clear HS2 h3
      by_cases hful : P.length = 1024
      · have E := Lib.hid (show prepareP s r = (s, 2) by rw [HS3.out, if_pos (by rw [← HPl.out, hful]; exact Nat.le_refl _)])
        rw [hful] at hln
        clear HS3 hful hp10 HPl
        go_wp2_with fail
        go_ret
        exact ⟨(by rw [E.out]; first | done | rfl), HOld.out _ HB3.out _ E.out⟩
      · have E := Lib.hid (show prepareP s r = (⟨s.k, insP s.p r, s.e, s.over⟩, 0) by rw [HS3.out, if_neg (by rw [← HPl.out]; omega)])
        have pl : ¬ (P.length : Int) = 1024 := by omega
        clear HS3 HOld
        go_upto_region 8 with fail
        clear s1 hln
        refine wp_region_said 8 [25, 26, 27, 28, 29, 30, 31, 32]
          [.is (.pointer (some ⟨g, 0, none⟩)), .is (.pointer (some ⟨g, 0, none⟩)), .is (.pointer (some ⟨g, 1, none⟩)), .is (.map (some bp)), .is (.pointer (some ⟨W.heap.size, 1, none⟩)), .is (.int .i64 r.txn), .is (.agg #[.int .i64 r.kind, .int .i64 r.txn, .int .i64 r.ts, .int .i64 r.coord, .string r.key, .string r.text, .bool r.dead, .slice A r.keys.length c, .slice B r.ws.length d]),
           .own (fun u V => ∃ y : RI, u = .agg (rcs y).toArray ∧ y.l = r ∧ RecVal V y.A y.B y.c y.d y.l ∧ NewR W1.heap.size y) (fun _ _ _ h hb => by obtain ⟨y, h1, h2, h3, h4⟩ := h; exact ⟨y, h1, h2, h3.below hb, h4⟩)]
          (fun V => Below W1.heap.size W1 V) (by kernel_rfl) (by kernel_rfl) (by kernel_rfl) (by kernel_rfl) (by kernel_rfl) (fun V V' h hb => h.trans (hb.mono h.size)) HB3.out ?steps ?last
        case steps =>
          simp only [List.take_succ_cons, List.take_zero]
          refine ⟨?_, ?_, ?_, ?_, ?_, ?_, ?_, ?_, trivial⟩
          all_goals
            intro vs V ρ hρ hc hf hg hI hH hd R' hR
            have s1 := (HH.out _ hI).cel.cell (i := 1) rfl
            have hc2 := HC.out _ hI
            have q0 := hc2.cell (i := 0) rfl
            have q1 := hc2.cell (i := 1) rfl
            have q2 := hc2.cell (i := 2) rfl
            have q3 := hc2.cell (i := 3) rfl
            have q4 := hc2.cell (i := 4) rfl
            have q5 := hc2.cell (i := 5) rfl
            have q6 := hc2.cell (i := 6) rfl
            have q7 := hc2.cell (i := 7) rfl
            have q8 := hc2.cell (i := 8) rfl
            have HR := Lib.hid hR
            have HI := Lib.hid hI
            simp [depsOf, Region.binds, sayAt, Say.holds] at hd
            clear hR hI hc2
            go_simp
            first
              | exact HR.out _ _ (by simp [sayAt, Say.holds]) (Below.refl _ _) (by simp [sayAt, Say.isBlk])
              | (refine (HCo.out _ HI.out).mono ?_; rintro e w' ⟨y, rfl, hyl, hyv, -, hya, hyb, hb⟩; exact ⟨_, rfl, HR.out _ _ ⟨y, rfl, hyl, hyv, ⟨fun hp ad e => Nat.le_trans HI.out.size (hya (by rw [hyl] at hp; exact hp) ad e), fun hp ad e => Nat.le_trans HI.out.size (hyb (by rw [hyl] at hp; exact hp) ad e)⟩⟩ hb (by simp [sayAt, Say.isBlk])⟩)
        case last =>
          intro vs V hI hb hg hd
          have g3 := hg 3 (by omega)
          have g5 := hg 5 (by omega)
          obtain ⟨y, g7, hyl, hyv, hyn⟩ := hg 7 (by omega)
          simp only [sayAt, Say.holds, List.getD_cons_succ, List.getD_cons_zero] at g3 g5
          simp only [List.take_succ_cons, List.take_zero, List.drop_succ_cons, List.drop_zero, putAll, Act.put, List.setIfInBounds_toArray, List.set_cons_succ, List.set_cons_zero, Nat.zero_add, Nat.reduceAdd]
          rw [g3, g5, g7]
          have h8 := HH.out _ hI
          have hpn := HZ.out trivial
          have hno := h8.prep_out hpn
          have hpm : (y.l.txn, Value.agg (rcs y).toArray) = pp y := rfl
          clear g3 g5 g7 hg hd
          refine wpList_update_is intQ rfl _ _ _ 86 37 rfl Tryz.underlying86 bp (P.map pp) rfl h8.mp ?c1 r.txn (intQ_ok HT.out.1 HT.out.2) (.agg (rcs y).toArray) rfl rfl ?_
          case c1 => rw [List.length_map]; unfold maxLen; omega
          intro w' hm ht
          rw [outM_none hno, ← hyl, hpm] at hm
          have hm2 : MapIs intQ w' bp ((insRI P y).map pp) := hm.perm ((insRI_perm P y).map pp).symm
          have hk : ∀ k, k ≠ bp → w'.heap[k]? = V.heap[k]? := fun k hk => turned_other ht hk
          have hsz : V.heap.size ≤ w'.heap.size := by rw [turned_size ht]; exact Nat.le_refl _
          have hbV := HB1.out.trans (hI.mono HB1.out.size)
          have hFr := h8.fm bp (.inr (.inr (.inl rfl)))
          have hL : LAt w' (Gr F W w') g bc bp v K (insRI P y) ⟨s.k, insP s.p r, s.e, s.over⟩ := by
            refine LAt.setP h8 hk hsz hm2 (fun x hx => ?_) (by rw [insRI_map, h8.ep, hyl]) (fun _ hf => .inl hf) (fun x hx => ?_) (gr_lt HF.out (Nat.le_trans hbV.size hsz))
            · rcases List.mem_cons.1 ((insRI_perm P y).mem_iff.1 hx) with rfl | hx
              · exact pval_new hyv hyn (fun k hk => Nat.lt_of_lt_of_le (HMu.out k hk) HB1.out.size)
              · exact h8.pv x hx
            · rcases List.mem_cons.1 ((insRI_perm P y).mem_iff.1 hx) with rfl | hx
              · exact newR_in hyv hyn HB1.out.size hsz
              · exact ⟨fun hp ad e => .inl ((h8.fp x hx).1 hp ad e), fun hp ad e => .inl ((h8.fp x hx).2 hp ad e)⟩
          have HLr := Lib.hid (show LRep w' (Gr F W w') g (prepareP s r).1 from by rw [E.out]; exact ⟨_, _, _, _, _, hL⟩)
          have HAw := Lib.hid (show Far F W w' from ⟨⟨Nat.le_trans hbV.size hsz, fun k hlt hn => (hk k (fun e => hn (by rw [e]; exact hFr))).trans (hbV.block k hlt)⟩, (st_below hbV).trans (st_turned ht)⟩)
          clear hL hFr hbV hsz hk hm2 hm ht hno hpn h8 hyv hyn hb hI hpm
          go_wp2_with fail
          go_ret
          exact ⟨(by rw [E.out]; first | done | rfl), HLr.out, HAw.out⟩
  · have E := Lib.hid (show prepareP s r = (s, 6) by rw [HSx.out, if_pos h0])
    clear HSx HZ
    go_wp2_with fail
    go_ret
    exact ⟨(by rw [E.out]; first | done | rfl), HOld.out _ HB2.out _ E.out⟩
end
end Sh
end Go.Proofs.YtbkanoblcojdfaaGreat

namespace Go.Proofs.YtbkanoblcojdfaaGreat
namespace Sh
open Go.RowKit Bk Ch Lt Rc Tr
def putI : List KI → KI → List KI
  | [], x => [x]
  | y :: r, x => if ltK y.k.name x.k.name then y :: putI r x else if y.k.name = x.k.name then x :: r else x :: y :: r
theorem putI_map : ∀ (K : List KI) (x : KI), (putI K x).map (·.k) = putK (K.map (·.k)) x.k.name x.k.l
  | [], x => rfl
  | y :: r, x => by
    unfold putI
    rw [List.map_cons]
    unfold putK
    by_cases h1 : ltK y.k.name x.k.name = true
    · rw [if_pos h1, if_pos h1, List.map_cons, putI_map r x]
    · rw [if_neg h1, if_neg h1]
      by_cases h2 : y.k.name = x.k.name
      · rw [if_pos h2, if_pos h2]; rfl
      · rw [if_neg h2, if_neg h2]; rfl
theorem putI_mem : ∀ {K : List KI} {x y : KI}, y ∈ putI K x → y = x ∨ y ∈ K
  | [], x, y, h => .inl (List.mem_singleton.1 h)
  | z :: r, x, y, h => by
    unfold putI at h
    by_cases h1 : ltK z.k.name x.k.name = true
    · rw [if_pos h1] at h
      rcases List.mem_cons.1 h with rfl | h
      · exact .inr (List.mem_cons_self ..)
      · exact (putI_mem h).imp id (List.mem_cons_of_mem _)
    · rw [if_neg h1] at h
      by_cases h2 : z.k.name = x.k.name
      · rw [if_pos h2] at h
        rcases List.mem_cons.1 h with rfl | h
        · exact .inl rfl
        · exact .inr (List.mem_cons_of_mem _ h)
      · rw [if_neg h2] at h
        rcases List.mem_cons.1 h with rfl | h
        · exact .inl rfl
        · exact .inr h
theorem putI_perm : ∀ {K : List KI} (x : KI), Sorted (K.map (·.k)) → ((putI K x).map kp).Perm (kp x :: outM (K.map kp) x.k.name)
  | [], x, _ => List.Perm.refl _
  | y :: r, x, h => by
    obtain ⟨h1, h2⟩ := List.pairwise_cons.1 h
    have hfar : ∀ z ∈ r, ltK y.k.name z.k.name = true := fun z hz => h1 z.k (List.mem_map_of_mem hz)
    unfold putI
    by_cases hl : ltK y.k.name x.k.name = true
    · rw [if_pos hl]
      have e : outM ((y :: r).map kp) x.k.name = kp y :: outM (r.map kp) x.k.name := by
        unfold outM
        rw [List.map_cons, List.filter_cons_of_pos (by show decide (y.k.name ≠ x.k.name) = true; exact decide_eq_true (lt_ne hl))]
      rw [e, List.map_cons]
      exact ((putI_perm x h2).cons _).trans (List.Perm.swap _ _ _)
    · rw [if_neg hl]
      by_cases h3 : y.k.name = x.k.name
      · rw [if_pos h3]
        have e : outM ((y :: r).map kp) x.k.name = r.map kp := by
          unfold outM
          rw [List.map_cons, List.filter_cons_of_neg (by show ¬ decide (y.k.name ≠ x.k.name) = true; simp [h3]), List.filter_eq_self]
          intro p hp
          obtain ⟨z, hz, rfl⟩ := List.mem_map.1 hp
          have := lt_ne (hfar z hz)
          simp only [decide_eq_true_eq]
          exact fun e => this (h3.trans e.symm)
        rw [e, List.map_cons]
      · rw [if_neg h3]
        have hk : ltK x.k.name y.k.name = true := by
          rcases lt_total x.k.name y.k.name with h | h | h
          · exact h
          · exact absurd h.symm h3
          · exact absurd h hl
        have e : outM ((y :: r).map kp) x.k.name = (y :: r).map kp := by
          unfold outM
          rw [List.filter_eq_self]
          intro p hp
          obtain ⟨z, hz, rfl⟩ := List.mem_map.1 hp
          simp only [decide_eq_true_eq]
          rcases List.mem_cons.1 hz with rfl | hz
          · exact fun e => lt_ne hk e.symm
          · exact fun e => lt_ne (lt_trans hk (hfar z hz)) e.symm
        rw [e]
        exact List.Perm.refl _
end Sh
end Go.Proofs.YtbkanoblcojdfaaGreat
