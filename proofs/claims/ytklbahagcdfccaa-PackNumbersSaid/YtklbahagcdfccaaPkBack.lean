/- The law of package pack: there and back. -/
import Derived.Test.YtklbahagcdfccaaPkLaw
namespace Go.Proofs.Ytklbahagcdfccaa
namespace Pk
open Go.RowKit Bk

attribute [local go_sem ↓] Go.wp_at_zero Go.wp_at_succ
attribute [local go_sem] floatUpon pick

theorem cnt_code {most : Nat} {L : List UInt8} {e : Er} (h : cnt most L = .error e) : e.code ≠ 0 := by
  unfold cnt at h
  cases hr : readR L with
  | fin => rw [hr] at h; cases h; decide
  | form => rw [hr] at h; cases h; show (3 : Nat) ≠ 0; omega
  | ok m u =>
    rw [hr] at h
    simp only at h
    split at h
    · cases h; show (2 : Nat) ≠ 0; omega
    · cases h

theorem numF_code {L : List UInt8} {e : Er} (h : numF L = .error e) : e.code ≠ 0 := by
  unfold numF at h
  cases hr : readR L with
  | fin => rw [hr] at h; cases h; decide
  | form => rw [hr] at h; cases h; show (3 : Nat) ≠ 0; omega
  | ok m u => rw [hr] at h; cases h

theorem numsF_code : ∀ (k : Nat) {L : List UInt8} {e : Er}, numsF k L = .error e → e.code ≠ 0
  | 0, L, e, h => by simp [numsF] at h
  | k + 1, L, e, h => by
    rw [numsF] at h
    cases h1 : numF L with
    | error e => rw [h1] at h; cases h; exact numF_code h1
    | ok x =>
      rw [h1] at h
      simp only at h
      cases h2 : numsF k x.2 with
      | error e => rw [h2] at h; cases h; exact numsF_code k h2
      | ok y => rw [h2] at h; cases h

theorem textF_code {L : List UInt8} {e : Er} (h : textF L = .error e) : e.code ≠ 0 := by
  unfold textF at h
  cases h1 : cnt 4096 L with
  | error e => rw [h1] at h; cases h; exact cnt_code h1
  | ok x =>
    rw [h1] at h
    simp only at h
    split at h
    · cases h; decide
    · cases h

theorem textsF_code : ∀ (k : Nat) {L : List UInt8} {e : Er}, textsF k L = .error e → e.code ≠ 0
  | 0, L, e, h => by simp [textsF] at h
  | k + 1, L, e, h => by
    rw [textsF] at h
    cases h1 : textF L with
    | error e => rw [h1] at h; cases h; exact textF_code h1
    | ok x =>
      rw [h1] at h
      simp only at h
      cases h2 : textsF k x.2 with
      | error e => rw [h2] at h; cases h; exact textsF_code k h2
      | ok y => rw [h2] at h; cases h

theorem decL_code {L : List UInt8} {e : Er} (h : decL L = .error e) : e.code ≠ 0 := by
  unfold decL at h
  cases h1 : cnt 1024 L with
  | error e => rw [h1] at h; cases h; exact cnt_code h1
  | ok x =>
    rw [h1] at h
    simp only at h
    cases h2 : numsF x.1 x.2 with
    | error e => rw [h2] at h; cases h; exact numsF_code _ h2
    | ok x2 =>
      rw [h2] at h
      simp only at h
      cases h3 : cnt 1024 x2.2 with
      | error e => rw [h3] at h; cases h; exact cnt_code h3
      | ok x3 =>
        rw [h3] at h
        simp only at h
        cases h4 : textsF x3.1 x3.2 with
        | error e => rw [h4] at h; cases h; exact textsF_code _ h4
        | ok x4 =>
          rw [h4] at h
          simp only at h
          split at h
          · cases h
          · cases h; show (3 : Nat) ≠ 0; omega

theorem place_le (n : Nat) (e : Er) : e.place n ≤ n := by
  cases e with
  | fin => exact Nat.le_refl _
  | bad left c => exact Nat.sub_le ..

/-- a decoding is whole, or says where it fails -/
theorem dec_cases (s : ByteArray) : (∃ ns ts, decR s = (ns, ts, 0, 0) ∧ MayBe ns ts ∧ s = ⟨(bytesL ns ts).toArray⟩) ∨ ∃ a c, decR s = ([], [], a, c) ∧ a ≤ s.size ∧ c ≠ 0 := by
  cases h : decL s.data.toList with
  | ok x =>
    obtain ⟨ns, ts⟩ := x
    obtain ⟨h1, h2⟩ := decL_ok h
    exact .inl ⟨ns, ts, by unfold decR; rw [h], h1, by rw [← h2]⟩
  | error e => exact .inr ⟨e.place s.size, e.code, by unfold decR; rw [h], place_le _ _, decL_code h⟩

theorem dec_bytes {ns : List Int} {ts : List ByteArray} (h : MayBe ns ts) : decR ⟨(bytesL ns ts).toArray⟩ = (ns, ts, 0, 0) := by
  unfold decR
  rw [show (⟨(bytesL ns ts).toArray⟩ : ByteArray).data.toList = bytesL ns ts from rfl, decL_back h]

theorem PkEnv.made {w W : World} {A B : Option Addr} {c d : Nat} {ns : List Int} {ts : List ByteArray} (ha : IntsAt W A ns) (hb : StrsAt W B ts) (hw : Below w.heap.size w W) :
    PkEnv w (W.alloc (.cells #[.slice A ns.length c, .slice B ts.length d] 25)) W.heap.size A B c d ns ts :=
  ⟨ha.alloc _, hb.alloc _, (blk1 W _).2, hw.alloc hw.size _⟩

theorem MayBe.arg {c d : Nat} {ns : List Int} {ts : List ByteArray} (h : MayBe ns ts) (h1 : ns.length ≤ c) (h2 : ts.length ≤ d) (h3 : c ≤ maxLen) (h4 : d ≤ maxLen) : ArgOk c d ns ts :=
  ⟨by have := h.1; omega, by have := h.2.1; omega, fun n hn => by have := h.2.2.1 n hn; unfold numOk at this; omega, fun t ht => by have := h.2.2.2 t ht; omega, h1, h2, h3, h4⟩

theorem byt_size {ns : List Int} {ts : List ByteArray} (h : MayBe ns ts) : (⟨(bytesL ns ts).toArray⟩ : ByteArray).size ≤ 5000000 := by rw [cat_size]; exact bytesL_le h

set_option maxRecDepth 20000 in
set_option maxHeartbeats 2000000 in
theorem back_11 (HE : EncodeAll) (HD : DecodeAll) (A B : Option Addr) (c d : Nat) (ns : List Int) (ts : List ByteArray) (s : ByteArray) (w : World) (ha : IntsAt w A ns) (hb : StrsAt w B ts) (harg : ArgOk c d ns ts) (hs : s.size ≤ 1000000000000000) (hm : MayBe ns ts) (ns' : List Int) (ts' : List ByteArray) (hdec : decR s = (ns', ts', 0, 0)) (hm' : MayBe ns' ts') (hsb : s = ⟨(bytesL ns' ts').toArray⟩) :
    Calls Try.prog 5 #[.agg #[.slice A ns.length c, .slice B ts.length d], .string s] w fun e w' => e = .returned (.bool true) ∧ Below w.heap.size w w' := by
  have HW := Lib.hid (pkworks HE)
  have HEnv := Lib.hid (PkEnv.start (c := c) (d := d) ha hb)
  have hE1 := fun W (h : PkEnv w W w.heap.size A B c d ns ts) => HE A B c d ns ts W h.1 h.2.1 harg
  rw [encV_ok hm] at hE1
  have hD1 := fun W => HD ⟨(bytesL ns ts).toArray⟩ W (by have := byt_size hm; omega)
  unfold DecAns2 at hD1
  rw [dec_bytes hm] at hD1
  have hS1 := Lib.hid (fun A1 B1 c1 d1 A2 B2 c2 d2 W (h1 : IntsAt W A1 ns) (h2 : StrsAt W B1 ts) (h3 : IntsAt W A2 ns) (h4 : StrsAt W B2 ts) => same_self A1 B1 A2 B2 c1 d1 c2 d2 ns ts W h1 h2 h3 h4 harg.range.1 harg.range.2.1)
  unfold packV at hE1 hD1 hS1
  generalize (⟨(bytesL ns ts).toArray⟩ : ByteArray) = X at *
  have HD1 := Lib.hid hD1
  clear hD1
  have HE1 := Lib.hid hE1
  have hD2 := fun W => HD s W hs
  unfold DecAns2 at hD2
  rw [hdec] at hD2
  have hE2 := fun A' B' c' d' W (h1 : IntsAt W A' ns') (h2 : StrsAt W B' ts') (k : ArgOk c' d' ns' ts') => HE A' B' c' d' ns' ts' W h1 h2 k
  rw [encV_ok hm', ← hsb] at hE2
  have t1 := text_eq s
  have HM := Lib.hid hm'
  unfold packV at hE2 hD2
  have HE2 := Lib.hid hE2
  clear hdec hsb hm' hE2
  have HD2 := Lib.hid hD2
  clear hD2 hE1 HE HD harg ha hb hs
  go_enter Try.func5, Try.ntmps5
  go_upto_region 1 with fail
  generalize w.alloc (.cells #[.slice A ns.length c, .slice B ts.length d] 25) = W1 at *
  go_wp2_with fail
  refine (HW.out _).mono ?_
  rintro e w1 ⟨rfl, hb⟩
  have P1 := Lib.hid (HEnv.out.step hb)
  have k0 := P1.out.c0
  have k1 := P1.out.c1
  clear hb HEnv HW
  go_wp2_with fail
  refine (HE1.out _ P1.out).mono ?_
  rintro e w2 ⟨rfl, hb⟩
  have P2 := Lib.hid (P1.out.step hb)
  clear hb k0 k1 P1 HE1
  go_wp2_with fail
  refine (HD1.out _).mono ?_
  rintro e w3 ⟨A', B', c', d', rfl, hi1, hs1, hb, -⟩
  have P3 := Lib.hid ((P2.out.step hb).step ((Below.refl _ w3).alloc (Nat.le_refl _) (.cells #[.slice A' ns.length c', .slice B' ts.length d'] 25)))
  have Q3 := Lib.hid (PkEnv.made (c := c') (d := d') hi1 hs1 ((P2.out.step hb).2.2.2))
  have k0 := P3.out.c0
  have k1 := P3.out.c1
  clear hb hi1 hs1 P2 HD1
  go_upto_region 6 with fail
  generalize w3.alloc (.cells #[.slice A' ns.length c', .slice B' ts.length d'] 25) = W3 at *
  have q0 := Q3.out.c0
  have q1 := Q3.out.c1
  go_wp2_with fail
  refine (hS1.out A' B' c' d' A B c d W3 Q3.out.1 Q3.out.2.1 P3.out.1 P3.out.2.1).mono ?_
  rintro e w4 ⟨rfl, hb⟩
  have P4 := Lib.hid (P3.out.step hb)
  clear hb P3 Q3 k0 k1 q0 q1 hS1
  go_wp2_with fail
  refine (HD2.out _).mono ?_
  rintro e w5 ⟨A5, B5, c5, d5, rfl, hi1, hs1, hb, l1, l2, l3, l4⟩
  have Q5 := Lib.hid (PkEnv.made (c := c5) (d := d5) hi1 hs1 ((P4.out.step hb).2.2.2))
  clear hb hi1 hs1 P4 HD2
  go_upto_region 11 with fail
  have q0 := Q5.out.c0
  have q1 := Q5.out.c1
  generalize w5.alloc (.cells #[.slice A5 ns'.length c5, .slice B5 ts'.length d5] 25) = W5 at *
  have HK := Lib.hid (HM.out.arg l1 l2 l3 l4)
  clear l1 l2 l3 l4 HM
  go_wp2_with fail
  refine (HE2.out A5 B5 c5 d5 W5 Q5.out.1 Q5.out.2.1 HK.out).mono ?_
  rintro e w6 ⟨rfl, hb⟩
  have Q6 := Lib.hid (Q5.out.step hb)
  clear hb Q5 q0 q1 HE2 HK
  go_wp2_with fail
  go_ret
  exact ⟨rfl, Q6.out.2.2.2⟩

set_option maxRecDepth 20000 in
set_option maxHeartbeats 2000000 in
theorem back_10 (HE : EncodeAll) (HD : DecodeAll) (A B : Option Addr) (c d : Nat) (ns : List Int) (ts : List ByteArray) (s : ByteArray) (w : World) (ha : IntsAt w A ns) (hb : StrsAt w B ts) (harg : ArgOk c d ns ts) (hs : s.size ≤ 1000000000000000) (hm : MayBe ns ts) (x y : Nat) (hdec : decR s = ([], [], x, y)) (hx : x ≤ s.size) (hy : y ≠ 0) :
    Calls Try.prog 5 #[.agg #[.slice A ns.length c, .slice B ts.length d], .string s] w fun e w' => e = .returned (.bool true) ∧ Below w.heap.size w w' := by
  have HW := Lib.hid (pkworks HE)
  have HEnv := Lib.hid (PkEnv.start (c := c) (d := d) ha hb)
  have hE1 := fun W (h : PkEnv w W w.heap.size A B c d ns ts) => HE A B c d ns ts W h.1 h.2.1 harg
  rw [encV_ok hm] at hE1
  have hD1 := fun W => HD ⟨(bytesL ns ts).toArray⟩ W (by have := byt_size hm; omega)
  unfold DecAns2 at hD1
  rw [dec_bytes hm] at hD1
  have hS1 := Lib.hid (fun A1 B1 c1 d1 A2 B2 c2 d2 W (h1 : IntsAt W A1 ns) (h2 : StrsAt W B1 ts) (h3 : IntsAt W A2 ns) (h4 : StrsAt W B2 ts) => same_self A1 B1 A2 B2 c1 d1 c2 d2 ns ts W h1 h2 h3 h4 harg.range.1 harg.range.2.1)
  unfold packV at hE1 hD1 hS1
  generalize (⟨(bytesL ns ts).toArray⟩ : ByteArray) = X at *
  have HD1 := Lib.hid hD1
  clear hD1
  have HE1 := Lib.hid hE1
  have hD2 := fun W => HD s W hs
  unfold DecAns2 at hD2
  rw [hdec] at hD2
  have hne : ((y : Int) != 0) = true := by simp; omega
  have hxs : (x : Int) ≤ (s.size : Int) := by omega
  have hsi : (s.size : Int) ≤ 1000000000000000 := by omega
  have hS2 := Lib.hid (fun A1 B1 c1 d1 A2 B2 c2 d2 W (h1 : IntsAt W A1 []) (h2 : StrsAt W B1 []) (h3 : IntsAt W A2 []) (h4 : StrsAt W B2 []) => same_self A1 B1 A2 B2 c1 d1 c2 d2 [] [] W h1 h2 h3 h4 (by simp) (by simp))
  unfold packV at hD2 hS2
  clear hdec hy hx
  have HD2 := Lib.hid hD2
  clear hD2 hE1 HE HD harg ha hb hs
  go_enter Try.func5, Try.ntmps5
  go_upto_region 1 with fail
  generalize w.alloc (.cells #[.slice A ns.length c, .slice B ts.length d] 25) = W1 at *
  go_wp2_with fail
  refine (HW.out _).mono ?_
  rintro e w1 ⟨rfl, hb⟩
  have P1 := Lib.hid (HEnv.out.step hb)
  have k0 := P1.out.c0
  have k1 := P1.out.c1
  clear hb HEnv HW
  go_wp2_with fail
  refine (HE1.out _ P1.out).mono ?_
  rintro e w2 ⟨rfl, hb⟩
  have P2 := Lib.hid (P1.out.step hb)
  clear hb k0 k1 P1 HE1
  go_wp2_with fail
  refine (HD1.out _).mono ?_
  rintro e w3 ⟨A', B', c', d', rfl, hi1, hs1, hb, -⟩
  have P3 := Lib.hid ((P2.out.step hb).step ((Below.refl _ w3).alloc (Nat.le_refl _) (.cells #[.slice A' ns.length c', .slice B' ts.length d'] 25)))
  have Q3 := Lib.hid (PkEnv.made (c := c') (d := d') hi1 hs1 ((P2.out.step hb).2.2.2))
  have k0 := P3.out.c0
  have k1 := P3.out.c1
  clear hb hi1 hs1 P2 HD1
  go_upto_region 6 with fail
  generalize w3.alloc (.cells #[.slice A' ns.length c', .slice B' ts.length d'] 25) = W3 at *
  have q0 := Q3.out.c0
  have q1 := Q3.out.c1
  go_wp2_with fail
  refine (hS1.out A' B' c' d' A B c d W3 Q3.out.1 Q3.out.2.1 P3.out.1 P3.out.2.1).mono ?_
  rintro e w4 ⟨rfl, hb⟩
  have P4 := Lib.hid (P3.out.step hb)
  clear hb P3 Q3 k0 k1 q0 q1 hS1
  go_wp2_with fail
  refine (HD2.out _).mono ?_
  rintro e w5 ⟨A5, B5, c5, d5, rfl, hi1, hs1, hb, -⟩
  have Q5 := Lib.hid (PkEnv.made (c := c5) (d := d5) hi1 hs1 ((P4.out.step hb).2.2.2))
  clear hb hi1 hs1 P4 HD2
  go_upto_region 11 with fail
  have q0 := Q5.out.c0
  have q1 := Q5.out.c1
  generalize w5.alloc (.cells #[.slice A5 ([] : List Int).length c5, .slice B5 ([] : List ByteArray).length d5] 25) = W5 at *
  simp only [List.length_nil] at *
  go_wp2_with fail
  refine (hS2.out A5 B5 c5 d5 none none 0 0 W5 Q5.out.1 Q5.out.2.1 noInts noStrs).mono ?_
  rintro e w6 ⟨rfl, hb⟩
  have Q6 := Lib.hid (Q5.out.step hb)
  clear hb Q5 q0 q1 hS2
  go_wp2_with fail
  go_ret
  exact ⟨rfl, Q6.out.2.2.2⟩

set_option maxRecDepth 20000 in
set_option maxHeartbeats 2000000 in
theorem back_01 (HE : EncodeAll) (HD : DecodeAll) (A B : Option Addr) (c d : Nat) (ns : List Int) (ts : List ByteArray) (s : ByteArray) (w : World) (ha : IntsAt w A ns) (hb : StrsAt w B ts) (harg : ArgOk c d ns ts) (hs : s.size ≤ 1000000000000000) (hm : ckE ns ts ≠ 0) (ns' : List Int) (ts' : List ByteArray) (hdec : decR s = (ns', ts', 0, 0)) (hm' : MayBe ns' ts') (hsb : s = ⟨(bytesL ns' ts').toArray⟩) :
    Calls Try.prog 5 #[.agg #[.slice A ns.length c, .slice B ts.length d], .string s] w fun e w' => e = .returned (.bool true) ∧ Below w.heap.size w w' := by
  have HW := Lib.hid (pkworks HE)
  have HEnv := Lib.hid (PkEnv.start (c := c) (d := d) ha hb)
  have hE1 := fun W (h : PkEnv w W w.heap.size A B c d ns ts) => HE A B c d ns ts W h.1 h.2.1 harg
  rw [encV_bad hm] at hE1
  have hz : (((ckE ns ts : Nat) : Int) == 0) = false := by simp; omega
  have hle := ckE_le ns ts
  unfold packV at hE1
  generalize ckE ns ts = C at *
  clear hm hle
  have HE1 := Lib.hid hE1
  have hD2 := fun W => HD s W hs
  unfold DecAns2 at hD2
  rw [hdec] at hD2
  have hE2 := fun A' B' c' d' W (h1 : IntsAt W A' ns') (h2 : StrsAt W B' ts') (k : ArgOk c' d' ns' ts') => HE A' B' c' d' ns' ts' W h1 h2 k
  rw [encV_ok hm', ← hsb] at hE2
  have t1 := text_eq s
  have HM := Lib.hid hm'
  unfold packV at hE2 hD2
  have HE2 := Lib.hid hE2
  clear hdec hsb hm' hE2
  have HD2 := Lib.hid hD2
  clear hD2 hE1 HE HD harg ha hb hs
  go_enter Try.func5, Try.ntmps5
  go_upto_region 1 with fail
  generalize w.alloc (.cells #[.slice A ns.length c, .slice B ts.length d] 25) = W1 at *
  go_wp2_with fail
  refine (HW.out _).mono ?_
  rintro e w1 ⟨rfl, hb⟩
  have P1 := Lib.hid (HEnv.out.step hb)
  have k0 := P1.out.c0
  have k1 := P1.out.c1
  clear hb HEnv HW
  go_wp2_with fail
  refine (HE1.out _ P1.out).mono ?_
  rintro e w2 ⟨rfl, hb⟩
  have P2 := Lib.hid (P1.out.step hb)
  clear hb k0 k1 P1 HE1
  have P4 := P2
  clear P2
  go_wp2_with fail
  refine (HD2.out _).mono ?_
  rintro e w5 ⟨A5, B5, c5, d5, rfl, hi1, hs1, hb, l1, l2, l3, l4⟩
  have Q5 := Lib.hid (PkEnv.made (c := c5) (d := d5) hi1 hs1 ((P4.out.step hb).2.2.2))
  clear hb hi1 hs1 P4 HD2
  go_upto_region 11 with fail
  have q0 := Q5.out.c0
  have q1 := Q5.out.c1
  generalize w5.alloc (.cells #[.slice A5 ns'.length c5, .slice B5 ts'.length d5] 25) = W5 at *
  have HK := Lib.hid (HM.out.arg l1 l2 l3 l4)
  clear l1 l2 l3 l4 HM
  go_wp2_with fail
  refine (HE2.out A5 B5 c5 d5 W5 Q5.out.1 Q5.out.2.1 HK.out).mono ?_
  rintro e w6 ⟨rfl, hb⟩
  have Q6 := Lib.hid (Q5.out.step hb)
  clear hb Q5 q0 q1 HE2 HK
  go_wp2_with fail
  go_ret
  exact ⟨rfl, Q6.out.2.2.2⟩

set_option maxRecDepth 20000 in
set_option maxHeartbeats 2000000 in
theorem back_00 (HE : EncodeAll) (HD : DecodeAll) (A B : Option Addr) (c d : Nat) (ns : List Int) (ts : List ByteArray) (s : ByteArray) (w : World) (ha : IntsAt w A ns) (hb : StrsAt w B ts) (harg : ArgOk c d ns ts) (hs : s.size ≤ 1000000000000000) (hm : ckE ns ts ≠ 0) (x y : Nat) (hdec : decR s = ([], [], x, y)) (hx : x ≤ s.size) (hy : y ≠ 0) :
    Calls Try.prog 5 #[.agg #[.slice A ns.length c, .slice B ts.length d], .string s] w fun e w' => e = .returned (.bool true) ∧ Below w.heap.size w w' := by
  have HW := Lib.hid (pkworks HE)
  have HEnv := Lib.hid (PkEnv.start (c := c) (d := d) ha hb)
  have hE1 := fun W (h : PkEnv w W w.heap.size A B c d ns ts) => HE A B c d ns ts W h.1 h.2.1 harg
  rw [encV_bad hm] at hE1
  have hz : (((ckE ns ts : Nat) : Int) == 0) = false := by simp; omega
  have hle := ckE_le ns ts
  unfold packV at hE1
  generalize ckE ns ts = C at *
  clear hm hle
  have HE1 := Lib.hid hE1
  have hD2 := fun W => HD s W hs
  unfold DecAns2 at hD2
  rw [hdec] at hD2
  have hne : ((y : Int) != 0) = true := by simp; omega
  have hxs : (x : Int) ≤ (s.size : Int) := by omega
  have hsi : (s.size : Int) ≤ 1000000000000000 := by omega
  have hS2 := Lib.hid (fun A1 B1 c1 d1 A2 B2 c2 d2 W (h1 : IntsAt W A1 []) (h2 : StrsAt W B1 []) (h3 : IntsAt W A2 []) (h4 : StrsAt W B2 []) => same_self A1 B1 A2 B2 c1 d1 c2 d2 [] [] W h1 h2 h3 h4 (by simp) (by simp))
  unfold packV at hD2 hS2
  clear hdec hy hx
  have HD2 := Lib.hid hD2
  clear hD2 hE1 HE HD harg ha hb hs
  go_enter Try.func5, Try.ntmps5
  go_upto_region 1 with fail
  generalize w.alloc (.cells #[.slice A ns.length c, .slice B ts.length d] 25) = W1 at *
  go_wp2_with fail
  refine (HW.out _).mono ?_
  rintro e w1 ⟨rfl, hb⟩
  have P1 := Lib.hid (HEnv.out.step hb)
  have k0 := P1.out.c0
  have k1 := P1.out.c1
  clear hb HEnv HW
  go_wp2_with fail
  refine (HE1.out _ P1.out).mono ?_
  rintro e w2 ⟨rfl, hb⟩
  have P2 := Lib.hid (P1.out.step hb)
  clear hb k0 k1 P1 HE1
  have P4 := P2
  clear P2
  go_wp2_with fail
  refine (HD2.out _).mono ?_
  rintro e w5 ⟨A5, B5, c5, d5, rfl, hi1, hs1, hb, -⟩
  have Q5 := Lib.hid (PkEnv.made (c := c5) (d := d5) hi1 hs1 ((P4.out.step hb).2.2.2))
  clear hb hi1 hs1 P4 HD2
  go_upto_region 11 with fail
  have q0 := Q5.out.c0
  have q1 := Q5.out.c1
  generalize w5.alloc (.cells #[.slice A5 ([] : List Int).length c5, .slice B5 ([] : List ByteArray).length d5] 25) = W5 at *
  simp only [List.length_nil] at *
  go_wp2_with fail
  refine (hS2.out A5 B5 c5 d5 none none 0 0 W5 Q5.out.1 Q5.out.2.1 noInts noStrs).mono ?_
  rintro e w6 ⟨rfl, hb⟩
  have Q6 := Lib.hid (Q5.out.step hb)
  clear hb Q5 q0 q1 hS2
  go_wp2_with fail
  go_ret
  exact ⟨rfl, Q6.out.2.2.2⟩

theorem back_walk (HE : EncodeAll) (HD : DecodeAll) (A B : Option Addr) (c d : Nat) (ns : List Int) (ts : List ByteArray) (s : ByteArray) (w : World) (ha : IntsAt w A ns) (hb : StrsAt w B ts) (harg : ArgOk c d ns ts) (hreach : s.size ≤ reachBytes) :
    Calls Try.prog 5 #[.agg #[.slice A ns.length c, .slice B ts.length d], .string s] w fun e w' => e = .returned (.bool true) ∧ Below w.heap.size w w' := by
  have hs : s.size ≤ 1000000000000000 := by unfold reachBytes at hreach; omega
  by_cases hm : ckE ns ts = 0
  · rcases dec_cases s with ⟨ns', ts', h1, h2, h3⟩ | ⟨x, y, h1, h2, h3⟩
    · exact back_11 HE HD A B c d ns ts s w ha hb harg hs (ckE_zero.1 hm) ns' ts' h1 h2 h3
    · exact back_10 HE HD A B c d ns ts s w ha hb harg hs (ckE_zero.1 hm) x y h1 h2 h3
  · rcases dec_cases s with ⟨ns', ts', h1, h2, h3⟩ | ⟨x, y, h1, h2, h3⟩
    · exact back_01 HE HD A B c d ns ts s w ha hb harg hs hm ns' ts' h1 h2 h3
    · exact back_00 HE HD A B c d ns ts s w ha hb harg hs hm x y h1 h2 h3

end Pk
end Go.Proofs.Ytklbahagcdfccaa
