/- What the landed package stripe does: Parity and Encode; no condition but the range. -/
import Derived.Test.YtmnciipfepeccaaStPar2
namespace Go.Proofs.Ytmnciipfepeccaa
open Go.RowKit

/-- what Parity answers -/
def ParityAns (H : Nat) (k m : Int) (l : List ByteArray) (e : Ending) (w' : World) : Prop :=
  if codeB k m = true then
    if (l.length : Int) = k ∧ St.Even l then
      if 2052 < (l.headD ⟨#[]⟩).size then e = .returned (.tuple #[.slice none 0 0, .int .i64 2])
      else ∃ g, e = .returned (.tuple #[.slice (some ⟨g, 0, none⟩) m.toNat m.toNat, .int .i64 0]) ∧ H ≤ g ∧ StrBlk w' g (parL k.toNat m.toNat l (l.headD ⟨#[]⟩).size)
    else e = .returned (.tuple #[.slice none 0 0, .int .i64 4])
  else e = .returned (.tuple #[.slice none 0 0, .int .i64 1])

set_option maxRecDepth 20000 in
set_option maxHeartbeats 2000000 in
theorem Parity_any (k m : Int) (A : Option Addr) (c : Nat) (l : List ByteArray) (w : World) (h : StrsAt w A l) (hn : l.length ≤ 9223372036854775807) (hmax : ∀ s ∈ l, s.size ≤ 9223372036854775807) :
    Calls Try.prog 32 #[.int .i64 k, .int .i64 m, .slice A l.length c] w fun e w' => ParityAns w.heap.size k m l e w' ∧ Below w.heap.size w w' := by
  cases hc : codeB k m
  · have E : Hid (∀ w' e, e = Ending.returned (.tuple #[.slice none 0 0, .int .i64 1]) → ParityAns w.heap.size k m l e w') := fun w' e he => by unfold ParityAns; rw [if_neg (by simp [hc])]; exact he
    have HC := Lib.hid hc
    clear hc hmax h
    go_enter Try.func32, Try.ntmps32
    go_wp2_with fail
    refine (isCode_any _ _ _).mono ?_
    rintro e w' ⟨rfl, rfl⟩
    rw [HC.out]
    go_wp2_with fail
    go_ret2
    exact ⟨E.out _ _ rfl, Below.refl _ _⟩
  · obtain ⟨a, b, rfl, rfl, h1, h2⟩ := codeB_nat hc
    have HC := Lib.hid hc
    by_cases hl : l.length = a
    · subst hl
      have q1 : ((l.length : Int) != (l.length : Int)) = false := by simp
      have he := even_any A c l w h h1 hn
      by_cases hE : St.Even l
      · rw [show decide (St.Even l) = true by simpa using hE] at he
        have HEv := Lib.hid he
        obtain ⟨ad, rfl, hab, hcl⟩ := h h1
        have c0 : w.cell? ad = some (.string (l[0]'h1)) := by have := hcl 0 (by omega); rwa [add_zero'] at this
        have hd0 : l.headD ⟨#[]⟩ = l[0] := by cases l with | nil => simp at h1 | cons x r => rfl
        have p0 : (0 : Int) < (l.length : Int) := by omega
        have p0n : 0 < l.length := h1
        have hm0 := hmax l[0] (List.getElem_mem _)
        by_cases hbig : 2052 < l[0].size
        · have E : Hid (∀ w' e, e = Ending.returned (.tuple #[.slice none 0 0, .int .i64 2]) → ParityAns w.heap.size (l.length : Int) (b : Int) l e w') := fun w' e he => by
            unfold ParityAns; rw [if_pos hc, if_pos ⟨rfl, hE⟩, hd0, if_pos hbig]; exact he
          have hbig' : (2052 : Int) < (l[0].size : Int) := by omega
          clear hc hE he h hcl hd0 hmax hbig
          go_enter Try.func32, Try.ntmps32
          go_wp2_with fail
          refine (isCode_any _ _ _).mono ?_
          rintro e w' ⟨rfl, rfl⟩
          rw [HC.out]
          go_wp2_with fail
          refine HEv.out.mono ?_
          rintro e w' ⟨rfl, rfl⟩
          go_wp2_with fail
          go_ret2
          exact ⟨E.out _ _ rfl, Below.refl _ _⟩
        · have E : Hid (∀ w' e g, e = Ending.returned (.tuple #[.slice (some ⟨g, 0, none⟩) b b, .int .i64 0]) → w.heap.size ≤ g → StrBlk w' g (parL l.length b l l[0].size) → ParityAns w.heap.size (l.length : Int) (b : Int) l e w') := fun w' e g he hg hs => by
            unfold ParityAns; rw [if_pos hc, if_pos ⟨rfl, hE⟩, hd0, if_neg hbig, Int.toNat_natCast, Int.toNat_natCast]; exact ⟨g, he, hg, hs⟩
          have hbig' : ¬ (2052 : Int) < (l[0].size : Int) := by omega
          have HPar := Lib.hid (parity_any l.length b l[0].size (some ad) c l w h h1 h2 rfl (fun s hs => by have := hE s hs; rwa [hd0] at this) (by omega))
          clear hc hE he h hcl hd0 hmax hbig
          go_enter Try.func32, Try.ntmps32
          go_wp2_with fail
          refine (isCode_any _ _ _).mono ?_
          rintro e w' ⟨rfl, rfl⟩
          rw [HC.out]
          go_wp2_with fail
          refine HEv.out.mono ?_
          rintro e w' ⟨rfl, rfl⟩
          go_wp2_with fail
          refine HPar.out.mono ?_
          rintro e w2 ⟨g, rfl, hg, hs, hb⟩
          have HS := Lib.hid hs
          have HB := Lib.hid hb
          clear hs hb
          go_wp2_with fail
          go_ret2
          exact ⟨E.out _ _ g rfl hg HS.out, HB.out⟩
      · rw [show decide (St.Even l) = false by simpa using hE] at he
        have HEv := Lib.hid he
        have E : Hid (∀ w' e, e = Ending.returned (.tuple #[.slice none 0 0, .int .i64 4]) → ParityAns w.heap.size (l.length : Int) (b : Int) l e w') := fun w' e he => by
          unfold ParityAns; rw [if_pos hc, if_neg (fun z => hE z.2)]; exact he
        clear hc hE he h hmax
        go_enter Try.func32, Try.ntmps32
        go_wp2_with fail
        refine (isCode_any _ _ _).mono ?_
        rintro e w' ⟨rfl, rfl⟩
        rw [HC.out]
        go_wp2_with fail
        refine HEv.out.mono ?_
        rintro e w' ⟨rfl, rfl⟩
        go_wp2_with fail
        go_ret2
        exact ⟨E.out _ _ rfl, Below.refl _ _⟩
    · have q1 : ((l.length : Int) != (a : Int)) = true := by simp; omega
      have E : Hid (∀ w' e, e = Ending.returned (.tuple #[.slice none 0 0, .int .i64 4]) → ParityAns w.heap.size (a : Int) (b : Int) l e w') := fun w' e he => by
        unfold ParityAns; rw [if_pos hc, if_neg (fun z => hl (by have := z.1; omega))]; exact he
      clear hc h hl hmax
      go_enter Try.func32, Try.ntmps32
      go_wp2_with fail
      refine (isCode_any _ _ _).mono ?_
      rintro e w' ⟨rfl, rfl⟩
      rw [HC.out]
      go_wp2_with fail
      go_ret2
      exact ⟨E.out _ _ rfl, Below.refl _ _⟩

/-- all shards of an object -/
def allS (k m : Nat) (s : ByteArray) : List ByteArray := St.shards k s ++ parL k m (St.shards k s) (St.szN k s.size)

theorem allS_len (k m : Nat) (s : ByteArray) : (allS k m s).length = k + m := by
  unfold allS
  rw [List.length_append, St.shards_len, parL_len]

/-- what Encode answers -/
def EncodeAns (H : Nat) (k m : Int) (s : ByteArray) (e : Ending) (w' : World) : Prop :=
  if codeB k m = true then
    if s.size ≤ 2048 then ∃ v, e = .returned (.tuple #[v, .int .i64 0]) ∧ w'.ownsRow H 9 1 v (k.toNat + m.toNat) (strV (allS k.toNat m.toNat s))
    else e = .returned (.tuple #[.slice none 0 0, .int .i64 2])
  else e = .returned (.tuple #[.slice none 0 0, .int .i64 1])

theorem StrBlk.own {w : World} {g H : Nat} {l : List ByteArray} (h : StrBlk w g l) (hg : H ≤ g) (hl : l.length ≤ 1000000) : w.ownsRow H 9 1 (.slice (some ⟨g, 0, none⟩) l.length l.length) l.length (strV l) :=
  ⟨by rw [strV_len, Nat.mul_one], .inr ⟨g, l.length, (strV l).toArray, rfl, hg, h, Nat.le_refl _, by unfold maxLen; omega, by rw [List.size_toArray, strV_len, Nat.mul_one], by rw [Nat.mul_one, List.toList_toArray, List.take_of_length_le (by rw [strV_len]; exact Nat.le_refl _)]⟩⟩

theorem StrBlk.below {w w' : World} {g : Nat} {l : List ByteArray} (h : StrBlk w g l) (hb : Below w.heap.size w w') : StrBlk w' g l := (hb.block g (Array.getElem?_eq_some_iff.1 h).1).trans h

theorem StrBlk.news {w : World} {g : Nat} {l : List ByteArray} (h : StrBlk w g l) : ∀ j u, (strV l)[j]? = some u → w.cell? ((⟨g, 0, none⟩ : Addr).add j) = some u := fun j u hu => by
  rw [addr_head]; exact blk_cell h (by rw [List.getElem?_toArray]; exact hu)

theorem strV_one (l : List ByteArray) : ∀ u ∈ strV l, u.oneCell' = true := fun u hu => by
  obtain ⟨s, _, rfl⟩ := List.mem_map.1 hu
  rfl

set_option maxRecDepth 20000 in
set_option maxHeartbeats 2000000 in
theorem encode_any (k m : Int) (s : ByteArray) (w : World) (hreach : s.size ≤ 9223372036854775807) :
    Calls Try.prog 30 #[.int .i64 k, .int .i64 m, .string s] w fun e w' => EncodeAns w.heap.size k m s e w' ∧ Below w.heap.size w w' := by
  cases hc : codeB k m
  · have E : Hid (∀ w' e, e = Ending.returned (.tuple #[.slice none 0 0, .int .i64 1]) → EncodeAns w.heap.size k m s e w') := fun w' e he => by unfold EncodeAns; rw [if_neg (by simp [hc])]; exact he
    have HC := Lib.hid hc
    clear hc
    go_enter Try.func30, Try.ntmps30
    go_wp2_with fail
    refine (isCode_any _ _ _).mono ?_
    rintro e w' ⟨rfl, rfl⟩
    rw [HC.out]
    go_wp2_with fail
    go_ret2
    exact ⟨E.out _ _ rfl, Below.refl _ _⟩
  · obtain ⟨a, b, rfl, rfl, h1, h2⟩ := codeB_nat hc
    have HC := Lib.hid hc
    have HSp := Lib.hid (fun w => split_any (a : Int) s w hreach)
    have ha : codeB (a : Int) 0 = true := codeB_yes (m := 0) h1 (by omega)
    by_cases hs : s.size ≤ 2048
    · have ES : Hid (∀ H e w', SplitAns H (a : Int) s e w' → ∃ g, e = .returned (.tuple #[.slice (some ⟨g, 0, none⟩) a a, .int .i64 0]) ∧ H ≤ g ∧ StrBlk w' g (St.shards a s)) := fun H e w' h => by
        unfold SplitAns at h; rw [if_pos ha, if_pos hs, Int.toNat_natCast] at h; exact h
      have E : Hid (∀ w' e v, e = Ending.returned (.tuple #[v, .int .i64 0]) → w'.ownsRow w.heap.size 9 1 v (a + b) (strV (allS a b s)) → EncodeAns w.heap.size (a : Int) (b : Int) s e w') := fun w' e v he h => by
        unfold EncodeAns; rw [if_pos hc, if_pos hs, Int.toNat_natCast, Int.toNat_natCast]; exact ⟨v, he, h⟩
      have hpar : Hid (∀ A c w, StrsAt w A (St.shards a s) → Calls Try.prog 54 #[.int .i64 (a : Int), .int .i64 (b : Int), .slice A a c] w fun e w' =>
          ∃ g, e = .returned (.slice (some ⟨g, 0, none⟩) b b) ∧ w.heap.size ≤ g ∧ StrBlk w' g (parL a b (St.shards a s) (St.szN a s.size)) ∧ Below w.heap.size w w') := fun A c w h => by
        have h3 := parity_any a b (St.szN a s.size) A c (St.shards a s) w h h1 h2 (St.shards_len a s) (fun x hx => St.shards_size h1 s x hx) (by have := St.sz_bound1 (n := s.size) h1 hs; omega)
        rw [St.shards_len] at h3
        exact h3
      obtain ⟨i0, hi, hz0, hz1, hz2⟩ := info_parts Try.infoStr
      clear hc hs ha
      go_enter Try.func30, Try.ntmps30
      go_wp2_with fail
      refine (isCode_any _ _ _).mono ?_
      rintro e w' ⟨rfl, rfl⟩
      rw [HC.out]
      go_wp2_with fail
      refine (HSp.out _).mono ?_
      rintro e w2 ⟨hans, hb⟩
      obtain ⟨g, rfl, hg, hsb⟩ := ES.out _ _ _ hans
      have B2 := Lib.hid hb
      have S2 := Lib.hid hsb
      clear hans hb hsb
      have HG := Lib.hid hg
      clear hg
      go_wp2_with fail
      refine (hpar.out _ _ _ (StrsAt.blk S2.out)).mono ?_
      rintro e w3 ⟨gp, rfl, hgp, hpb, hb⟩
      have B3 := Lib.hid (B2.out.trans (hb.mono B2.out.size))
      have S3 := Lib.hid (S2.out.below hb)
      have P3 := Lib.hid hpb
      have hown := S3.out.own HG.out (by rw [St.shards_len]; omega)
      rw [St.shards_len] at hown
      have HO := Lib.hid hown
      clear hb hpb B2 S2 hgp hown
      go_wp2_with (at_builtin; refine wpList_append_own _ rfl _ _ 40 rfl w'.heap.size 9 i0 (.string ⟨#[]⟩) 1 16 Try.underlying40 hi hz0 hz1 hz2 rfl (by decide) _ _ _ rfl HO.out ⟨gp, 0, none⟩ b b (strV (parL a b (St.shards a s) (St.szN a s.size))) rfl (by rw [strV_len, parL_len, Nat.mul_one]) P3.out.news (strV_one _) ?c3 ?c4 ?c5 ?_)
      case c3 => unfold maxLen; omega
      case c4 => omega
      case c5 => exact B3.out.size
      intro v' w5 hown' hgrow _
      have HB : Hid (Below w'.heap.size w' w5) := B3.out.grown hgrow B3.out.size (fun k hk => (World.ownsRow.lt HO.out k hk).1)
      have HO5 : Hid (w5.ownsRow w'.heap.size 9 1 v' (a + b) (strV (allS a b s))) := by
        show World.ownsRow _ _ _ _ _ _ _
        unfold allS strV
        rw [List.map_append]
        exact hown'
      clear hown' hgrow
      go_wp2_with fail
      go_ret2
      exact ⟨E.out _ _ _ rfl HO5.out, HB.out⟩
    · have ES : Hid (∀ H e w', SplitAns H (a : Int) s e w' → e = .returned (.tuple #[.slice none 0 0, .int .i64 2])) := fun H e w' h => by
        unfold SplitAns at h; rw [if_pos ha, if_neg hs] at h; exact h
      have E : Hid (∀ w' e, e = Ending.returned (.tuple #[.slice none 0 0, .int .i64 2]) → EncodeAns w.heap.size (a : Int) (b : Int) s e w') := fun w' e he => by
        unfold EncodeAns; rw [if_pos hc, if_neg hs]; exact he
      clear hc hs ha
      go_enter Try.func30, Try.ntmps30
      go_wp2_with fail
      refine (isCode_any _ _ _).mono ?_
      rintro e w' ⟨rfl, rfl⟩
      rw [HC.out]
      go_wp2_with fail
      refine (HSp.out _).mono ?_
      rintro e w2 ⟨hans, hb⟩
      have he := ES.out _ _ _ hans
      subst he
      have B2 := Lib.hid hb
      clear hans hb
      go_wp2_with fail
      go_ret2
      exact ⟨E.out _ _ rfl, B2.out⟩

end Go.Proofs.Ytmnciipfepeccaa
