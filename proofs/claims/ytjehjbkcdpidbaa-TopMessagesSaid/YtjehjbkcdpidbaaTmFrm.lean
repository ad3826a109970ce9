/- Letters that are framed, found and read back; over what is asked of letter; no condition but the range. -/
import Derived.Test.YtjehjbkcdpidbaaTmRow
import Derived.Test.YtjehjbkcdpidbaaTmMath
import Derived.Test.YtjehjbkcdpidbaaRlAll
import Derived.Test.YtjehjbkcdpidbaaB13
import Derived.Test.YtjehjbkcdpidbaaB14
namespace Go.Proofs.Ytjehjbkcdpidbaa
namespace Tm
open Go.RowKit Bk Lt Su

attribute [local go_sem ↓] Go.wp_at_zero Go.wp_at_succ
attribute [local go_sem] floatUpon pick

/-- a letter's bytes -/
def txL (x : LI) : List UInt8 := letL x.l
def txB (x : LI) : ByteArray := ⟨(letL x.l).toArray⟩

/-- a letter that is kept -/
structure Good (w : World) (x : LI) : Prop where
  ok : LetOk x.l
  len : (txL x).length ≤ 4096
  val : LetVal w x.A x.B x.c x.d x.l

def lastN (K : List LI) : Nat := match K.getLast? with | none => 0 | some x => (txL x).length + 6

theorem lastN_snoc (K : List LI) (x : LI) : lastN (K ++ [x]) = (txL x).length + 6 := by unfold lastN; rw [List.getLast?_concat]

def frK (K : List LI) : List UInt8 := framesL (K.map txL)

theorem frK_snoc (K : List LI) (x : LI) : frK (K ++ [x]) = frK K ++ frameL (txL x) := by
  unfold frK
  rw [List.map_append]
  exact framesL_snoc _ _

theorem frK_len {K : List LI} (h : ∀ x ∈ K, (txL x).length ≤ 4096) : (frK K).length ≤ 4102 * K.length := by
  induction K with
  | nil => exact Nat.zero_le _
  | cons x r ih =>
    have h1 := ih (fun y hy => h y (List.mem_cons_of_mem _ hy))
    have h2 := h x (List.mem_cons_self ..)
    unfold frK at h1 ⊢
    rw [List.map_cons, framesL_cons, List.length_append, frameL_len, List.length_cons]
    omega

theorem list_sumA (X Y : List UInt8) (h : X.length + Y.length ≤ 1000000000) (W : World) : (Op.stringOp .add ⟨X.toArray⟩ ⟨Y.toArray⟩).run Try.prog W = .ok (.string ⟨(X ++ Y).toArray⟩) W := by
  have h1 : (⟨X.toArray⟩ : ByteArray).size = X.length := text_size X
  have h2 : (⟨Y.toArray⟩ : ByteArray).size = Y.length := text_size Y
  rw [run_string_add_sum W _ _ (by omega), ByteArray.mk_append_mk]

theorem frame_B (l : List UInt8) : frameB ⟨l.toArray⟩ = ⟨(frameL l).toArray⟩ := by unfold frameB; simp

theorem text_B (l : List UInt8) : (⟨l.toArray⟩ : ByteArray).data.toList = l := by simp

theorem turn_at {F0 t : List UInt8} {k : Nat} (h : 2 + k < (frameL t).length) (h2 : F0.length + (2 + k) < (F0 ++ frameL t).length) :
    (F0 ++ frameL t).set (F0.length + (2 + k)) ((F0 ++ frameL t)[F0.length + (2 + k)] ^^^ 16) = F0 ++ (frameL t).set (2 + k) ((frameL t)[2 + k] ^^^ 16) := by
  rw [List.set_append_right _ _ (by omega), List.getElem_append_right (by omega)]
  simp only [Nat.add_sub_cancel_left]

theorem letL_pos (l : Let) : 1 ≤ (letL l).length := by
  have h := Pk.plain_pos (numsOf l).length
  unfold letL Pk.bytesL
  rw [List.length_append]
  omega

theorem own_form1 {e : TypeId} {H : Nat} {v : Value} {k : Nat} {xs : List Value} {W : World} (h : W.ownsRow H e 1 v k xs) : ∃ (X : Option Addr) (c : Nat), v = .slice X k c ∧ k ≤ c := by
  rcases h with ⟨hl, ⟨hn, h0⟩ | ⟨i, cap, cur, hv, hb, hg, h1, rest⟩⟩
  · exact ⟨none, 0, by rw [hn, h0], by omega⟩
  · exact ⟨_, cap, hv, h1⟩

/-- the parts of a letter behind the first cell of an entry -/
theorem own_form9 {e : TypeId} {H : Nat} {v : Value} {k : Nat} {xs : List Value} {W : World} (h : W.ownsRow H e 9 v k xs) : ∃ (X : Option Addr) (c : Nat), v = .slice X k c ∧ k ≤ c := by
  rcases h with ⟨hl, ⟨hn, h0⟩ | ⟨i, cap, cur, hv, hb, hg, h1, rest⟩⟩
  · exact ⟨none, 0, by rw [hn, h0], by omega⟩
  · exact ⟨_, cap, hv, h1⟩

set_option maxRecDepth 20000 in
set_option maxHeartbeats 8000000 in
theorem framed_any (HE : EncodeAll) (HD : DecodeAll) (v : Value) (L : List LI) (at_ : Int) (w : World) (hv : LetsOf w v L) :
    Calls Try.prog 21 #[v, .int .i64 at_] w fun e w' => e = .returned (.bool true) ∧ Below w.heap.size w w' := by
  obtain ⟨A, c, rfl, hat, hl16, hok⟩ := hv
  have rb : reachBytes = 140737488351232 := rfl
  have hlen : (L.length : Int) ≤ 9223372036854775807 := by omega
  have HAt := Lib.hid hat
  have HOk := Lib.hid hok
  have HE1 := Lib.hid (fun (x : LI) W (h : LetVal W x.A x.B x.c x.d x.l) => HE x.A x.B x.c x.d x.l W h)
  have HD1 := Lib.hid (fun s W (h : s.size ≤ 1000000000000000) => HD s W h)
  have HFr := Lib.hid (fun t W (h : t.size ≤ 140737488351232) => frame_any t W h)
  have HAl := Lib.hid (fun t W (h : t.size ≤ 50000000000000) => all_own t W h)
  obtain ⟨i0, z0, hI0, hz0, hz1, hz2, hz3⟩ := info_let
  clear hat hok hl16 rb HE HD
  go_enter Try.func21, Try.ntmps21
  go_wp2_with fail
  go_loopw [5, 6, 7, 8] (fun kv sv lv iv wr => ∃ (j : Nat) (K : List LI) (s : ByteArray), j ≤ L.length ∧ j ≤ 10 ∧ K.length ≤ j ∧ sv = .string s ∧ lv = .int .i64 (lastN K : Int) ∧ iv = .int .i64 (j : Int) ∧ Hid (s = ⟨(frK K).toArray⟩) ∧ Hid (wr.ownsRow w.heap.size 71 9 kv K.length (K.flatMap lcs)) ∧ Hid (∀ x ∈ K, Good w x) ∧ Hid (Below w.heap.size w wr)) (fun _ _ _ iv _ => L.length - (intOf iv).toNat)
  case atStart => exact ⟨0, [], ⟨#[]⟩, by omega, by omega, by simp, rfl, rfl, rfl, Lib.hid rfl, World.ownsRow_nil _ _ _ _, Lib.hid (fun x hx => by cases hx), Below.refl _ _⟩
  case round =>
    obtain ⟨j, K, s, hj, hj2, hK, rfl, rfl, rfl, hs, hown, hgood, hbel⟩ := hrel
    by_cases hlt : j < L.length ∧ j < 10
    · obtain ⟨hlt, hlt2⟩ := hlt
      have pj : (j : Int) < (L.length : Int) := by omega
      have pj2 : (j : Int) < 10 := by omega
      obtain ⟨ad, rfl, hab, hc⟩ := HAt.out (by omega)
      have hc2 := hc j hlt
      have hval := HOk.out _ (List.getElem_mem hlt)
      generalize L[j] = X at hc2 hval
      have x0 := hc2 0 _ rfl
      have x1 := hc2 1 _ rfl
      have x2 := hc2 2 _ rfl
      have x3 := hc2 3 _ rfl
      have x4 := hc2 4 _ rfl
      have x5 := hc2 5 _ rfl
      have x6 := hc2 6 _ rfl
      have x7 := hc2 7 _ rfl
      have x8 := hc2 8 _ rfl
      rw [← cell_kept hbel.out _ (by rw [st_block]; exact hab)] at x0 x1 x2 x3 x4 x5 x6 x7 x8
      rw [← add_field _ _ _ (by omega)] at x1 x2 x3 x4 x5 x6 x7 x8
      rw [Nat.add_zero] at x0
      have HX : Hid (∀ W, Below w.heap.size w W → ∀ (q : Nat) (v : Value), (lcs X)[q]? = some v → W.cell? (ad.add (j * 9 + q)) = some v) := Lib.hid (fun W hb q v hq => by
        rw [cell_kept hb _ (by rw [st_block]; exact hab)]
        exact hc2 q v hq)
      have HEn := Lib.hid (HE1.out X wr (hval.below hbel.out))
      have HVl := Lib.hid hval
      clear hc hc2 hval hab
      by_cases hm : LetOk X.l
      case neg =>
        rw [encV_bad hm] at HEn
        clear hm
        unfold letV at HEn
        go_wp2_with fail
        refine HEn.out.mono ?_
        rintro e w2 ⟨rfl, hb⟩
        have HB2 := Lib.hid (hbel.out.trans (hb.mono hbel.out.size))
        have HO2 := Lib.hid (st_keep hown.out hb)
        clear hb x0 x1 x2 x3 x4 x5 x6 x7 x8 HEn
        go_wp2_with fail
        go_roundw
        case rel => exact ⟨j + 1, K, s, by omega, by omega, by omega, rfl, rfl, by go_num, hs, HO2.out, hgood, HB2.out⟩
        case measure => simp [intOf]; omega
      rw [encV_ok hm] at HEn
      have htb : (⟨(letL X.l).toArray⟩ : ByteArray) = ⟨(txL X).toArray⟩ := rfl
      have hsz : (⟨(txL X).toArray⟩ : ByteArray).size = (txL X).length := text_size _
      have hbig : (txL X).length ≤ 1000000000000000 := by rw [← hsz]; exact letL_size hm
      rw [htb] at HEn
      unfold letV at HEn
      clear htb
      by_cases h4 : 4096 < (txL X).length
      · have p4 : (4096 : Int) < ((⟨(txL X).toArray⟩ : ByteArray).size : Int) := by rw [hsz]; omega
        generalize (⟨(txL X).toArray⟩ : ByteArray) = sb at *
        go_wp2_with fail
        refine HEn.out.mono ?_
        rintro e w2 ⟨rfl, hb⟩
        have HB2 := Lib.hid (hbel.out.trans (hb.mono hbel.out.size))
        have HO2 := Lib.hid (st_keep hown.out hb)
        clear hb x0 x1 x2 x3 x4 x5 x6 x7 x8 HEn
        go_wp2_with fail
        go_roundw
        case rel => exact ⟨j + 1, K, s, by omega, by omega, by omega, rfl, rfl, by go_num, hs, HO2.out, hgood, HB2.out⟩
        case measure => simp [intOf]; omega
      · have p4 : ((⟨(txL X).toArray⟩ : ByteArray).size : Int) ≤ 4096 := by rw [hsz]; omega
        have HF2 := Lib.hid (fun W => HFr.out ⟨(txL X).toArray⟩ W (by rw [hsz]; omega))
        rw [frame_fits (by rw [hsz]; omega), frame_B] at HF2
        have hgd : ∀ x ∈ K ++ [X], Good w x := fun x hx => by
          rcases List.mem_append.1 hx with h | h
          · exact hgood.out x h
          · obtain rfl := List.mem_singleton.1 h
            exact ⟨hm, by omega, HVl.out⟩
        have hkl := frK_len (fun x hx => (hgood.out x hx).len)
        have hfl := frameL_len (txL X)
        have hadd := fun W => list_sumA (frK K) (frameL (txL X)) (by omega) W
        rw [← frK_snoc] at hadd
        rw [← hs.out] at hadd
        have hfz : (⟨(frameL (txL X)).toArray⟩ : ByteArray).size = (txL X).length + 6 := by rw [text_size, hfl]
        have hlast := lastN_snoc K X
        have hfz2 : ((⟨(frameL (txL X)).toArray⟩ : ByteArray).size : Int) = (lastN (K ++ [X]) : Int) := by rw [hfz, hlast]
        obtain ⟨s2, hs2⟩ : ∃ s2 : ByteArray, s2 = ⟨(frK (K ++ [X])).toArray⟩ := ⟨_, rfl⟩
        rw [← hs2] at hadd
        have HS2 := Lib.hid hs2
        have HGd := Lib.hid hgd
        have hKl : (K ++ [X]).length = K.length + 1 := by rw [List.length_append]; rfl
        have HKl := Lib.hid hKl
        have HFz := Lib.hid hfz2
        clear hs2 hgd hkl hfl hfz hlast hKl hsz hbig h4 hm hfz2
        generalize (⟨(frameL (txL X)).toArray⟩ : ByteArray) = fb at *
        generalize (⟨(txL X).toArray⟩ : ByteArray) = sb at *
        go_wp2_with fail
        refine HEn.out.mono ?_
        rintro e w2 ⟨rfl, hb⟩
        have HB2 := Lib.hid (hbel.out.trans (hb.mono hbel.out.size))
        have HO2 := Lib.hid (st_keep hown.out hb)
        clear hb x0 x1 x2 x3 x4 x5 x6 x7 x8 HEn
        go_wp2_with fail
        refine (HF2.out _).mono ?_
        rintro e w3 ⟨rfl, hb⟩
        have HB3 := Lib.hid (HB2.out.trans (hb.mono HB2.out.size))
        have HO3 := Lib.hid (st_keep HO2.out hb)
        have x0 := HX.out _ HB3.out 0 _ rfl
        have x1 := HX.out _ HB3.out 1 _ rfl
        have x2 := HX.out _ HB3.out 2 _ rfl
        have x3 := HX.out _ HB3.out 3 _ rfl
        have x4 := HX.out _ HB3.out 4 _ rfl
        have x5 := HX.out _ HB3.out 5 _ rfl
        have x6 := HX.out _ HB3.out 6 _ rfl
        have x7 := HX.out _ HB3.out 7 _ rfl
        have x8 := HX.out _ HB3.out 8 _ rfl
        rw [← add_field _ _ _ (by omega)] at x1 x2 x3 x4 x5 x6 x7 x8
        rw [Nat.add_zero] at x0
        clear hb HF2 HB2 HO2
        have hl9 : (lcs X).length = 1 * 9 := rfl
        go_wp2_with (at_builtin; refine wpList_append_own_at _ rfl _ _ 44 rfl w.heap.size 71 i0 z0 9 112 Try.underlying44 hI0 hz0 hz2 hz3 hz1 (by decide) _ K.length (K.flatMap lcs) rfl (HO3.out.alloc _) ⟨w3.heap.size, 0, none⟩ 1 1 (lcs X) rfl hl9 (new_cells _ X _) (one_cells X) ?c3 ?c4 ?c5 ?_)
        case c3 => unfold maxLen; omega
        case c4 => omega
        case c5 => have := HB3.out.size; simp; omega
        intro v' w5 hown' hgrow _ _
        have HB5 : Hid (Below w.heap.size w w5) := Lib.hid ((HB3.out.alloc HB3.out.size _).grown hgrow (by have := HB3.out.size; simp; omega) (fun k hk => (HO3.out.lt k hk).1))
        have hown2 := hown'
        rw [← flat_snoc] at hown2
        have HO5 := Lib.hid hown2
        clear hown' hown2 hgrow HO3 x0 x1 x2 x3 x4 x5 x6 x7 x8
        go_wp2_with fail
        go_roundw
        case rel => exact ⟨j + 1, K ++ [X], s2, by omega, by omega, by rw [HKl.out]; omega, rfl, by rw [← HFz.out], by go_num, HS2.out, by rw [HKl.out]; exact HO5.out, HGd.out, HB5.out⟩
        case measure => simp [intOf]; omega
    · have hx : (¬ (j : Int) < (L.length : Int)) ∨ ((j : Int) < (L.length : Int) ∧ ¬ (j : Int) < 10) := by omega
      have hkl := frK_len (fun x hx => (hgood.out x hx).len)
      have hTl : ∀ t ∈ K.map txL, t.length ≤ 4096 := fun t ht => by
        obtain ⟨x, hx, rfl⟩ := List.mem_map.1 ht
        exact (hgood.out x hx).len
      have hsz : s.size = (frK K).length := by rw [hs.out]; exact text_size _
      have hAR : allR s = ((K.map txL).map (fun t => ⟨t.toArray⟩), s.size, 0) := by rw [hsz, hs.out]; exact all_frames hTl
      have HA2 := Lib.hid (fun W => HAl.out s W (by rw [hsz]; omega))
      rw [hAR] at HA2
      simp only [List.length_map] at HA2
      have hsb : (s.size : Int) ≤ 41020 := by rw [hsz]; omega
      obtain ⟨Y, cY, rfl, hkc⟩ := own_form9 hown.out
      have hTS : ∀ q (h : q < K.length), (strV ((K.map txL).map (fun t => (⟨t.toArray⟩ : ByteArray))))[q]? = some (.string ⟨(txL K[q]).toArray⟩) := fun q h => by
        rw [strV_at (by simpa using h)]
        simp
      have HTS := Lib.hid hTS
      have HSz := Lib.hid hsz
      have HTl := Lib.hid hTl
      clear hAR hkl hsz hTl hTS HAt HOk HE1 HFr hkc
      generalize (K.map txL).map (fun t => (⟨t.toArray⟩ : ByteArray)) = TS at HA2 HTS
      rcases hx with pj | ⟨pj, pj2⟩
      all_goals
        go_wp2_with fail
        refine (HA2.out _).mono ?_
        rintro e w2 ⟨v2, rfl, hown2, hb⟩
        obtain ⟨X2, c2, rfl, -⟩ := own_form1 hown2
        have HB2 := Lib.hid (hbel.out.trans (hb.mono hbel.out.size))
        have HK2 := Lib.hid (st_keep hown.out hb)
        have HT2 := Lib.hid hown2
        clear hb hown2 HA2
        go_wp2_with fail
        go_loopw [88] (fun i wr => ∃ q : Nat, q ≤ K.length ∧ i = .int .i64 (q : Int) ∧ Hid (Below w2.heap.size w2 wr)) (fun i _ => K.length - (intOf i).toNat)
        case atStart => exact ⟨0, by omega, rfl, Below.refl _ _⟩
        case round =>
          obtain ⟨q, hq, rfl, hb2⟩ := hrel
          by_cases hqlt : q < K.length
          · have pq : (q : Int) < (K.length : Int) := by omega
            have hT := st_keep HT2.out hb2.out
            obtain ⟨g2, cap2, hv2, hX1, hX2⟩ := World.ownsRow.form hT (by omega)
            simp only [Value.slice.injEq] at hv2
            obtain ⟨rfl, -, rfl⟩ := hv2
            have hcell := (hT.cellAt q (by omega)).trans (HTS.out q hqlt)
            have hgd := hgood.out _ (List.getElem_mem hqlt)
            have hfl9 := fun r (hr : r < 9) => flat_at hqlt hr
            generalize K[q] = X at hcell hgd hfl9
            have hD := fun W => HD1.out ⟨(txL X).toArray⟩ W (letL_size hgd.ok)
            have hdx : decX ⟨(txL X).toArray⟩ = (X.l, 0) := decX_bytes hgd.ok
            rw [hdx] at hD
            unfold letV at hD
            simp only at hD
            have HD2 := Lib.hid hD
            have HGd := Lib.hid hgd
            have HF9 := Lib.hid hfl9
            clear hD hdx hgd hfl9 hX1 hX2 hT
            generalize (⟨(txL X).toArray⟩ : ByteArray) = sb at *
            go_wp2_with fail
            refine (HD2.out _).mono ?_
            rintro e w4 ⟨A4, B4, c4, d4, rfl, hval, hb⟩
            have hal : Below w4.heap.size w4 (w4.alloc (.cells #[.int .i64 X.l.kind, .int .i64 X.l.src, .int .i64 X.l.dst, .int .i64 X.l.txn, .int .i64 X.l.ts, .int .i64 X.l.code, .string X.l.text, .slice A4 X.l.keys.length c4, .slice B4 X.l.ws.length d4] 71)) := (Below.refl _ w4).alloc (Nat.le_refl _) _
            have HC5 : Hid (Cel (w4.alloc (.cells #[.int .i64 X.l.kind, .int .i64 X.l.src, .int .i64 X.l.dst, .int .i64 X.l.txn, .int .i64 X.l.ts, .int .i64 X.l.code, .string X.l.text, .slice A4 X.l.keys.length c4, .slice B4 X.l.ws.length d4] 71)) w4.heap.size 71 [.int .i64 X.l.kind, .int .i64 X.l.src, .int .i64 X.l.dst, .int .i64 X.l.txn, .int .i64 X.l.ts, .int .i64 X.l.code, .string X.l.text, .slice A4 X.l.keys.length c4, .slice B4 X.l.ws.length d4]) := Lib.hid (blk1 w4 _).2
            have HV5 := Lib.hid (hval.below hal)
            have hb4 := hb2.out.trans (hb.mono hb2.out.size)
            have HB5 := Lib.hid (hb4.trans (hal.mono hb4.size))
            clear hb hal hval HD2 hb4 hcell
            go_upto_region 21 with fail
            generalize w4.alloc (.cells #[.int .i64 X.l.kind, .int .i64 X.l.src, .int .i64 X.l.dst, .int .i64 X.l.txn, .int .i64 X.l.ts, .int .i64 X.l.code, .string X.l.text, .slice A4 X.l.keys.length c4, .slice B4 X.l.ws.length d4] 71) = w5 at HC5 HV5 HB5 ⊢
            generalize w4.heap.size = g5 at HC5 ⊢
            have hK5 := st_keep HK2.out HB5.out
            obtain ⟨g3, cap3, hv3, hX1, hX2⟩ := World.ownsRow.form hK5 (by omega)
            simp only [Value.slice.injEq] at hv3
            obtain ⟨rfl, -, rfl⟩ := hv3
            have HKc := Lib.hid (fun r (hr : r < 9) u (hu : (lcs X)[r]? = some u) => show w5.cell? ⟨g3, q * 9 + r, none⟩ = some u from by
              have := hK5.cells (g := g3) rfl (q * 9 + r) u (by rw [HF9.out r hr]; exact hu)
              rwa [addr_head] at this)
            have hg3 : g3 < w5.heap.size := (hK5.lt g3 rfl).2
            have HG3 := Lib.hid hg3
            clear hK5 hX1 hX2 hg3
            have HSame := Lib.hid (fun W (h : Below w5.heap.size w5 W) => sameV A4 B4 X.A X.B c4 d4 X.c X.d X.l W (HV5.out.below h) (HGd.out.val.ks.below (HB2.out.trans ((HB5.out.trans (h.mono HB5.out.size)).mono HB2.out.size))) (HGd.out.val.ws.below (HB2.out.trans ((HB5.out.trans (h.mono HB5.out.size)).mono HB2.out.size))))
            unfold letV at HSame
            refine wp_region_said 11 [98, 99, 100, 101, 102, 103, 104, 105, 106, 107, 108]
              [.is (.int .i64 0), .is (.bool false), .is (.bool false), .is (.agg #[.int .i64 X.l.kind, .int .i64 X.l.src, .int .i64 X.l.dst, .int .i64 X.l.txn, .int .i64 X.l.ts, .int .i64 X.l.code, .string X.l.text, .slice A4 X.l.keys.length c4, .slice B4 X.l.ws.length d4]), .is (.slice (some ⟨g3, 0, none⟩) K.length cY), .is (.int .i64 (q : Int)), .is (.pointer (some ⟨g3, q * 9, none⟩)), .is (.agg #[.int .i64 X.l.kind, .int .i64 X.l.src, .int .i64 X.l.dst, .int .i64 X.l.txn, .int .i64 X.l.ts, .int .i64 X.l.code, .string X.l.text, .slice X.A X.l.keys.length X.c, .slice X.B X.l.ws.length X.d]), .is (.bool true), .is (.bool false), .is (.bool false)]
              (fun W => Below w5.heap.size w5 W) (by kernel_rfl) (by kernel_rfl) (by kernel_rfl) (by kernel_rfl) (by kernel_rfl) (fun _ _ h hb => h.trans (hb.mono h.size)) (Below.refl _ _) ?steps ?last
            case steps =>
              simp only [List.take_succ_cons, List.take_zero]
              refine ⟨?_, ?_, ?_, ?_, ?_, ?_, ?_, ?_, ?_, ?_, ?_, trivial⟩
              all_goals
                intro vs W ρ hρ hc hf hg hI hH hd R' hR
                have hC := HC5.out.below hI
                have k0 := hC.cell (i := 0) rfl
                have k1 := hC.cell (i := 1) rfl
                have k2 := hC.cell (i := 2) rfl
                have k3 := hC.cell (i := 3) rfl
                have k4 := hC.cell (i := 4) rfl
                have k5 := hC.cell (i := 5) rfl
                have k6 := hC.cell (i := 6) rfl
                have k7 := hC.cell (i := 7) rfl
                have k8 := hC.cell (i := 8) rfl
                have HCk := Lib.hid (fun r (hr : r < 9) u (hu : (lcs X)[r]? = some u) => show W.cell? ⟨g3, q * 9 + r, none⟩ = some u from (cell_kept hI ⟨g3, q * 9 + r, none⟩ HG3.out).trans (HKc.out r hr u hu))
                have y0 := HCk.out 0 (by omega) _ rfl
                have y1 := HCk.out 1 (by omega) _ rfl
                have y2 := HCk.out 2 (by omega) _ rfl
                have y3 := HCk.out 3 (by omega) _ rfl
                have y4 := HCk.out 4 (by omega) _ rfl
                have y5 := HCk.out 5 (by omega) _ rfl
                have y6 := HCk.out 6 (by omega) _ rfl
                have y7 := HCk.out 7 (by omega) _ rfl
                have y8 := HCk.out 8 (by omega) _ rfl
                rw [Nat.add_zero] at y0
                have HI := Lib.hid hI
                have HR := Lib.hid hR
                simp [depsOf, Region.binds, sayAt, Say.holds] at hd
                clear hR hI hC
                simp only [Region.wanted, hd, boolOf]
                go_simp
                first
                  | exact HR.out _ _ (by simp [sayAt, Say.holds]) (Below.refl _ _) (by simp [sayAt, Say.isBlk])
                  | (refine (HSame.out _ HI.out).mono ?_; rintro e w' ⟨rfl, hb⟩; exact ⟨_, rfl, HR.out _ _ (by simp [sayAt, Say.holds]) hb (by simp [sayAt, Say.isBlk])⟩)
                  | trace_state
            case last =>
              intro vs W hI hb hg hd
              have e10 := hg 10 (by omega)
              simp only [sayAt, Say.holds, List.getD_cons_succ, List.getD_cons_zero] at e10
              simp only [List.take_succ_cons, List.take_zero, List.drop_succ_cons, List.drop_zero, putAll, Act.put, List.setIfInBounds_toArray, List.set_cons_succ, List.set_cons_zero, Nat.zero_add, Nat.reduceAdd]
              rw [e10]
              have HB6 := Lib.hid (HB5.out.trans (hI.mono HB5.out.size))
              clear e10 hg hd hb hI HSame HKc HC5 HV5
              go_wp2_with fail
              go_roundw
              case rel => exact ⟨q + 1, by omega, by go_num, HB6.out⟩
              case measure => simp [intOf]; omega
          · obtain rfl : q = K.length := by omega
            by_cases hK0 : K = []
            · subst hK0
              go_wp2_with fail
              go_ret
              exact ⟨rfl, HB2.out.trans (hb2.out.mono HB2.out.size)⟩
            · obtain ⟨K0, x, hKx⟩ : ∃ K0 x, K = K0 ++ [x] := ⟨K.dropLast, K.getLast hK0, (List.dropLast_concat_getLast hK0).symm⟩
              have hgx := hgood.out x (by rw [hKx]; simp)
              have hg0 : ∀ t ∈ K0.map txL, t.length ≤ 4096 := fun t ht => HTl.out t (by rw [hKx, List.map_append]; exact List.mem_append_left _ ht)
              obtain ⟨t, ht⟩ : ∃ t, t = (txL x).length := ⟨_, rfl⟩
              have ht1 : 1 ≤ t := by rw [ht]; exact letL_pos x.l
              have ht4 : t ≤ 4096 := by rw [ht]; exact hgx.len
              have hla : lastN K = t + 6 := by rw [hKx, lastN_snoc, ht]
              have hKl : K.length = K0.length + 1 := by rw [hKx, List.length_append]; rfl
              obtain ⟨f0, hf0⟩ : ∃ f0, f0 = (frK K0).length := ⟨_, rfl⟩
              have hfK : frK K = frK K0 ++ frameL (txL x) := by rw [hKx]; exact frK_snoc K0 x
              have hfl := frameL_len (txL x)
              have hssz : s.size = f0 + (t + 6) := by rw [HSz.out, hfK, List.length_append, hfl, hf0, ht]
              obtain ⟨k, hk⟩ : ∃ k, k = amongV at_ t := ⟨_, rfl⟩
              have hkt : k < t := by rw [hk]; exact amongV_lt at_ t ht1
              have hAm := fun W => among_any at_ t W ht1 (by omega)
              rw [← hk] at hAm
              have HAm := Lib.hid hAm
              have h2k : 2 + k < (frameL (txL x)).length := by rw [hfl, ← ht]; omega
              obtain ⟨F, hF⟩ : ∃ F, F = frK K := ⟨_, rfl⟩
              have hFl : F.length = s.size := by rw [hF, HSz.out]
              obtain ⟨ix, hix⟩ : ∃ ix, ix = f0 + (2 + k) := ⟨_, rfl⟩
              have hixF : ix < F.length := by rw [hFl]; omega
              have hturn : F.set ix (F[ix] ^^^ 16) = frK K0 ++ (frameL (txL x)).set (2 + k) ((frameL (txL x))[2 + k] ^^^ 16) := by
                have h1 := turn_at (F0 := frK K0) h2k (by rw [← hf0, ← hix, ← hfK, ← hF]; exact hixF)
                simp only [hF, hfK, hix, hf0]
                exact h1
              have hstop := all_stop (l := K0.map txL) (X := (frameL (txL x)).set (2 + k) ((frameL (txL x))[2 + k] ^^^ 16)) hg0 (fun e => by have := congrArg List.length e; rw [List.length_set, hfl] at this; simp at this) (turn16 hgx.len h2k)
              have hfr0 : (framesL (K0.map txL)).length = f0 := by rw [hf0]; rfl
              rw [hfr0, show framesL (K0.map txL) = frK K0 from rfl, ← hturn] at hstop
              have hsF : (⟨F.toArray⟩ : ByteArray) = s := by rw [hF, hs.out]
              have hcv := run_bytes_of_string (P := Try.prog) wr 9 52 5 s Try.underlying9 Try.underlying52 Try.underlying5
              have hge := grownCap_ge wr s.size 0 5
              have hle := grownCap_le_maxLen wr s.size 0 5 (by unfold maxLen; omega)
              obtain ⟨rest, hr⟩ := bytesRow_list s (grownCap wr s.size 0 5)
              have hsd : s.data.toList = F := by rw [← hsF]
              rw [hr, hsd] at hcv
              have hBw := HB2.out.trans (hb2.out.mono HB2.out.size)
              have hC := Lib.hid (show CelM (wr.drew.alloc (.cells (Lib.byteCells F ++ rest).toArray 5 ((Lib.byteCells F ++ rest).toArray.size, (Lib.byteCells F ++ rest).toArray.size + 1))) wr.heap.size 5 (Lib.byteCells F ++ rest) from ⟨_, _, by simp, heap_alloc_new wr.drew _⟩)
              have hB : Hid (Below w.heap.size w (wr.drew.alloc (.cells (Lib.byteCells F ++ rest).toArray 5 ((Lib.byteCells F ++ rest).toArray.size, (Lib.byteCells F ++ rest).toArray.size + 1)))) := hBw.drew.alloc hBw.size _
              have hgH : w.heap.size ≤ wr.heap.size := hBw.size
              generalize (wr.drew.alloc (.cells (Lib.byteCells F ++ rest).toArray 5 ((Lib.byteCells F ++ rest).toArray.size, (Lib.byteCells F ++ rest).toArray.size + 1))) = W2 at hcv hC hB
              generalize grownCap wr s.size 0 5 = cap at hcv hge hle
              have HG := Lib.hid hgH
              generalize wr.heap.size = g at hcv hC HG
              have hx8 : bits .xor .u8 (F[ix].toNat : Int) 16 = ((F[ix].toNat ^^^ 16 : Nat) : Int) := u8_xor_nat' F[ix].toNat 16 F[ix].toNat_lt (by decide)
              have hflip := flip_cells F rest ix (F[ix] ^^^ 16) hixF
              rw [show F[ix].toNat ^^^ 16 = (F[ix] ^^^ 16).toNat from rfl] at hx8
              have hcl := hC.out.cell (cell_at F rest ix hixF)
              have hfre := hC.out.free (i := ix) (by rw [List.length_append, Lib.byteCells_length]; omega)
              have hFsl : (F.set ix (F[ix] ^^^ 16)).length = s.size := by rw [List.length_set, hFl]
              generalize F.set ix (F[ix] ^^^ 16) = F2 at hflip hstop hFsl
              generalize F[ix] ^^^ 16 = yv at hx8 hflip
              generalize F[ix].toNat = av at hx8 hcl
              have HFlip := Lib.hid hflip
              have HStop := Lib.hid hstop
              have hk0 : ¬ (K.length : Int) = 0 := by omega
              have hk02 : ((K.length : Int) == 0) = false := by simpa using hk0
              have hsub6 : (lastN K : Int) - 6 = (t : Int) := by omega
              have hs1 : (s.size : Int) - (lastN K : Int) = (f0 : Int) := by omega
              have hs2 : (f0 : Int) + 2 = ((f0 + 2 : Nat) : Int) := by omega
              have hs3 : ((f0 + 2 : Nat) : Int) + (k : Int) = (ix : Int) := by omega
              have hkm : (K.length : Int) - 1 = (K0.length : Int) := by omega
              have hixs : (ix : Int) < (s.size : Int) := by omega
              have hb1 : (lastN K : Int) ≤ 4102 := by omega
              have hb3 : (f0 : Int) ≤ 41020 := by omega
              have hb4 : (k : Int) ≤ 4096 := by omega
              have hK10 : (K.length : Int) ≤ 10 := by omega
              generalize f0 + 2 = f2 at hs2 hs3
              generalize lastN K = la at *
              have HBg := Lib.hid (show g = g from rfl)
              have HA3 := Lib.hid (fun W => HAl.out ⟨F2.toArray⟩ W (by rw [text_size, hFsl]; omega))
              rw [HStop.out] at HA3
              simp only [List.length_map] at HA3
              have HFs := Lib.hid hFsl
              clear hflip hstop hturn hKx hgx hg0 ht hla hKl hf0 hfK hfl hssz hk hkt hAm h2k hF hFl hix hixF hfr0 hsF hr hsd hBw hgH hge hle hFsl ht1 ht4 hK0
              go_wp2_with fail
              refine (HAm.out _).mono ?_
              rintro e w3 ⟨rfl, he3⟩
              obtain rfl := he3
              clear hcv HAm
              have hC2 : CelM (w3.setCell ⟨g, ix, none⟩ (.int .u8 (yv.toNat : Int))) g 5 (Lib.byteCells F2 ++ rest) := by
                rw [← HFlip.out]
                exact hC.out.set
              have hcv2 := celm_string hC2 s.size cap HFs.out.symm
              have HBs := Lib.hid (hB.out.setCell (p := ⟨g, ix, none⟩) HG.out (.int .u8 (yv.toNat : Int)))
              clear hC2
              go_wp2_with fail
              refine (HA3.out _).mono ?_
              rintro e w6 ⟨v6, rfl, hown6, hb6⟩
              obtain ⟨X6, c6, rfl, -⟩ := own_form1 hown6
              have HB6 := Lib.hid (HBs.out.trans (hb6.mono HBs.out.size))
              clear hown6 hb6 HA3 hcv2
              go_wp2_with fail
              go_ret
              exact ⟨rfl, HB6.out⟩

end Tm
end Go.Proofs.Ytjehjbkcdpidbaa
